/- OrderAsks. -/
import Derived.Test.YtkhhkgfaakgdfaaM33
import Derived.Test.YtkhhkgfaakgdfaaM35
import Derived.Test.YtkhhkgfaakgdfaaM37
namespace Go.Proofs.Ytkhhkgfaakgdfaa.pg
open Go.ChangeShapes Go.WideShapes Go.ChangeAt Go.RowKit Go.Shelf
set_option linter.unusedVariables false
set_option linter.unusedSimpArgs false
set_option maxRecDepth 100000
attribute [local go_sem ↓] Go.wp_at_zero Go.wp_at_succ
theorem past_same {l : List Ev} (hlen : l.length ≤ 256) (hrt : ∀ x ∈ l, rightP x) {B : Nat → Nat → Bool} (hB : Tells (dpf l) B) {i : Nat} (hi : i < l.length) : lst (fPast l i i) 256 = lst (fun k => B k i) l.length := by
  rw [lst_cut 256 hlen fun k h1 _ => by unfold fPast; have : decide (k < i) = false := by simp; omega
                                        rw [this, Bool.false_and]]
  refine lst_congr _ fun k hk => ?_
  unfold fPast
  rw [bef_is hrt hB hk hi]
  by_cases h : k < i
  · simp [h]
  · have : B k i = false := by
      rw [Bool.eq_false_iff]
      intro q
      exact h ((hB k i).mp q).lt
    rw [this, Bool.and_false]
theorem place_is (l : List Ev) (la : Option Addr) (lc : Nat) (i : Int) (hI : (l.length : Int) ≤ 9223372036854775807) (R : Bool) (hR : decide (0 ≤ i ∧ i < l.length) = R) (w : World) : Calls Try.prog 25 #[.slice la l.length lc, .int .i64 i] w fun e w' => e = .returned (.bool R) ∧ w' = w := by
  have := place_any l la lc i hI w
  rwa [hR] at this
set_option maxHeartbeats 2000000 in
theorem asks_out (l : List Ev) (la : Option Addr) (lc : Nat) (i j : Int) (w : World) (hl : Rows w 26 la lc (l.map Ev.cells)) (h : ¬ (checkP l 0 ∧ (0 ≤ i ∧ i < l.length))) : Calls Try.prog 4 #[.slice la l.length lc, .int .i64 i, .int .i64 j] w fun e w' => e = .returned (.bool true) ∧ Below w.heap.size w w' := by
  have hlI := rows_len hl
  have hlH : Hid (Rows w 26 la lc (l.map Ev.cells)) := hl
  have cS : ∀ wx, Calls Try.prog 16 #[] wx fun e w' => e = .returned (.bool true) ∧ Below wx.heap.size wx w' := fun wx => speaks12_any wx
  obtain ⟨c, hc⟩ := check_ex l
  have cK : ∀ wx, Below w.heap.size w wx → Calls Try.prog 15 #[.slice la l.length lc] wx fun e w' => e = .returned (.int .i64 c) ∧ Below wx.heap.size wx w' := fun wx hb => rcheck_any l la lc wx (hlH.out.later hb) c hc
  by_cases h0 : c = 0
  · subst h0
    have hi : ¬ (0 ≤ i ∧ i < l.length) := fun q => h ⟨hc, q⟩
    have q2 : lookP l [i, j] 1 := .inr ⟨hc, .inr ⟨by simp, ⟨i, by simp, hi⟩, rfl⟩⟩
    have q1 : lookP l [i] 1 := .inr ⟨hc, .inr ⟨by simp, ⟨i, by simp, hi⟩, rfl⟩⟩
    have cB := before_err l la lc i j w hl 1 q2
    have cA : ∀ wx, Below w.heap.size w wx → Calls Try.prog 23 #[.slice la l.length lc, .int .i64 i, .int .i64 j] wx fun e w' => e = .returned (.tuple #[.bool false, .int .i64 1]) ∧ Below wx.heap.size wx w' := fun wx hb => apart_err l la lc i j wx (hlH.out.later hb) 1 q2
    have cP : ∀ wx, Below w.heap.size w wx → Calls Try.prog 24 #[.slice la l.length lc, .int .i64 i] wx fun e w' => e = .returned (.tuple #[.slice none 0 0, .int .i64 1]) ∧ Below wx.heap.size wx w' := fun wx hb => past_err l la lc i wx (hlH.out.later hb) 1 q1
    have d1 : ∀ wx, Calls Try.prog 25 #[.slice la l.length lc, .int .i64 i] wx fun e w' => e = .returned (.bool false) ∧ w' = wx := fun wx => place_is l la lc i hlI false (decide_eq_false hi) wx
    clear hl hc h hi q1 q2
    go_enter Try.func4, Try.ntmps4
    go_wp2_with (first
      | (go_at_call 22; (with_reducible refine cB.mono ?_); rintro e w1 ⟨rfl, hb1⟩; (have hB : Hid (Below w.heap.size w w1) := hb1); clear hb1 cB)
      | (go_at_call 23; (with_reducible refine (cA _ hB.out).mono ?_); rintro e w2 ⟨rfl, hb2⟩; (have hB : Hid (Below w.heap.size w w2) := bthen hB.out hb2); clear hb2 cA)
      | (go_at_call 24; (with_reducible refine (cP _ hB.out).mono ?_); rintro e w3 ⟨rfl, hb3⟩; (have hB : Hid (Below w.heap.size w w3) := bthen hB.out hb3); clear hb3 cP)
      | (go_at_call 15; (with_reducible refine (cK _ hB.out).mono ?_); rintro e w4 ⟨rfl, hb4⟩; (have hB : Hid (Below w.heap.size w w4) := bthen hB.out hb4); clear hb4 cK)
      | (go_at_call 25; (with_reducible refine (d1 _).mono ?_); rintro e w5 ⟨rfl, rfl⟩)
      | (go_at_call 16; (with_reducible refine (cS _).mono ?_); rintro e w6 ⟨rfl, hb6⟩; (have hB6 : Hid (Below w.heap.size w w6) := bthen hB.out hb6)))
    go_ret
    exact ⟨rfl, hB6.out⟩
  · have h7 : c = 2 ∨ c = 7 := by rcases hc with ⟨_, q⟩ | ⟨_, _, q⟩ | ⟨_, _, q⟩ <;> omega
    have cB := before_err l la lc i j w hl c (.inl ⟨hc, h7⟩)
    have cA : ∀ wx, Below w.heap.size w wx → Calls Try.prog 23 #[.slice la l.length lc, .int .i64 i, .int .i64 j] wx fun e w' => e = .returned (.tuple #[.bool false, .int .i64 c]) ∧ Below wx.heap.size wx w' := fun wx hb => apart_err l la lc i j wx (hlH.out.later hb) c (.inl ⟨hc, h7⟩)
    have cP : ∀ wx, Below w.heap.size w wx → Calls Try.prog 24 #[.slice la l.length lc, .int .i64 i] wx fun e w' => e = .returned (.tuple #[.slice none 0 0, .int .i64 c]) ∧ Below wx.heap.size wx w' := fun wx hb => past_err l la lc i wx (hlH.out.later hb) c (.inl ⟨hc, h7⟩)
    clear hl hc h h0
    rcases h7 with rfl | rfl
    all_goals
      go_enter Try.func4, Try.ntmps4
      go_wp2_with (first
        | (go_at_call 22; (with_reducible refine cB.mono ?_); rintro e w1 ⟨rfl, hb1⟩; (have hB : Hid (Below w.heap.size w w1) := hb1); clear hb1 cB)
        | (go_at_call 23; (with_reducible refine (cA _ hB.out).mono ?_); rintro e w2 ⟨rfl, hb2⟩; (have hB : Hid (Below w.heap.size w w2) := bthen hB.out hb2); clear hb2 cA)
        | (go_at_call 24; (with_reducible refine (cP _ hB.out).mono ?_); rintro e w3 ⟨rfl, hb3⟩; (have hB : Hid (Below w.heap.size w w3) := bthen hB.out hb3); clear hb3 cP)
        | (go_at_call 15; (with_reducible refine (cK _ hB.out).mono ?_); rintro e w4 ⟨rfl, hb4⟩; (have hB : Hid (Below w.heap.size w w4) := bthen hB.out hb4); clear hb4 cK)
        | (go_at_call 16; (with_reducible refine (cS _).mono ?_); rintro e w6 ⟨rfl, hb6⟩; (have hB6 : Hid (Below w.heap.size w w6) := bthen hB.out hb6)))
      go_ret
      exact ⟨rfl, hB6.out⟩
/-- What the law holds of the past, at once. -/
structure PastH (w W : World) (l : List Ev) (i : Nat) (L : List Int) (va : Option Addr) (vc : Nat) : Prop where
  b : Below w.heap.size w W
  p : Rows W 1 va vc (L.map chCells)
theorem PastH.later {w W W' : World} {l : List Ev} {i : Nat} {L : List Int} {va : Option Addr} {vc : Nat} (h : PastH w W l i L va vc) (hb : Below W.heap.size W W') : PastH w W' l i L va vc := ⟨bthen h.b hb, h.p.later hb⟩
set_option maxHeartbeats 2000000 in
theorem asks_half (l : List Ev) (la : Option Addr) (lc : Nat) (i : Nat) (j : Int) (w : World) (hl : Rows w 26 la lc (l.map Ev.cells)) (hlen : l.length ≤ 256) (hrt : ∀ x ∈ l, rightP x) (hi : i < l.length) (hj : ¬ (0 ≤ j ∧ j < l.length)) : Calls Try.prog 4 #[.slice la l.length lc, .int .i64 (i : Int), .int .i64 j] w fun e w' => e = .returned (.bool true) ∧ Below w.heap.size w w' := by
  have hlI := rows_len hl
  have hlH : Hid (Rows w 26 la lc (l.map Ev.cells)) := hl
  have hrtH : Hid (∀ x ∈ l, rightP x) := hrt
  have hc : checkP l 0 := .inr (.inr ⟨hlen, hrt, rfl⟩)
  obtain ⟨B, hB⟩ := tells_some (dpf l)
  have cS : ∀ wx, Calls Try.prog 16 #[] wx fun e w' => e = .returned (.bool true) ∧ Below wx.heap.size wx w' := fun wx => speaks12_any wx
  have cK : ∀ wx, Below w.heap.size w wx → Calls Try.prog 15 #[.slice la l.length lc] wx fun e w' => e = .returned (.int .i64 0) ∧ Below wx.heap.size wx w' := fun wx hb => rcheck_any l la lc wx (hlH.out.later hb) 0 hc
  have q2 : lookP l [(i : Int), j] 1 := .inr ⟨hc, .inr ⟨by simp, ⟨j, by simp, hj⟩, rfl⟩⟩
  have cBf := before_err l la lc i j w hl 1 q2
  have cA : ∀ wx, Below w.heap.size w wx → Calls Try.prog 23 #[.slice la l.length lc, .int .i64 (i : Int), .int .i64 j] wx fun e w' => e = .returned (.tuple #[.bool false, .int .i64 1]) ∧ Below wx.heap.size wx w' := fun wx hb => apart_err l la lc i j wx (hlH.out.later hb) 1 q2
  obtain ⟨L, hL⟩ : ∃ L, L = lst (fun k => B k i) l.length := ⟨_, rfl⟩
  have cP : ∀ wx, Below w.heap.size w wx → Calls Try.prog 24 #[.slice la l.length lc, .int .i64 (i : Int)] wx fun e w' => ∃ va vc, e = .returned (.tuple #[.slice va L.length vc, .int .i64 0]) ∧ Rows w' 1 va vc (L.map chCells) ∧ Below wx.heap.size wx w' := fun wx hb => (past_ok l la lc i wx (hlH.out.later hb) hlen hrtH.out hi).mono fun e w' ⟨va, vc, he, hs⟩ => by
    rw [past_same hlen hrtH.out hB hi, ← hL] at he hs
    exact ⟨va, vc, he, hs.rows, hs.be⟩
  have cM : ∀ wx, Below w.heap.size w wx → Calls Try.prog 26 #[.slice la l.length lc] wx fun e w' => ∃ A rb, e = .returned (.slice (some ⟨A, 0, none⟩) l.length l.length) ∧ RbS wx w' A l.length l.length rb B := fun wx hb => rbef_any l la lc wx (hlH.out.later hb) hlen B hB
  have cR : ∀ lo A rb wx, Hid (Mat wx lo A l.length l.length rb B) → Calls Try.prog 27 #[.slice (some ⟨A, 0, none⟩) l.length l.length, .int .i64 (i : Int)] wx fun e w' => ∃ va vc, e = .returned (.slice va L.length vc) ∧ Rows w' 1 va vc (L.map chCells) ∧ Below wx.heap.size wx w' := fun lo A rb wx h => (rpast_any lo A l.length rb B i wx h.out hlen hi).mono fun e w' ⟨va, vc, he, hs⟩ => by
    rw [← hL] at he hs
    exact ⟨va, vc, he, hs.rows, hs.be⟩
  have cI : ∀ va vc ua uc wx, Rows wx 1 va vc (L.map chCells) → Rows wx 1 ua uc (L.map chCells) → Calls Try.prog 19 #[.slice va L.length vc, .slice ua L.length uc] wx fun e w' => e = .returned (.bool true) ∧ Below wx.heap.size wx w' := fun va vc ua uc wx h1 h2 => sameInts_u L va ua vc uc wx h1 h2
  have d1 : ∀ wx, Calls Try.prog 25 #[.slice la l.length lc, .int .i64 (i : Int)] wx fun e w' => e = .returned (.bool true) ∧ w' = wx := fun wx => place_is l la lc i hlI true (decide_eq_true ⟨by omega, by omega⟩) wx
  have d2 : ∀ wx, Calls Try.prog 25 #[.slice la l.length lc, .int .i64 j] wx fun e w' => e = .returned (.bool false) ∧ w' = wx := fun wx => place_is l la lc j hlI false (decide_eq_false hj) wx
  clear hl hc hj q2 hrt hL hB
  go_enter Try.func4, Try.ntmps4
  go_wp2_with (first
    | (go_at_call 22; (with_reducible refine cBf.mono ?_); rintro e w1 ⟨rfl, hb1⟩; (have hB1 : Hid (Below w.heap.size w w1) := hb1); clear hb1 cBf)
    | (go_at_call 23; (with_reducible refine (cA _ hB1.out).mono ?_); rintro e w2 ⟨rfl, hb2⟩; (have hB2 : Hid (Below w.heap.size w w2) := bthen hB1.out hb2); clear hb2 cA hB1)
    | (go_at_call 24; (with_reducible refine (cP _ hB2.out).mono ?_); rintro e w3 ⟨va, vc, rfl, hr3, hb3⟩; (have hP : Hid (PastH w w3 l i L va vc) := ⟨bthen hB2.out hb3, hr3⟩); clear hb3 hr3 cP hB2)
    | (go_at_call 15; (with_reducible refine (cK _ hP.out.b).mono ?_); rintro e w4 ⟨rfl, hb4⟩; (have hP : Hid (PastH w w4 l i L va vc) := hP.out.later hb4); clear hb4 cK)
    | (go_at_call 25; (with_reducible refine (d1 _).mono ?_); rintro e w5 ⟨rfl, rfl⟩; clear d1)
    | (go_at_call 25; (with_reducible refine (d2 _).mono ?_); rintro e w5 ⟨rfl, rfl⟩; clear d2)
    | (go_at_call 16; (with_reducible refine (cS _).mono ?_); rintro e w6 ⟨rfl, hb6⟩; (have hP : Hid (PastH w w6 l i L va vc) := hP.out.later hb6); clear hb6)
    | (go_at_call 26; (with_reducible refine (cM _ hP.out.b).mono ?_); rintro e w7 ⟨A, rb, rfl, hm7⟩; (have hP : Hid (PastH w w7 l i L va vc) := hP.out.later hm7.b); (have hm : Hid (Mat w7 w6.heap.size A l.length l.length rb B) := hm7.m); clear hm7 cM)
    | (go_at_call 27; (with_reducible refine (cR _ _ _ _ hm).mono ?_); rintro e w8 ⟨ua, uc, rfl, hr8, hb8⟩; (have hP : Hid (PastH w w8 l i L va vc) := hP.out.later hb8); (have hr8H : Hid (Rows w8 1 ua uc (L.map chCells)) := hr8); clear hr8 hb8 cR)
    | (go_at_call 19; (with_reducible refine (cI _ _ _ _ _ hP.out.p hr8H.out).mono ?_); rintro e w9 ⟨rfl, hb9⟩; (have hP : Hid (PastH w w9 l i L va vc) := hP.out.later hb9); clear hb9 cI))
  go_ret
  exact ⟨rfl, hP.out.b⟩
end Go.Proofs.Ytkhhkgfaakgdfaa.pg
/- Closed and Cut of package order. -/
namespace Go.Proofs.Ytkhhkgfaakgdfaa.pg
open Go.ChangeShapes Go.WideShapes Go.ChangeAt Go.RowKit Go.Shelf
set_option linter.unusedVariables false
set_option linter.unusedSimpArgs false
set_option maxRecDepth 100000
attribute [local go_sem ↓] Go.wp_at_zero Go.wp_at_succ
theorem infoB_some : ∃ i, Try.prog.info? 4 = some i := by
  have h : (Try.prog.info? 4).isSome = true := by kernel_rfl
  exact Option.isSome_iff_exists.mp h
theorem eqS_one (a b : Bool) (w : World) : (Op.equalIn 9999 4 (.bool a) (.bool b)).run Try.prog w = .ok (a == b) w := by
  have ub := Try.underlying4
  go_simp
theorem eqS_part (q : Nat → Bool) (i : Nat) (hi : i < 256) (w : World) : (part 4 (boolRow 256 q) (i * 1)).run Try.prog w = .ok (.bool (q i)) w := by
  have a1 := Try.isAgg4
  rw [Nat.mul_one]
  unfold part
  simp only [Sem.run_bind, a1, Result.andThen_ok]
  simp [boolRow_at hi]
theorem run_eqS (f g : Nat → Bool) (w : World) : ∀ is : List Nat, (∀ i ∈ is, i < 256) → (Op.eqItems 9999 4 1 (boolRow 256 f) (boolRow 256 g) is).run Try.prog w = .ok (is.all fun k => f k == g k) w
  | [], _ => by rw [Op.eqItems]; rfl
  | i :: is, h => by
    have ih := run_eqS f g w is fun k hk => h k (by simp [hk])
    have hi := h i (by simp)
    rw [Op.eqItems]
    simp only [Sem.run_bind, eqS_part _ _ hi, eqS_one, Result.andThen_ok, List.all_cons]
    cases hq : (f i == g i)
    · rfl
    · simp only [Bool.not_true, Bool.false_eq_true, if_false, Bool.true_and]
      exact ih
theorem eqS_run (f g : Nat → Bool) (w : World) : (binOp .eql 85 (.agg (boolRow 256 f)) (.agg (boolRow 256 g))).run Try.prog w = .ok (.bool ((List.range 256).all fun k => f k == g k)) w := by
  obtain ⟨i, hi⟩ := infoB_some
  have hc1 : Try.prog.cellsOf 4 = 1 := by kernel_rfl
  have h : (Op.equalIn 10000 85 (.agg (boolRow 256 f)) (.agg (boolRow 256 g))).run Try.prog w = .ok ((List.range 256).all fun k => f k == g k) w := by
    rw [show (10000 : Nat) = 9999 + 1 from rfl, run_equalIn_array w 9999 _ _ Try.underlying85 hi, hc1]
    exact run_eqS f g w _ fun k hk => List.mem_range.mp hk
  rw [run_eql_struct, h]; rfl
section
variable {l : List Ev} (hrt : ∀ x ∈ l, rightP x) {B : Nat → Nat → Bool} (hB : Tells (dpf l) B)
include hrt hB
theorem clo_rel (f : Nat → Bool) : cfd (rel (evf l) l.length).2 f (dn (rel (evf l) l.length).2.length (rel (evf l) l.length).2.length) = cloB B l.length f :=
  cfd_end hB (fun p => edges_mem hrt hB p) f (by rw [rel_list hrt hB l.length (Nat.le_refl _)]; exact elist_up _ _)
end
/-- closed, of look's own relation. -/
theorem rclosed_any (l : List Ev) (la : Option Addr) (lc : Nat) (ca : Option Addr) (cn cc : Nat) (da : Option Addr) (dc : Nat) (f : Nat → Bool) (w : World) (hlen : l.length ≤ 256) (hrt : ∀ x ∈ l, rightP x) {B : Nat → Nat → Bool} (hB : Tells (dpf l) B) (hE : Rows w 2 da dc ((rel (evf l) l.length).2.map edg)) :
    Calls Try.prog 53 #[relV la l.length lc ca cn cc da (rel (evf l) l.length).2.length dc, .agg (boolRow 256 f)] w fun e w' => e = .returned (.agg (boolRow 256 (cloB B l.length f))) ∧ Below w.heap.size w w' := by
  have := closed_any la l.length lc ca cn cc (rel (evf l) l.length).2 da dc f w hE (by have := rel_edges (evf l) l.length hlen; omega) (fun p hp => by have := rel_pairs (evf l) l.length p hp; omega)
  rwa [clo_rel hrt hB] at this
theorem RelB.rows {w W : World} {l : List Ev} {la : Option Addr} {lc Rr : Nat} {ca : Option Addr} {cc : Nat} {da : Option Addr} {dc : Nat} (h : RelB w W l la lc Rr ca cc da dc) : Rows W 2 da dc ((rel (evf l) l.length).2.map edg) := own_rows h.e fun row hm => by rw [List.mem_map] at hm; obtain ⟨y, _, rfl⟩ := hm; rfl
set_option maxHeartbeats 1000000 in
theorem closed_err (l : List Ev) (la : Option Addr) (lc : Nat) (ps : List Int) (pa : Option Addr) (pc : Nat) (w : World) (hl : Rows w 26 la lc (l.map Ev.cells)) (hp : Rows w 1 pa pc (ps.map chCells)) (c : Int) (hc : lookP l ps c) :
    Calls Try.prog 30 #[.slice la l.length lc, .slice pa ps.length pc] w fun e w' => e = .returned (.tuple #[.slice none 0 0, .int .i64 c]) ∧ Below w.heap.size w w' := by
  have c1 := look_err l la lc ps pa pc w hl hp c hc
  have h7 := lookP_c hc
  clear hl hc hp
  rcases h7 with rfl | rfl | rfl
  all_goals
    go_enter Try.func30, Try.ntmps30
    go_wp2_with (first
      | (go_at_call 42; (refine c1.mono ?_); rintro e w1 ⟨rfl, hb'⟩; (have hb : Hid (Below w.heap.size w w1) := hb'); clear hb' c1)
      | (refine wpList_store_new rfl 78 _ _ rfl rfl _ _ rfl (by kernel_rfl) rfl (one3 _ _ _ _ _ _ _ _ _) ?_))
    go_ret2
    exact ⟨rfl, bthen hb.out (boxed _ _)⟩
set_option maxHeartbeats 1000000 in
theorem cut_err (l : List Ev) (la : Option Addr) (lc : Nat) (ps : List Int) (pa : Option Addr) (pc : Nat) (w : World) (hl : Rows w 26 la lc (l.map Ev.cells)) (hp : Rows w 1 pa pc (ps.map chCells)) (c : Int) (hc : lookP l ps c) :
    Calls Try.prog 29 #[.slice la l.length lc, .slice pa ps.length pc] w fun e w' => e = .returned (.tuple #[.bool false, .int .i64 c]) ∧ Below w.heap.size w w' := by
  have c1 := look_err l la lc ps pa pc w hl hp c hc
  have h7 := lookP_c hc
  clear hl hc hp
  rcases h7 with rfl | rfl | rfl
  all_goals
    go_enter Try.func29, Try.ntmps29
    go_wp2_with (first
      | (go_at_call 42; (refine c1.mono ?_); rintro e w1 ⟨rfl, hb'⟩; (have hb : Hid (Below w.heap.size w w1) := hb'); clear hb' c1)
      | (refine wpList_store_new rfl 78 _ _ rfl rfl _ _ rfl (by kernel_rfl) rfl (one3 _ _ _ _ _ _ _ _ _) ?_))
    go_ret2
    exact ⟨rfl, bthen hb.out (boxed _ _)⟩
set_option maxHeartbeats 2000000 in
theorem closed_ok (l : List Ev) (la : Option Addr) (lc : Nat) (ps : List Int) (pa : Option Addr) (pc : Nat) (w : World) (hl : Rows w 26 la lc (l.map Ev.cells)) (hp : Rows w 1 pa pc (ps.map chCells)) (hlen : l.length ≤ 256) (hrt : ∀ x ∈ l, rightP x) (hps : ps.length ≤ 256) (hin : ∀ p ∈ ps, 0 ≤ p ∧ p < l.length) {B : Nat → Nat → Bool} (hB : Tells (dpf l) B) :
    Calls Try.prog 30 #[.slice la l.length lc, .slice pa ps.length pc] w fun e w' => ∃ va vc, e = .returned (.tuple #[.slice va (lst (cloB B l.length (fOf ps)) 256).length vc, .int .i64 0]) ∧ LsS w (lst (cloB B l.length (fOf ps)) 256) va vc w' := by
  have c1 := look_any l la lc ps pa pc w hl hp hlen hrt hps hin
  have hpH : Hid (Rows w 1 pa pc (ps.map chCells)) := hp
  have hin2 : ∀ p ∈ ps, 0 ≤ p ∧ p < 256 := fun p hp => by have := hin p hp; omega
  have hrtH : Hid (∀ x ∈ l, rightP x) := hrt
  have hBH : Hid (Tells (dpf l) B) := hB
  have huR : Hid (Try.prog.underlying 78 = _) := Try.underlying78
  clear hl hp hin hrt hB
  go_enter Try.func30, Try.ntmps30
  go_wp2_with (first
    | (go_at_call 42; (refine c1.mono ?_); rintro e w1 ⟨ca, cc, da, dc, rfl, oc', oe', hb'⟩; (have rB : Hid (RelB w _ l la lc w1.heap.size ca cc da dc) := relB_new (Nat.le_refl _) oc' oe' hb'); clear oc' oe' hb' c1)
    | (refine wpList_store_new rfl 78 _ _ rfl rfl _ _ rfl (by kernel_rfl) rfl (one3 _ _ _ _ _ _ _ _ _) ?_))
  generalize w1.alloc (.cells #[.slice la l.length lc, .slice ca l.length cc, .slice da (rel (evf l) l.length).2.length dc] 78) = W at *
  generalize w1.heap.size = Rr at *
  refine wp_region_noPanic ?_
  refine wp_region_held_drew (S := fun w' => Below W.heap.size W w') (by kernel_rfl) (bey_drew W) (fun hH => ?_)
  refine reg_load (i := 0) rfl (by kernel_rfl) (by kernel_rfl) (by kernel_rfl) (fun _ _ _ _ h => h) rfl 78 _ rfl Rr 0 rfl [.slice la l.length lc, .slice ca l.length cc, .slice da (rel (evf l) l.length).2.length dc] _ (fun w' h' => (rB.out.later h').range) huR.out rfl (infoR3 _ _ _ _ _ _ _ _ _) hH ?_
  simp only [Act.put, List.getElem_toArray, List.getElem_cons_succ, List.getElem_cons_zero, List.setIfInBounds_toArray, List.set_cons_zero, List.set_cons_succ]
  refine reg_move (i := 1) rfl (by kernel_rfl) (by kernel_rfl) (by kernel_rfl) (fun _ _ _ _ h => h) rfl _ (fun _ => rfl) hH ?_
  simp only [Act.put, List.getElem_toArray, List.getElem_cons_succ, List.getElem_cons_zero, List.setIfInBounds_toArray, List.set_cons_zero, List.set_cons_succ]
  refine reg_call1 (i := 2) (by kernel_rfl) rfl rfl 51 _ _ rfl (.slice pa ps.length pc) rfl (cf_fn Try.func51 (by kernel_rfl) (by kernel_rfl) _ _) _ (setOf_any ps pa pc _ (hpH.out.later (bthen rB.out.b hH)) hin2) ?_
  rintro e w2 ⟨rfl, hb2⟩
  have hH2 : Below W.heap.size W w2 := bthen hH hb2
  refine ⟨_, rfl, hH2, fun _ => ?_⟩
  simp only [Act.put, List.getElem_toArray, List.getElem_cons_succ, List.getElem_cons_zero, List.setIfInBounds_toArray, List.set_cons_zero, List.set_cons_succ]
  refine reg_call2 (i := 3) (by kernel_rfl) rfl rfl 53 _ _ _ _ rfl (relV la l.length lc ca l.length cc da (rel (evf l) l.length).2.length dc) (.agg (boolRow 256 (fOf ps))) rfl rfl (cf_fn Try.func53 (by kernel_rfl) (by kernel_rfl) _ _) _ (rclosed_any l la lc ca l.length cc da dc (fOf ps) w2 hlen hrtH.out hBH.out ((rB.out.later hH2).rows)) ?_
  rintro e w3 ⟨rfl, hb3⟩
  have hH3 : Below W.heap.size W w3 := bthen hH2 hb3
  refine ⟨_, rfl, hH3, fun _ => ?_⟩
  simp only [Act.put, List.getElem_toArray, List.getElem_cons_succ, List.getElem_cons_zero, List.setIfInBounds_toArray, List.set_cons_zero, List.set_cons_succ]
  refine reg_call1 (i := 4) (by kernel_rfl) rfl rfl 46 _ _ rfl (.agg (boolRow 256 (cloB B l.length (fOf ps)))) rfl (cf_fn Try.func46 (by kernel_rfl) (by kernel_rfl) _ _) _ (list_any _ w3) ?_
  rintro e w4 ⟨va, vc, rfl, hl4⟩
  have hH4 : Below W.heap.size W w4 := bthen hH3 hl4.be
  refine ⟨_, rfl, hH4, fun _ => ?_⟩
  have hfin : Hid (LsS w (lst (cloB B l.length (fOf ps)) 256) va vc w4) := ⟨bthen rB.out.b hH4, own_mono_q hl4.ow (bthen rB.out.b hH3).size⟩
  clear hl4
  simp only [Act.put, List.getElem_toArray, List.getElem_cons_succ, List.getElem_cons_zero, List.setIfInBounds_toArray, List.set_cons_zero, List.set_cons_succ]
  refine reg_move (i := 5) rfl (by kernel_rfl) (by kernel_rfl) (by kernel_rfl) (fun _ _ _ _ h => h) rfl _ (fun _ => rfl) hH4 ?_
  simp only [Act.put, List.getElem_toArray, List.getElem_cons_succ, List.getElem_cons_zero, List.setIfInBounds_toArray, List.set_cons_zero, List.set_cons_succ]
  refine reg_move (i := 6) rfl (by kernel_rfl) (by kernel_rfl) (by kernel_rfl) (fun _ _ _ _ h => h) rfl _ (fun _ => rfl) hH4 ?_
  simp only [Act.put, List.getElem_toArray, List.getElem_cons_succ, List.getElem_cons_zero, List.setIfInBounds_toArray, List.set_cons_zero, List.set_cons_succ]
  refine wpAnyH_done (by kernel_rfl) (NoPanic.normal ?_) _
  clear hH hH2 hH3 hH4 hb2 hb3
  go_wp2
  go_ret2
  exact ⟨va, vc, rfl, hfin.out⟩
set_option maxHeartbeats 2000000 in
theorem cut_ok (l : List Ev) (la : Option Addr) (lc : Nat) (ps : List Int) (pa : Option Addr) (pc : Nat) (w : World) (hl : Rows w 26 la lc (l.map Ev.cells)) (hp : Rows w 1 pa pc (ps.map chCells)) (hlen : l.length ≤ 256) (hrt : ∀ x ∈ l, rightP x) (hps : ps.length ≤ 256) (hin : ∀ p ∈ ps, 0 ≤ p ∧ p < l.length) {B : Nat → Nat → Bool} (hB : Tells (dpf l) B) (R : Bool) (hR : Hid (R = (List.range 256).all fun k => cloB B l.length (fOf ps) k == fOf ps k)) :
    Calls Try.prog 29 #[.slice la l.length lc, .slice pa ps.length pc] w fun e w' => e = .returned (.tuple #[.bool R, .int .i64 0]) ∧ Below w.heap.size w w' := by
  have c1 := look_any l la lc ps pa pc w hl hp hlen hrt hps hin
  have hin2 : ∀ p ∈ ps, 0 ≤ p ∧ p < 256 := fun p hp => by have := hin p hp; omega
  have hpH : Hid (Rows w 1 pa pc (ps.map chCells)) := hp
  have cO : ∀ wx, Below w.heap.size w wx → Calls Try.prog 51 #[.slice pa ps.length pc] wx fun e w' => e = .returned (.agg (boolRow 256 (fOf ps))) ∧ Below wx.heap.size wx w' := fun wx hb => setOf_any ps pa pc wx (hpH.out.later hb) hin2
  have hrtH : Hid (∀ x ∈ l, rightP x) := hrt
  have hBH : Hid (Tells (dpf l) B) := hB
  have huR : Hid (Try.prog.underlying 78 = _) := Try.underlying78
  have huS : Hid (Try.prog.underlying 85 = _) := Try.underlying85
  have hzS : Hid (∀ w, (zeroValue 85).run Try.prog w = .ok (.agg (boolRow 256 fun _ => false)) w) := zeroSt
  obtain ⟨g, hg⟩ : ∃ g : List Value, boolRow 256 (fOf ps) = g.toArray := ⟨_, rfl⟩
  obtain ⟨h, hh⟩ : ∃ h : List Value, boolRow 256 (cloB B l.length (fOf ps)) = h.toArray := ⟨_, rfl⟩
  have heq : ∀ wx, (binOp .eql 85 (.agg h.toArray) (.agg g.toArray)).run Try.prog wx = .ok (.bool R) wx := fun wx => by rw [← hg, ← hh, eqS_run, hR.out]
  have hg256 : Hid ((Try.prog.info? 85).map (·.size) = some g.length) := by
    have := infoSt (fOf ps)
    rw [hg, List.size_toArray] at this
    exact this
  have hone : Hid (g.toArray.all (·.oneCell') = true) := by have := boolRow_one 256 (fOf ps); rwa [hg] at this
  have hgs : Hid ((boolRow 256 fun _ => false).size = g.toArray.size) := by show _ = _; rw [← hg, boolRow_size, boolRow_size]
  have hgi : Hid ((Try.prog.info? 85).map (·.size) = some g.toArray.size) := by have := infoSt (fOf ps); rwa [hg] at this
  have cC : ∀ ca cc da dc wx, Rows wx 2 da dc ((rel (evf l) l.length).2.map edg) → Calls Try.prog 53 #[.agg [.slice la l.length lc, .slice ca l.length cc, .slice da (rel (evf l) l.length).2.length dc].toArray, .agg g.toArray] wx fun e w' => e = .returned (.agg h.toArray) ∧ Below wx.heap.size wx w' := fun ca cc da dc wx hr => by
    have := rclosed_any l la lc ca l.length cc da dc (fOf ps) wx hlen hrtH.out hBH.out hr
    rw [hg, hh] at this
    exact this
  rw [hg] at cO
  clear hl hp hin hrt hB hR hg hh
  go_enter Try.func29, Try.ntmps29
  go_wp2_with (first
    | (go_at_call 42; (refine c1.mono ?_); rintro e w1 ⟨ca, cc, da, dc, rfl, oc', oe', hb'⟩; (have rB : Hid (RelB w _ l la lc w1.heap.size ca cc da dc) := relB_new (Nat.le_refl _) oc' oe' hb'); clear oc' oe' hb' c1)
    | (refine wpList_store_new rfl 78 _ _ rfl rfl _ _ rfl (by kernel_rfl) rfl (one3 _ _ _ _ _ _ _ _ _) ?_)
    | (go_at_call 51; (refine (cO _ rB.out.b).mono ?_); rintro e w2 ⟨rfl, hb2⟩; (have r2 : Hid (RelB w w2 l la lc w1.heap.size ca cc da dc) := rB.out.later hb2); clear hb2 cO)
    | (refine wpList_alloc_big rfl 85 rfl hzS.out ?_)
    | (refine wpList_store_new rfl 85 _ _ rfl rfl _ g.toArray rfl hgi.out hgs.out hone.out ?_))
  have r3 : Hid (RelB w (w2.alloc (.cells g.toArray 85)) l la lc w1.heap.size ca cc da dc) := r2.out.later (boxed _ _)
  have hnew : Hid _ := heap_alloc_new w2 (.cells g.toArray 85)
  obtain ⟨W, hW⟩ : ∃ W, w2.alloc (.cells g.toArray 85) = W := ⟨_, rfl⟩
  rw [hW] at r3 hnew ⊢
  clear hW r2 rB
  generalize w1.heap.size = Rr at *
  obtain ⟨Sb, hSb⟩ : ∃ Sb, w2.heap.size = Sb := ⟨_, rfl⟩
  rw [hSb] at hnew ⊢
  clear hSb
  have z1 : ∀ s : Cls (Bey W), s.w.rangeAt Rr 0 [.slice la l.length lc, .slice ca l.length cc, .slice da (rel (evf l) l.length).2.length dc] := fun s => (r3.out.later s.h).range
  have z2 : ∀ s : Cls (Bey W), s.w.rangeAt Sb 0 g := fun s q v hv => cell_of ((s.h.block Sb (Array.getElem?_eq_some_iff.mp hnew.out).1).trans hnew.out) (by rw [Nat.zero_add]; simpa using hv)
  have cC2 : ∀ s : Cls (Bey W), Calls Try.prog 53 #[.agg [.slice la l.length lc, .slice ca l.length cc, .slice da (rel (evf l) l.length).2.length dc].toArray, .agg g.toArray] s.w fun e w' => e = .returned (.agg h.toArray) ∧ Below s.w.heap.size s.w w' := fun s => cC ca cc da dc s.w (r3.out.later s.h).rows
  have hneB := bey_some W
  clear cC
  simp only [Act.put, List.setIfInBounds_toArray, List.set_cons_zero, List.set_cons_succ]
  refine wp_region_cls (Bey W) (by kernel_rfl) (by kernel_rfl) (bey_drew W) ?_
  repeat (first
    | (go_big_quiet_want; (first | refine quiet_load_mid 78 _ rfl Rr 0 rfl _ _ z1 huR.out rfl (infoR3 _ _ _ _ _ _ _ _ _) ?_ | refine quiet_load_mid 85 _ rfl Sb 0 rfl g _ z2 huS.out rfl hg256.out ?_); (simp only [Act.put, List.setIfInBounds_toArray, List.set_cons_zero, List.set_cons_succ]); go_big_quiet_on)
    | go_big_quiet_step ((go_at_call 53; exact calls_bey (cC2 _))))
  refine wpQuiet_nil ?_
  intro _ hw'
  obtain ⟨sq, hw''⟩ := hw'
  subst hw''
  clear z1 z2 cC2 hneB heq
  go_wp2
  go_ret2
  exact ⟨rfl, bthen r3.out.b sq.h⟩
end Go.Proofs.Ytkhhkgfaakgdfaa.pg
