/- Whether two traces are one: package canon's Same. -/
import Derived.Test.YtkadlopcomjonaaDoorM34
import Derived.Test.YtkadlopcomjonaaDoorM27
import Derived.Test.YtkadlopcomjonaaDoorM35
import Derived.Test.YtkadlopcomjonaaDoorM38
import Derived.Test.YtkadlopcomjonaaDoorM23
namespace Go.Proofs.YtkadlopcomjonaaDoor.pg
open Go.ChangeShapes Go.WideShapes Go.ChangeAt Go.RowKit Go.Shelf
set_option linter.unusedVariables false
set_option linter.unusedSimpArgs false
set_option maxRecDepth 100000
theorem guard_ne2 {x y : Ev} (hx : x.wf) (hy : y.wf) (R : Bool) (hR : R = true ↔ ¬ x = y) (p q : Operand) (w : World) : ((do
    eqGuard .neq 42 p q (.agg x.cells.toArray) (.agg y.cells.toArray)
    binOp .neq 42 (.agg x.cells.toArray) (.agg y.cells.toArray)) : Sem Value).run Tryd.prog w = .ok (.bool R) w := by
  have hm : Tryd.prog.eqGuardType Tryd.prog.depth 42 = false := by kernel_rfl
  simp only [Sem.run_bind, run_eqGuard_agg (P := Tryd.prog) w .neq 42 p q _ _ hm, Result.andThen_ok]
  exact ne_ev hx hy R hR w
theorem take_next {l m : List Ev} {k : Nat} {x : Ev} (h : l.take k = m.take k) (h1 : l[k]? = some x) (h2 : m[k]? = some x) : l.take (k + 1) = m.take (k + 1) := by
  rw [List.take_add_one, List.take_add_one, h, h1, h2]
set_option maxHeartbeats 1000000 in
theorem equal_in (l m : List Ev) (hwl : ∀ x ∈ l, x.wf) (hwm : ∀ x ∈ m, x.wf) (a b : Option Addr) (ca cb n : Nat) (w : World) (ha : Rows w 26 a ca (l.map Ev.cells)) (hb : Rows w 26 b cb (m.map Ev.cells)) (hln : Hid (l.length = n)) (hmn : Hid (m.length = n)) (R : Bool) (hR : Hid (R = true ↔ l = m)) :
    Calls Tryd.prog 15 #[.slice a n ca, .slice b n cb] w fun e w' => e = .returned (.bool R) ∧ Below w.heap.size w w' := by
  have hlI : (n : Int) ≤ 9223372036854775807 := by have := rows_len ha; rw [hln.out] at this; exact this
  have haH : Hid (Rows w 26 a ca (l.map Ev.cells)) := ha
  have hbHH : Hid (Rows w 26 b cb (m.map Ev.cells)) := hb
  clear ha hb
  go_enter Tryd.func15, Tryd.ntmps15
  go_wp2_with fail
  go_loopw [13] (fun u wr => ∃ k : Nat, k ≤ n ∧ u = .int .i64 k ∧ Hid (Below w.heap.size w wr ∧ l.take k = m.take k)) (fun u _ => n - (intOf u).toNat)
  case atStart => exact ⟨0, Nat.zero_le _, rfl, ⟨Below.refl _ _, by simp⟩⟩
  case round =>
    obtain ⟨k, hk, rfl, hbe⟩ := hrel
    by_cases hlt : k < n
    · have hkI : (k : Int) < n := by omega
      obtain ⟨x, hx, hxm⟩ := get_lt l k (by rw [hln.out]; exact hlt)
      obtain ⟨y, hy, hym⟩ := get_lt m k (by rw [hmn.out]; exact hlt)
      obtain ⟨b1, o1, x1, l1, r1⟩ := evs_ix (haH.out.later hbe.out.1) k x hx
      obtain ⟨b2, o2, x2, l2, r2⟩ := evs_ix (hbHH.out.later hbe.out.1) k y hy
      rw [hln.out] at x1
      rw [hmn.out] at x2
      have q1 : Hid (b1 < wr.heap.size ∧ wr.rangeAt b1 o1 x.cells) := ⟨l1, r1⟩
      have q2 : Hid (b2 < wr.heap.size ∧ wr.rangeAt b2 o2 y.cells) := ⟨l2, r2⟩
      have hbH : Hid (Below w.heap.size w wr) := hbe.out.1
      obtain ⟨N, hN⟩ : ∃ N : Bool, Hid (N = true ↔ ¬ x = y) := by
        by_cases e : x = y
        · exact ⟨false, ⟨fun q => (by cases q), fun q => absurd e q⟩⟩
        · exact ⟨true, ⟨fun _ => e, fun _ => rfl⟩⟩
      have hne := fun x1 x2 wx => guard_ne2 (hwl x hxm) (hwm y hym) N hN.out x1 x2 wx
      have hgo : Hid (N = false → l.take (k + 1) = m.take (k + 1)) := fun e => by
        have : x = y := by
          apply Classical.byContradiction
          intro q
          rw [hN.out.mpr q] at e; cases e
        rw [← this] at hy
        exact take_next hbe.out.2 hx hy
      have hst : Hid (N = true → R = false) := fun e => by
        rw [Bool.eq_false_iff]
        intro q
        have e2 := hR.out.mp q
        rw [e2] at hx
        rw [hx] at hy
        exact hN.out.mp e (Option.some.inj hy)
      clear hbe l1 r1 l2 r2 hx hy hxm hym hN
      go_wp2_with fail
      refine wp_region_noPanic ?_
      refine wp_region_held_drew (S := fun w' => Below wr.heap.size wr w') (by kernel_rfl) (bey_drew wr) (fun hS => ?_)
      refine reg_move (i := 0) rfl (by kernel_rfl) (by kernel_rfl) (by kernel_rfl) (fun _ _ _ _ h => h) rfl (.slice a n ca) (fun _ => by kernel_rfl) hS ?_
      simp only [Act.put, List.getElem_toArray, List.getElem_cons_succ, List.getElem_cons_zero, List.setIfInBounds_toArray, List.set_cons_zero, List.set_cons_succ]
      refine reg_move (i := 1) rfl (by kernel_rfl) (by kernel_rfl) (by kernel_rfl) (fun _ _ _ _ h => h) rfl (.int .i64 (k : Int)) (fun _ => by kernel_rfl) hS ?_
      simp only [Act.put, List.getElem_toArray, List.getElem_cons_succ, List.getElem_cons_zero, List.setIfInBounds_toArray, List.set_cons_zero, List.set_cons_succ]
      refine reg_move (i := 2) rfl (by kernel_rfl) (by kernel_rfl) (by kernel_rfl) (fun _ _ _ _ h => h) rfl (.pointer (some ⟨b1, o1, none⟩)) (fun wx => by unfold execOp; exact run_value_of (x1 wx)) hS ?_
      simp only [Act.put, List.getElem_toArray, List.getElem_cons_succ, List.getElem_cons_zero, List.setIfInBounds_toArray, List.set_cons_zero, List.set_cons_succ]
      refine reg_load (i := 3) rfl (by kernel_rfl) (by kernel_rfl) (by kernel_rfl) (fun _ _ _ _ h => h) rfl 42 _ rfl b1 o1 rfl x.cells _ (fun w' h' => range_later q1.out.2 q1.out.1 h') Tryd.underlying42 rfl infoE26 hS ?_
      simp only [Act.put, List.getElem_toArray, List.getElem_cons_succ, List.getElem_cons_zero, List.setIfInBounds_toArray, List.set_cons_zero, List.set_cons_succ]
      refine reg_move (i := 4) rfl (by kernel_rfl) (by kernel_rfl) (by kernel_rfl) (fun _ _ _ _ h => h) rfl (.slice b n cb) (fun _ => by kernel_rfl) hS ?_
      simp only [Act.put, List.getElem_toArray, List.getElem_cons_succ, List.getElem_cons_zero, List.setIfInBounds_toArray, List.set_cons_zero, List.set_cons_succ]
      refine reg_move (i := 5) rfl (by kernel_rfl) (by kernel_rfl) (by kernel_rfl) (fun _ _ _ _ h => h) rfl (.int .i64 (k : Int)) (fun _ => by kernel_rfl) hS ?_
      simp only [Act.put, List.getElem_toArray, List.getElem_cons_succ, List.getElem_cons_zero, List.setIfInBounds_toArray, List.set_cons_zero, List.set_cons_succ]
      refine reg_move (i := 6) rfl (by kernel_rfl) (by kernel_rfl) (by kernel_rfl) (fun _ _ _ _ h => h) rfl (.pointer (some ⟨b2, o2, none⟩)) (fun wx => by unfold execOp; exact run_value_of (x2 wx)) hS ?_
      simp only [Act.put, List.getElem_toArray, List.getElem_cons_succ, List.getElem_cons_zero, List.setIfInBounds_toArray, List.set_cons_zero, List.set_cons_succ]
      refine reg_load (i := 7) rfl (by kernel_rfl) (by kernel_rfl) (by kernel_rfl) (fun _ _ _ _ h => h) rfl 42 _ rfl b2 o2 rfl y.cells _ (fun w' h' => range_later q2.out.2 q2.out.1 h') Tryd.underlying42 rfl infoE26 hS ?_
      simp only [Act.put, List.getElem_toArray, List.getElem_cons_succ, List.getElem_cons_zero, List.setIfInBounds_toArray, List.set_cons_zero, List.set_cons_succ]
      refine reg_move (i := 8) rfl (by kernel_rfl) (by kernel_rfl) (by kernel_rfl) (fun _ _ _ _ h => h) rfl (.bool N) (fun wx => by unfold execOp; exact run_value_of (hne _ _ wx)) hS ?_
      simp only [Act.put, List.getElem_toArray, List.getElem_cons_succ, List.getElem_cons_zero, List.setIfInBounds_toArray, List.set_cons_zero, List.set_cons_succ]
      refine wpAnyH_done (by kernel_rfl) (NoPanic.normal ?_) _
      clear hS hne
      cases N with
      | false =>
        have hg2 := hgo.out rfl
        have hg3 : Hid (l.take (k + 1) = m.take (k + 1)) := hg2
        clear hg2 hgo hst
        go_wp2_with fail
        go_roundw
        case rel => exact ⟨k + 1, by omega, by go_num, ⟨bthen hbH.out (bey_drew wr), hg3.out⟩⟩
        case measure => simp [intOf]; omega
      | true =>
        have hr := hst.out rfl
        clear hgo hst
        go_wp2
        go_ret
        exact ⟨by rw [hr]; rfl, bthen hbH.out (bey_drew wr)⟩
    · have hk2 : k = n := by omega
      subst hk2
      have hr : R = true := hR.out.mpr (by
        have := hbe.out.2
        rwa [List.take_of_length_le (by rw [hln.out]; exact Nat.le_refl _), List.take_of_length_le (by rw [hmn.out]; exact Nat.le_refl _)] at this)
      have hbH : Hid (Below w.heap.size w wr) := hbe.out.1
      clear hbe
      go_wp2
      go_ret
      exact ⟨by rw [hr]; rfl, hbH.out⟩
set_option maxHeartbeats 1000000 in
theorem equal_out (a b : Option Addr) (ca cb n k : Nat) (w : World) (hn : (n : Int) ≤ 9223372036854775807) (hk : (k : Int) ≤ 9223372036854775807) (h : n ≠ k) :
    Calls Tryd.prog 15 #[.slice a n ca, .slice b k cb] w fun e w' => e = .returned (.bool false) ∧ Below w.heap.size w w' := by
  have d : ((n : Int) != (k : Int)) = true := by simp; omega
  have d2 : ¬ ((n : Int) = (k : Int)) := by omega
  go_enter Tryd.func15, Tryd.ntmps15
  go_wp2
  go_ret
  exact ⟨rfl, Below.refl _ _⟩
theorem equal_any (l m : List Ev) (hwl : ∀ x ∈ l, x.wf) (hwm : ∀ x ∈ m, x.wf) (a b : Option Addr) (ca cb : Nat) (w : World) (ha : Rows w 26 a ca (l.map Ev.cells)) (hb : Rows w 26 b cb (m.map Ev.cells)) (R : Bool) (hR : Hid (R = true ↔ l = m)) :
    Calls Tryd.prog 15 #[.slice a l.length ca, .slice b m.length cb] w fun e w' => e = .returned (.bool R) ∧ Below w.heap.size w w' := by
  by_cases h : l.length = m.length
  · rw [h]
    exact equal_in l m hwl hwm a b ca cb m.length w ha hb h rfl R hR
  · have hr : R = false := by
      rw [Bool.eq_false_iff]
      intro q
      exact h (by rw [hR.out.mp q])
    rw [hr]
    exact equal_out a b ca cb _ _ w (rows_len ha) (rows_len hb) h
theorem chk0 {l : List Ev} (hlen : l.length ≤ 256) (hrt : ∀ x ∈ l, rightP x) : checkP l 0 := .inr (.inr ⟨hlen, hrt, rfl⟩)
set_option maxHeartbeats 1000000 in
theorem canonical_ok (l : List Ev) (la : Option Addr) (lc : Nat) (w : World) (hl : Rows w 26 la lc (l.map Ev.cells)) (hlen : l.length ≤ 256) (hrt : ∀ x ∈ l, rightP x) {B : Nat → Nat → Bool} (hB : Tells (dpf l) B) :
    Calls Tryd.prog 14 #[.slice la l.length lc] w fun e w' => ∃ (L : List Nat) (A : Nat), e = .returned (.tuple #[.slice (some ⟨A, 0, none⟩) l.length l.length, .int .i64 0]) ∧ Hid (OrdL B (gof l) l.length L ∧ L.length = l.length ∧ Rows w' 26 (some ⟨A, 0, none⟩) l.length ((laidE l L).map Ev.cells) ∧ Below w.heap.size w w') := by
  have c1 := form_ok l la lc w hl hlen hrt hB
  have c2 : ∀ wx (L : List Nat) (A : Nat), Below w.heap.size w wx → L.length = l.length → (∀ x ∈ L, x < l.length) → Rows wx 1 (some ⟨A, 0, none⟩) l.length ((L.map fun x : Nat => (x : Int)).map chCells) → Calls Tryd.prog 28 #[.slice la l.length lc, .slice (some ⟨A, 0, none⟩) l.length l.length] wx fun e w' => ∃ A', e = .returned (.slice (some ⟨A', 0, none⟩) l.length l.length) ∧ Hid (Rows w' 26 (some ⟨A', 0, none⟩) l.length ((laidE l L).map Ev.cells) ∧ Below wx.heap.size wx w') := fun wx L A hb hL hlt hr => by
    have := arranged_any l la lc (L.map fun x : Nat => (x : Int)) (some ⟨A, 0, none⟩) l.length wx (hl.later hb) hr (by simp; omega) (fun p hp => by
      obtain ⟨x, hx, rfl⟩ := List.mem_map.mp hp
      have := hlt x hx
      omega)
    rw [List.length_map, hL, arr_laid] at this
    exact this.mono fun e w' ⟨A', he, hq⟩ => ⟨A', he, ⟨hq.out.2.1, hq.out.2.2⟩⟩
  have hlenH : Hid (l.length ≤ 256) := hlen
  clear hl hrt hB
  go_enter Tryd.func14, Tryd.ntmps14
  go_wp2_with (first
    | (go_at_call 21; (with_reducible refine c1.mono ?_); rintro e w1 ⟨L, A, rfl, h1, h2, h3, h4, h5⟩; (have hq : Hid (OrdL B (gof l) l.length L ∧ L.length = l.length ∧ (∀ x ∈ L, x < l.length) ∧ Rows w1 1 (some ⟨A, 0, none⟩) l.length ((L.map fun x : Nat => (x : Int)).map chCells) ∧ Below w.heap.size w w1) := ⟨h1, h2, h1.lin.lt, rows_fm h4 h2 hlenH.out, h5⟩); clear h1 h2 h3 h4 h5 c1)
    | (go_at_call 28; (refine (c2 _ L A hq.out.2.2.2.2 hq.out.2.1 hq.out.2.2.1 hq.out.2.2.2.1).mono ?_); rintro e w2 ⟨A', rfl, hr⟩; clear c2))
  go_ret2
  exact ⟨L, A', rfl, ⟨hq.out.1, hq.out.2.1, hr.out.1, bthen hq.out.2.2.2.2 hr.out.2⟩⟩
set_option maxHeartbeats 1000000 in
theorem same_ok (l m : List Ev) (la ma : Option Addr) (lc mc : Nat) (w : World) (hl : Rows w 26 la lc (l.map Ev.cells)) (hm : Rows w 26 ma mc (m.map Ev.cells)) (hwl : ∀ x ∈ l, x.wf) (hwm : ∀ x ∈ m, x.wf) (hlen : l.length ≤ 256) (hrt : ∀ x ∈ l, rightP x) (hlen2 : m.length ≤ 256) (hrt2 : ∀ x ∈ m, rightP x) {B B' : Nat → Nat → Bool} (hB : Tells (dpf l) B) (hB' : Tells (dpf m) B') (R : Bool) (hR : Hid (∀ L M, OrdL B (gof l) l.length L → L.length = l.length → OrdL B' (gof m) m.length M → M.length = m.length → (R = true ↔ laidE l L = laidE m M))) :
    Calls Tryd.prog 6 #[.slice la l.length lc, .slice ma m.length mc] w fun e w' => e = .returned (.tuple #[.bool R, .int .i64 0]) ∧ Below w.heap.size w w' := by
  have c1 := canonical_ok l la lc w hl hlen hrt hB
  have c2 : ∀ wx, Below w.heap.size w wx → Calls Tryd.prog 14 #[.slice ma m.length mc] wx _ := fun wx hb => canonical_ok m ma mc wx (hm.later hb) hlen2 hrt2 hB'
  have c3 : ∀ (wx : World) (L M : List Nat) (A A' : Nat), OrdL B (gof l) l.length L → L.length = l.length → OrdL B' (gof m) m.length M → M.length = m.length → Rows wx 26 (some ⟨A, 0, none⟩) l.length ((laidE l L).map Ev.cells) → Rows wx 26 (some ⟨A', 0, none⟩) m.length ((laidE m M).map Ev.cells) → Calls Tryd.prog 15 #[.slice (some ⟨A, 0, none⟩) l.length l.length, .slice (some ⟨A', 0, none⟩) m.length m.length] wx fun e w' => e = .returned (.bool R) ∧ Below wx.heap.size wx w' := fun wx L M A A' h1 h2 h3 h4 r1 r2 => by
    have := equal_any (laidE l L) (laidE m M) (laid_all hwl h1.lin.lt) (laid_all hwm h3.lin.lt) (some ⟨A, 0, none⟩) (some ⟨A', 0, none⟩) l.length m.length wx r1 r2 R (hR.out L M h1 h2 h3 h4)
    rw [laid_len, laid_len, h2, h4] at this
    exact this
  clear hl hm hrt hrt2 hB hB' hwl hwm hR
  go_enter Tryd.func6, Tryd.ntmps6
  go_upto_region 4 with (go_at_call 14; (with_reducible refine c1.mono ?_); rintro e w1 ⟨L, A, rfl, hq⟩; (have hb : Hid (Below w.heap.size w w1) := hq.out.2.2.2); clear c1)
  go_wp2_with (first
    | (go_at_call 14; (refine (c2 _ hb.out).mono ?_); rintro e w2 ⟨M, A', rfl, hr⟩; (have hb2 : Hid (Below w.heap.size w w2 ∧ Rows w2 26 (some ⟨A, 0, none⟩) l.length ((laidE l L).map Ev.cells)) := ⟨bthen hb.out hr.out.2.2.2, hq.out.2.2.1.later hr.out.2.2.2⟩); clear c2)
    | (go_at_call 15; (refine (c3 _ L M A A' hq.out.1 hq.out.2.1 hr.out.1 hr.out.2.1 hb2.out.2 hr.out.2.2.1).mono ?_); rintro e w3 ⟨rfl, hb3⟩; (have hb4 : Hid (Below w.heap.size w w3) := bthen hb2.out.1 hb3); clear hb3))
  go_ret2
  exact ⟨rfl, hb4.out⟩
end Go.Proofs.YtkadlopcomjonaaDoor.pg
/- The key of a trace: package canon's Key. -/
namespace Go.Proofs.YtkadlopcomjonaaDoor.pg
open Go.ChangeShapes Go.WideShapes Go.ChangeAt Go.RowKit Go.Shelf
set_option linter.unusedVariables false
set_option linter.unusedSimpArgs false
set_option maxRecDepth 100000
/-- What an event's text says. -/
def bitI (b : Bool) : Int := if b then 1 else 0
def accL (a : Acc) : List Int := [a.kind, a.num, bitI a.wr]
def evH (x : Ev) : List Int := [x.go, x.fn, x.pc, x.op, x.alt, x.vl, x.tag]
def evL (x : Ev) : List Int × List (List Int) := (evH x, x.of.map accL)
theorem evL_good (x : Ev) : Good7 (evL x) := ⟨rfl, fun a ha => by obtain ⟨y, _, rfl⟩ := List.mem_map.mp ha; rfl⟩
theorem accL_inj {a b : Acc} (h : accL a = accL b) : a = b := by
  obtain ⟨k, n, w⟩ := a
  obtain ⟨k', n', w'⟩ := b
  simp only [accL, List.cons.injEq, and_true] at h
  obtain ⟨rfl, rfl, h3⟩ := h
  cases w <;> cases w' <;> simp [bitI] at h3 <;> rfl
theorem map_inj3 : ∀ {l m : List Acc}, l.map accL = m.map accL → l = m
  | [], [], _ => rfl
  | [], b :: m, h => by simp at h
  | a :: l, [], h => by simp at h
  | a :: l, b :: m, h => by
    simp only [List.map_cons, List.cons.injEq] at h
    rw [accL_inj h.1, map_inj3 h.2]
/-- The text of a right event tells it. -/
theorem evL_inj {x y : Ev} (hx : rightP x) (hy : rightP y) (h : evL x = evL y) : x = y := by
  have h1 : evH x = evH y := congrArg Prod.fst h
  have h2 : x.of = y.of := map_inj3 (congrArg Prod.snd h)
  have hl : tN x.n = tN y.n := by rw [← x.of_len, ← y.of_len, h2]
  have hn : x.n = y.n := by
    have e1 := tN_eq hx.1.2.2.1 hx.1.2.2.2
    have e2 := tN_eq hy.1.2.2.1 hy.1.2.2.2
    omega
  have hL : x.list = y.list := by
    have e1 : x.list = x.of ++ x.list.drop (tN x.n) := by unfold Ev.of; rw [List.take_append_drop]
    have e2 : y.list = y.of ++ y.list.drop (tN y.n) := by unfold Ev.of; rw [List.take_append_drop]
    have d : ∀ z : Ev, rightP z → z.list.drop (tN z.n) = List.replicate (6 - tN z.n) acc0 := fun z hz => by
      apply List.eq_replicate_iff.mpr
      refine ⟨by rw [List.length_drop]; rfl, fun b hb => hz.2.2.1 b hb⟩
    rw [e1, e2, h2, d x hx, d y hy, hl]
  obtain ⟨g, f, p, o, al, v, t, t0, t1, t2, t3, t4, t5, n⟩ := x
  obtain ⟨g', f', p', o', al', v', t', s0, s1, s2, s3, s4, s5, n'⟩ := y
  simp only [evH, List.cons.injEq, and_true] at h1
  simp only [Ev.list, List.cons.injEq, and_true] at hL
  obtain ⟨rfl, rfl, rfl, rfl, rfl, rfl, rfl⟩ := h1
  obtain ⟨rfl, rfl, rfl, rfl, rfl, rfl⟩ := hL
  simp only at hn
  subst hn
  rfl
/-- The key of events. -/
def keyB (X : List Ev) : List UInt8 := linesB (X.map evL)
theorem keyB_inj {X Y : List Ev} (hX : ∀ x ∈ X, rightP x) (hY : ∀ x ∈ Y, rightP x) : keyB X = keyB Y ↔ X = Y := by
  refine ⟨fun h => ?_, fun h => by rw [h]⟩
  have h1 := lines_inj (fun z hz => by obtain ⟨x, _, rfl⟩ := List.mem_map.mp hz; exact evL_good x) (fun z hz => by obtain ⟨x, _, rfl⟩ := List.mem_map.mp hz; exact evL_good x) h
  clear h
  induction X generalizing Y with
  | nil => cases Y with
    | nil => rfl
    | cons y Y => simp at h1
  | cons x X ih => cases Y with
    | nil => simp at h1
    | cons y Y =>
      simp only [List.map_cons, List.cons.injEq] at h1
      rw [evL_inj (hX x (by simp)) (hY y (by simp)) h1.1, ih (fun z hz => hX z (by simp [hz])) (fun z hz => hY z (by simp [hz])) h1.2]
theorem keyB_snoc (X : List Ev) (x : Ev) : keyB (X ++ [x]) = keyB X ++ lineB (evL x) := by simp [keyB, linesB]
/-- What an event touches, as far as it is written. -/
def tchTo (x : Ev) (j : Nat) : List UInt8 := (x.of.take j).flatMap fun a => 58 :: numsB (accL a)
theorem tchTo_more {x : Ev} {j : Nat} {a : Acc} (h : x.of[j]? = some a) : tchTo x (j + 1) = tchTo x j ++ ([58] ++ numsB (accL a)) := by
  unfold tchTo
  rw [List.take_add_one, h]
  simp
theorem line_parts (x : Ev) : lineB (evL x) = (numsB (evH x) ++ tchTo x x.of.length) ++ [59] := by
  unfold lineB evL tchB tchTo
  rw [List.take_length]
  simp [List.flatMap_map]
theorem evH_wf {x : Ev} (h : x.wf) : ∀ n ∈ evH x, I64 n := by
  intro n hn
  obtain ⟨⟨h1, h2, h3, h4, h5, h6, h7⟩, _⟩ := h
  simp only [evH, List.mem_cons, List.not_mem_nil, or_false] at hn
  rcases hn with rfl | rfl | rfl | rfl | rfl | rfl | rfl <;> assumption
theorem accL_wf {x : Ev} (h : x.wf) {a : Acc} (ha : a ∈ x.of) : ∀ n ∈ accL a, I64 n := by
  intro n hn
  have hw := h.2.1 a (List.mem_of_mem_take ha)
  simp only [accL, List.mem_cons, List.not_mem_nil, or_false] at hn
  rcases hn with rfl | rfl | rfl
  · exact hw.1
  · exact hw.2
  · unfold bitI I64; split <;> omega
theorem tchTo_len {x : Ev} (h : x.wf) (j : Nat) (hj : j ≤ x.of.length) : (tchTo x j).length ≤ 67 * j := by
  induction j with
  | zero => simp [tchTo]
  | succ j ih =>
    obtain ⟨a, ha, ham⟩ := get_lt x.of j (by omega)
    have h1 := ih (by omega)
    have h2 := numsB_len (accL a) (accL_wf h ham)
    rw [tchTo_more ha, List.length_append, List.length_append]
    have h3 : (accL a).length = 3 := rfl
    rw [h3] at h2
    simp only [List.length_cons, List.length_nil]
    omega
theorem keyB_len {X : List Ev} (h : ∀ x ∈ X, x.wf) : (keyB X).length ≤ 600 * X.length := by
  unfold keyB linesB
  induction X with
  | nil => simp
  | cons x X ih =>
    have h1 := ih fun y hy => h y (by simp [hy])
    have hx := h x (by simp)
    have h2 := numsB_len (evH x) (evH_wf hx)
    have h3 := tchTo_len hx x.of.length (Nat.le_refl _)
    have h4 : (evH x).length = 7 := rfl
    have h5 := x.of_len
    have h6 := tN_le x.n
    simp only [List.map_cons, List.flatMap_cons, List.length_append, List.length_cons, line_parts, List.length_nil] at h1 ⊢
    rw [h4] at h2
    omega
set_option maxHeartbeats 1000000 in
theorem bit_any (b : Bool) (w : World) : Calls Tryd.prog 19 #[.bool b] w fun e w' => e = .returned (.int .i64 (bitI b)) ∧ w' = w := by
  cases b <;>
  · go_enter Tryd.func19, Tryd.ntmps19
    go_wp2
    go_ret
    exact ⟨rfl, rfl⟩
theorem other_blk {W : World} {B : Nat} {va : Option Addr} {vc : Nat} {cs : List UInt8} (h : OwnB W B va vc cs) {Q : Nat} {c : Array Value} {t : TypeId} {fz : Nat × Nat} (hq : W.heap[Q]? = some (.cells c t fz)) (ht : t ≠ 5) : Q ∉ blk va := fun q => by
  obtain ⟨cur, e⟩ := own_tagK h q
  rw [hq] at e
  have := Option.some.inj e
  injection this with _ h2
  exact ht h2
/-- How all lies while an access is written. -/
structure R12 (w1 W : World) (B : Nat) (va : Option Addr) (vc : Nat) (cs : List UInt8) (X0 : Nat) (x : Ev) (Y : Nat) (a : Acc) : Prop where
  n : NbS w1 W B va vc cs
  e : W.heap[X0]? = some (objE x)
  y : W.heap[Y]? = some (objA a)
  s : B ≤ W.heap.size
theorem R12.later {w1 W W' : World} {B : Nat} {va : Option Addr} {vc : Nat} {cs : List UInt8} {X0 : Nat} {x : Ev} {Y : Nat} {a : Acc} (h : R12 w1 W B va vc cs X0 x Y a) (hb : Below W.heap.size W W') : R12 w1 W' B va vc cs X0 x Y a :=
  ⟨h.n.later h.s hb, (hb.block _ (Array.getElem?_eq_some_iff.mp h.e).1).trans h.e, (hb.block _ (Array.getElem?_eq_some_iff.mp h.y).1).trans h.y, by have := hb.size; have := h.s; omega⟩
theorem R12.app {w1 W W' : World} {B : Nat} {va va' : Option Addr} {vc vc' : Nat} {cs : List UInt8} {X0 : Nat} {x : Ev} {Y : Nat} {a : Acc} (h : R12 w1 W B va vc cs X0 x Y a) (c : UInt8) (ho : OwnL W' B 5 1 va' vc' (cs.map bC ++ [bC c])) (hk : ∀ b, b < W.heap.size → b ∉ blk va → W'.heap[b]? = W.heap[b]?) (hb : Below (min B W.heap.size) W W') : R12 w1 W' B va' vc' (cs ++ [c]) X0 x Y a := by
  have hmin : Below B W W' := hb.mono (by have := h.s; omega)
  refine ⟨h.n.then (by rw [OwnB, List.map_append]; exact ho) hmin fun k o hq _ hot => ?_, ?_, ?_, by have := hmin.size; have := h.s; omega⟩
  · rw [hk k (Array.getElem?_eq_some_iff.mp hq).1 fun q => ?_]
    · exact hq
    · obtain ⟨cur, e⟩ := own_tagK h.n.o q
      rw [hq] at e
      exact hot cur (0, 0) (Option.some.inj e)
  · exact (hk X0 (Array.getElem?_eq_some_iff.mp h.e).1 (other_blk h.n.o h.e (by decide))).trans h.e
  · exact (hk Y (Array.getElem?_eq_some_iff.mp h.y).1 (other_blk h.n.o h.y (by decide))).trans h.y
theorem accB_cells {w : World} {Y : Nat} {a : Acc} (h : w.heap[Y]? = some (objA a)) : w.cell? ⟨Y, 0, none⟩ = some (.int .i64 a.kind) ∧ w.cell? ⟨Y, 1, none⟩ = some (.int .i64 a.num) ∧ w.cell? ⟨Y, 2, none⟩ = some (.bool a.wr) := ⟨cell_ofK h rfl, cell_ofK h rfl, cell_ofK h rfl⟩
theorem infoI64 : (Tryd.prog.info? 2).map (fun i => (i.zero, i.size, i.bytes)) = some (some (.int .i64 0), 1, 8) := by kernel_rfl
end Go.Proofs.YtkadlopcomjonaaDoor.pg
/- The key of a trace: package canon's Key, walked. -/
namespace Go.Proofs.YtkadlopcomjonaaDoor.pg
open Go.ChangeShapes Go.WideShapes Go.ChangeAt Go.RowKit Go.Shelf
set_option linter.unusedVariables false
set_option linter.unusedSimpArgs false
set_option maxRecDepth 100000
theorem boxE_heap {w : World} {B : Nat} {x : Ev} (h : w.heap[B]? = some (objE x)) : BoxE w B x := boxE_of fun i v hv => cell_ofK h (by simpa [Ev.cells] using hv)
theorem conv_key {W : World} {B : Nat} {va : Option Addr} {vc m : Nat} {cs : List UInt8} (h : OwnB W B va vc cs) (hm : m = cs.length) : (convert 51 9 (.slice va m vc)).run Tryd.prog W = .ok (.string ⟨cs.toArray⟩) W := by
  subst hm
  rcases own_block h with ⟨h1, h2, h3⟩ | ⟨g, h1, h2, h3⟩
  · have : cs = [] := by simpa using h2
    subst this
    subst h1
    show (convert 51 9 (.slice none 0 vc)).run Tryd.prog W = _
    rw [run_convert_bytes_string (P := Tryd.prog) W 51 9 5 none 0 vc Tryd.underlying51 Tryd.underlying5 Tryd.underlying9]
    rfl
  · subst h1
    refine run_convert_bytes_back (P := Tryd.prog) W 51 9 5 ⟨g, 0, none⟩ vc cs Tryd.underlying51 Tryd.underlying5 Tryd.underlying9 (fun j hj => ?_)
    obtain ⟨b, off, e, _, hc⟩ := (own_rows h (bC_len cs)).row (i := j) (row := bC cs[j]) (by simp [hj])
    cases e
    have := hc 0 (.int .u8 (cs[j].toNat : Int)) rfl
    rcases Nat.eq_zero_or_pos j with hz | hp
    · subst hz; simpa [Addr.add] using this
    · have hj0 : ¬ j = 0 := by omega
      simpa [Addr.add, hj0] using this
set_option maxHeartbeats 1000000 in
theorem canonical_bad (l : List Ev) (la : Option Addr) (lc : Nat) (w : World) (hl : Rows w 26 la lc (l.map Ev.cells)) (c : Int) (hc : checkP l c) (h0 : c = 2 ∨ c = 7) :
    Calls Tryd.prog 14 #[.slice la l.length lc] w fun e w' => ∃ A, e = .returned (.tuple #[.slice (some ⟨A, 0, none⟩) 0 0, .int .i64 c]) ∧ Below w.heap.size w w' := by
  have c1 := form_bad l la lc w hl c hc h0
  have c2 : ∀ wx, Below w.heap.size w wx → Calls Tryd.prog 28 #[.slice la l.length lc, .slice none 0 0] wx fun e w' => ∃ A, e = .returned (.slice (some ⟨A, 0, none⟩) 0 0) ∧ Below wx.heap.size wx w' := fun wx hb =>
    (arranged_any l la lc [] none 0 wx (hl.later hb) (rows_nil1 wx) (by simp) (by simp)).mono fun e w' ⟨A, he, hq⟩ => ⟨A, he, hq.out.2.2⟩
  clear hl hc h0
  go_enter Tryd.func14, Tryd.ntmps14
  go_wp2_with (first
    | (go_at_call 21; (with_reducible refine c1.mono ?_); rintro e w1 ⟨rfl, hb1⟩; (have hB : Hid (Below w.heap.size w w1) := hb1); clear hb1 c1)
    | (go_at_call 28; (refine (c2 _ hB.out).mono ?_); rintro e w2 ⟨A, rfl, hb2⟩; (have hB2 : Hid (Below w.heap.size w w2) := bthen hB.out hb2); clear hb2 c2))
  go_ret2
  exact ⟨A, rfl, hB2.out⟩
set_option maxHeartbeats 1000000 in
theorem key_bad (l : List Ev) (la : Option Addr) (lc : Nat) (w : World) (hl : Rows w 26 la lc (l.map Ev.cells)) (c : Int) (hc : checkP l c) (h0 : c = 2 ∨ c = 7) :
    Calls Tryd.prog 8 #[.slice la l.length lc] w fun e w' => e = .returned (.tuple #[.string ⟨#[]⟩, .int .i64 c]) ∧ Below w.heap.size w w' := by
  have c1 := canonical_bad l la lc w hl c hc h0
  have d : (c != 0) = true := by rcases h0 with rfl | rfl <;> rfl
  clear hl hc h0
  go_enter Tryd.func8, Tryd.ntmps8
  go_wp2_with (go_at_call 14; (with_reducible refine c1.mono ?_); rintro e w1 ⟨A, rfl, hb1⟩; (have hB : Hid (Below w.heap.size w w1) := hb1); clear hb1 c1)
  go_ret2
  exact ⟨rfl, hB.out⟩
set_option maxHeartbeats 8000000 in
theorem key_ok (l : List Ev) (la : Option Addr) (lc : Nat) (w : World) (hl : Rows w 26 la lc (l.map Ev.cells)) (hwf : ∀ x ∈ l, x.wf) (hlen : l.length ≤ 256) (hrt : ∀ x ∈ l, rightP x) {B0 : Nat → Nat → Bool} (hB0 : Tells (dpf l) B0) (hT : ∀ wx, Below w.heap.size w wx → TabB wx.heap.size wx) :
    Calls Tryd.prog 8 #[.slice la l.length lc] w fun e w' => ∃ L, e = .returned (.tuple #[.string ⟨(keyB (laidE l L)).toArray⟩, .int .i64 0]) ∧ Hid (OrdL B0 (gof l) l.length L ∧ L.length = l.length ∧ Below w.heap.size w w') := by
  have c1 := canonical_ok l la lc w hl hlen hrt hB0
  obtain ⟨iU, hiU, hzU, hsU, hbU⟩ := info_q infoU8
  have iUH : Hid (Tryd.prog.info? 5 = some iU ∧ iU.zero = some (.int .u8 0) ∧ iU.size = 1 ∧ iU.bytes = 1) := ⟨hiU, hzU, hsU, hbU⟩
  obtain ⟨iI, hiI, hzI, hsI, hbI⟩ := info_q infoI64
  have iIH : Hid (Tryd.prog.info? 2 = some iI ∧ iI.zero = some (.int .i64 0) ∧ iI.size = 1 ∧ iI.bytes = 8) := ⟨hiI, hzI, hsI, hbI⟩
  have huE : Hid (Tryd.prog.underlying 42 = _) := Tryd.underlying42
  have hiE : Hid ((Tryd.prog.info? 42).map (·.size) = some 26) := infoE26
  have hXs : Hid (∀ L : List Nat, OrdL B0 (gof l) l.length L → L.length = l.length → (laidE l L).length = l.length ∧ (∀ x ∈ laidE l L, x.wf) ∧ ∀ x ∈ laidE l L, rightP x) := fun L h1 h2 => ⟨by rw [laid_len, h2], laid_all hwf h1.lin.lt, laid_all hrt h1.lin.lt⟩
  have hTH : Hid (∀ wx, Below w.heap.size w wx → TabB wx.heap.size wx) := hT
  have hlI : (l.length : Int) ≤ 256 := by omega
  clear hl hrt hB0 hwf hT hiU hzU hsU hbU hiI hzI hsI hbI
  go_enter Tryd.func8, Tryd.ntmps8
  go_wp2_with (go_at_call 14; (with_reducible refine c1.mono ?_); rintro e w1 ⟨L, A, rfl, hq⟩; clear c1)
  obtain ⟨B, hBe⟩ : ∃ B, w1.heap.size = B := ⟨_, rfl⟩
  obtain ⟨X, hX⟩ : ∃ X, laidE l L = X := ⟨_, rfl⟩
  have hXf : Hid (X.length = l.length ∧ (∀ x ∈ X, x.wf) ∧ ∀ x ∈ X, rightP x) := by rw [← hX]; exact hXs.out L hq.out.1 hq.out.2.1
  have hXr : Hid (∀ W', Below B w1 W' → Rows W' 26 (some ⟨A, 0, none⟩) l.length (X.map Ev.cells)) := fun W' hb => by rw [← hX]; rw [← hBe] at hb; exact hq.out.2.2.1.later hb
  have hTB : Hid (TabB B w1) := by rw [← hBe]; exact hTH.out w1 hq.out.2.2.2
  have hBw : Hid (B ≤ w1.heap.size) := by rw [hBe]; exact Nat.le_refl _
  have hend : Hid (∀ W', Below B w1 W' → ∃ L, (⟨(keyB X).toArray⟩ : ByteArray) = ⟨(keyB (laidE l L)).toArray⟩ ∧ OrdL B0 (gof l) l.length L ∧ L.length = l.length ∧ Below w.heap.size w W') := fun W' hb => ⟨L, by rw [hX], hq.out.1, hq.out.2.1, by rw [← hBe] at hb; exact bthen hq.out.2.2.2 hb⟩
  have s0 : Hid (NumR w1 w1 B none 0 0 (keyB (X.take 0))) := ⟨by simp [keyB, linesB], own_nil_q _ _ _ _, Below.refl _ _, Lib.OthersKept.refl _ _ _⟩
  clear hq hX hBe hXs hTH
  go_loopw [6, 21] (fun kk u wr => ∃ (k : Nat) (va : Option Addr) (vc M : Nat), k ≤ l.length ∧ kk = .slice va M vc ∧ u = .int .i64 (k : Int) ∧ Hid (NumR w1 wr B va vc M (keyB (X.take k)))) (fun _ u _ => l.length - (intOf u).toNat)
  case atStart => exact ⟨0, none, 0, 0, Nat.zero_le _, rfl, rfl, s0⟩
  case round =>
    obtain ⟨k, va, vc, M, hk, rfl, rfl, hs⟩ := hrel
    clear s0
    by_cases hlt : k < l.length
    · have hkI : (k : Int) < l.length := by omega
      obtain ⟨x, hx, hxm⟩ := get_lt X k (by rw [hXf.out.1]; exact hlt)
      obtain ⟨b0, o0, hix, hbl, hrg⟩ := ev_row (hXr.out wr hs.out.2.b) k x hx
      rw [hXf.out.1] at hix
      have hrgH : Hid (wr.rangeAt b0 o0 x.cells) := hrg
      have hxw : Hid x.wf := hXf.out.2.1 x hxm
      have hxr : Hid (rightP x) := hXf.out.2.2 x hxm
      have hky : Hid (keyB (X.take (k + 1)) = ((keyB (X.take k) ++ numsB (evH x)) ++ tchTo x x.of.length) ++ [59]) := by
        show _ = _
        have ht : X.take (k + 1) = X.take k ++ [x] := by rw [List.take_add_one, hx]; rfl
        rw [ht, keyB_snoc, line_parts]
        simp
      have hkl : Hid ((keyB (X.take k)).length ≤ 600 * 256) := by
        have := keyB_len (X := X.take k) fun y hy => hXf.out.2.1 y (List.mem_of_mem_take hy)
        rw [List.length_take] at this
        show _ ≤ _
        omega
      have bx := boxE_new wr x
      have q0 := bx.at 0 _ rfl
      have q1 := bx.at 1 _ rfl
      have q2 := bx.at 2 _ rfl
      have q3 := bx.at 3 _ rfl
      have q4 := bx.at 4 _ rfl
      have q5 := bx.at 5 _ rfl
      have q6 := bx.at 6 _ rfl
      have hhx : Hid ((wr.alloc (objE x)).heap[wr.heap.size]? = some (objE x)) := heap_alloc_new _ _
      have hs1 : Hid (NumR w1 (wr.alloc (objE x)) B va vc M (keyB (X.take k)) ∧ B ≤ (wr.alloc (objE x)).heap.size) := by
        have h1 := hs.out.2.sz hBw.out
        exact ⟨⟨hs.out.1, hs.out.2.later h1 (boxed _ _)⟩, by have := (boxed wr (objE x)).size; omega⟩
      clear hrg bx hs hbl hxm hx
      go_upto_region 8 with (first
        | (refine wpList_load_mid rfl 42 _ rfl b0 o0 rfl x.cells _ hrgH.out huE.out rfl hiE.out ?_)
        | (refine wpList_store_new rfl 42 _ _ rfl rfl _ x.cells.toArray rfl (by kernel_rfl) rfl (ev_one x) ?_))
      change Code.wp _ _ _ _ (wr.alloc (objE x))
      generalize wr.alloc (objE x) = W at *
      generalize wr.heap.size = X0 at *
      have cN : ∀ wx, wx = W.alloc (objI64 (evH x)) → Calls Tryd.prog 18 #[.slice va M vc, .slice (some ⟨W.heap.size, 0, none⟩) 7 7] wx fun e w' => ∃ va' vc' m', e = .returned (.slice va' m' vc') ∧ Hid (NumR w1 w' B va' vc' m' (keyB (X.take k) ++ numsB (evH x)) ∧ w'.heap[X0]? = some (objE x)) := fun wx e => by
        subst e
        have hb := boxed W (objI64 (evH x))
        have h1 := hs1.out.1.2.later hs1.out.2 hb
        have h2 : (W.alloc (objI64 (evH x))).heap[X0]? = some (objE x) := (hb.block _ (Array.getElem?_eq_some_iff.mp hhx.out).1).trans hhx.out
        refine (numbers_any B (keyB (X.take k)) (evH x) va vc W.heap.size M 7 _ h1.o hs1.out.1.1 rfl (by have := hb.size; have := hs1.out.2; omega) (hTB.out.later h1.b) (heap_alloc_new _ _) (evH_wf hxw.out) (by have := hkl.out; have e7 : (evH x).length = 7 := rfl; rw [e7]; omega)).mono fun e w' ⟨va', vc', m', he, hz⟩ => ⟨va', vc', m', he, ⟨⟨hz.out.1, h1.then hz.out.2.o hz.out.2.b hz.out.2.k⟩, hz.out.2.k X0 _ h2 (by simp) (fun c fz e => by injection e with _ h3; exact absurd h3 (by decide))⟩⟩
      go_wp2_with (first
        | (refine wpList_buildSlice rfl 68 2 7 _ rfl ((evH x).map fun v => Value.int .i64 v).toArray iI _ Tryd.underlying68 iIH.out.1 iIH.out.2.1 (by rw [iIH.out.2.2.1]; omega) (by rw [iIH.out.2.2.1]; omega) (by simp only [iIH.out.2.2.1]; kernel_rfl) ?_)
        | (go_at_call 18; (refine (cN _ rfl).mono ?_); rintro e w3 ⟨va1, vc1, M1, rfl, h3⟩; (have q25 := (boxE_heap h3.out.2).at 25 _ rfl); (obtain ⟨N, hN⟩ : ∃ N, N = tN x.n := ⟨_, rfl⟩); (have hNI : ((N : Nat) : Int) = x.n := (by rw [hN]; exact tN_eq hxr.out.1.2.2.1 hxr.out.1.2.2.2)); (have hN16 : 1 ≤ N ∧ N ≤ 6 := (by have := hxr.out.1; omega)); (obtain ⟨sl1, _, _, _⟩ := slice_two X0 N hN16.1 hN16.2); rw [hNI] at sl1; (have hofl : Hid (x.of.length = N) := (by show _ = _; rw [hN, Ev.of_len])); (have hN6 : (N : Int) ≤ 6 := (by omega)); clear cN q0 q1 q2 q3 q4 q5 q6 hN hNI hN16))
      have t0 : Hid (NumR w1 w3 B va1 vc1 M1 ((keyB (X.take k) ++ numsB (evH x)) ++ tchTo x 0) ∧ w3.heap[X0]? = some (objE x)) := by
        refine ⟨?_, h3.out.2⟩
        have e : tchTo x 0 = [] := rfl
        rw [e, List.append_nil]
        exact h3.out.1
      have hbsl : Hid ((keyB (X.take k) ++ numsB (evH x)).length ≤ 600 * 256 + 154) := by
        have h1 := hkl.out
        have h2 := numsB_len (evH x) (evH_wf hxw.out)
        have e7 : (evH x).length = 7 := rfl
        rw [e7] at h2
        show _ ≤ _
        rw [List.length_append]
        omega
      clear h3 q25 sl1 hhx hs1 hkl
      generalize keyB (X.take k) ++ numsB (evH x) = bs at *
      obtain ⟨va, hva⟩ : ∃ va, va1 = va := ⟨_, rfl⟩
      obtain ⟨vc, hvc⟩ : ∃ vc, vc1 = vc := ⟨_, rfl⟩
      rw [hva, hvc] at t0 ⊢
      clear hva hvc
      go_loopw [6, 47] (fun kk u wq => ∃ (j : Nat) (va : Option Addr) (vc M : Nat), j ≤ N ∧ kk = .slice va M vc ∧ u = .int .i64 (j : Int) ∧ Hid (NumR w1 wq B va vc M (bs ++ tchTo x j) ∧ wq.heap[X0]? = some (objE x))) (fun _ u _ => N - (intOf u).toNat)
      case atStart => exact ⟨0, va, vc, M1, Nat.zero_le _, rfl, rfl, t0⟩
      case round =>
        rename World => wq
        obtain ⟨j, va, vc, M, hj, rfl, rfl, hsq⟩ := hrel
        clear t0
        by_cases hjt : j < N
        · have hjI : (j : Int) < N := by omega
          obtain ⟨a, ha, ham⟩ := get_lt x.of j (by rw [hofl.out]; exact hjt)
          obtain ⟨b1, o1, hix1, hbl1, k0, k1, k2⟩ := acc_ix (rowsE (boxE_heap hsq.out.2)) j a ha
          rw [hofl.out] at hix1
          have hawf : Hid (∀ n ∈ accL a, I64 n) := accL_wf hxw.out ham
          have hnx : Hid (bs ++ tchTo x (j + 1) = (bs ++ tchTo x j) ++ ([58] ++ numsB (accL a))) := by show _ = _; rw [tchTo_more ha, List.append_assoc]
          have hMl : Hid (M + 200 ≤ 1000000) := by
            have h1 := hsq.out.1.1
            have h2 := tchTo_len hxw.out j (by rw [hofl.out]; omega)
            have h3 := hbsl.out
            rw [List.length_append] at h1
            show M + 200 ≤ 1000000
            omega
          go_upto_region 12 with fail
          have hRq : Hid (R12 w1 (wq.alloc (objA a)) B va vc (bs ++ tchTo x j) X0 x wq.heap.size a) := by
            have hs : B ≤ wq.heap.size := hsq.out.1.2.sz hBw.out
            have hb := boxed wq (objA a)
            exact ⟨hsq.out.1.2.later hs hb, (hb.block _ (Array.getElem?_eq_some_iff.mp hsq.out.2).1).trans hsq.out.2, heap_alloc_new _ _, by have := hb.size; omega⟩
          have hml : Hid (((bs ++ tchTo x j).map bC).length = M ∧ ((bs ++ tchTo x j).map bC ++ [bC 58]).length = M + 1 ∧ M = (bs ++ tchTo x j).length ∧ M + 200 ≤ 1000000) := by
            have h1 := hsq.out.1.1
            refine ⟨by rw [List.length_map]; exact h1.symm, by rw [List.length_append, List.length_map, ← h1]; rfl, h1, hMl.out⟩
          clear hsq k0 k1 k2 hix1 hbl1 ham ha hMl
          generalize bs ++ tchTo x j = cs at *
          generalize wq.alloc (objA a) = W0 at *
          generalize wq.heap.size = Y at *
          refine wp_region_noPanic ?_
          refine wp_region_held_drew (S := fun w' => w'.heap[Y]? = some (objA a)) (by kernel_rfl) hRq.out.y (fun hS => ?_)
          have hRWd : Hid (R12 w1 W0.drew B va vc cs X0 x Y a) := hRq.out.later (bey_drew W0)
          clear hRq
          obtain ⟨Wd, hWd⟩ : ∃ Wd, W0.drew = Wd := ⟨_, rfl⟩
          rw [hWd] at hRWd hS ⊢
          clear hWd
          refine reg_move (i := 0) rfl (by kernel_rfl) (by kernel_rfl) (by kernel_rfl) (fun _ _ _ _ h => h) rfl (.slice va M vc) (fun _ => by kernel_rfl) hS ?_
          simp only [Act.put, List.getElem_toArray, List.getElem_cons_succ, List.getElem_cons_zero, List.setIfInBounds_toArray, List.set_cons_zero, List.set_cons_succ]
          refine reg_move (i := 3) rfl (by kernel_rfl) (by kernel_rfl) (by kernel_rfl) (fun _ _ _ _ h => h) rfl (.pointer (some ⟨Y, 0, none⟩)) (fun _ => by kernel_rfl) hS ?_
          simp only [Act.put, List.getElem_toArray, List.getElem_cons_succ, List.getElem_cons_zero, List.setIfInBounds_toArray, List.set_cons_zero, List.set_cons_succ]
          refine reg_load1 (i := 4) rfl (by kernel_rfl) (by kernel_rfl) (by kernel_rfl) (fun _ _ _ _ h => h) rfl 3 _ rfl ⟨Y, 0, none⟩ rfl _ Tryd.underlying3 rfl (.int .i64 a.kind) (fun w' h' => (accB_cells h').1) hS ?_
          simp only [Act.put, List.getElem_toArray, List.getElem_cons_succ, List.getElem_cons_zero, List.setIfInBounds_toArray, List.set_cons_zero, List.set_cons_succ]
          refine reg_move (i := 5) rfl (by kernel_rfl) (by kernel_rfl) (by kernel_rfl) (fun _ _ _ _ h => h) rfl (.pointer (some ⟨Y, 1, none⟩)) (fun _ => by kernel_rfl) hS ?_
          simp only [Act.put, List.getElem_toArray, List.getElem_cons_succ, List.getElem_cons_zero, List.setIfInBounds_toArray, List.set_cons_zero, List.set_cons_succ]
          refine reg_load1 (i := 6) rfl (by kernel_rfl) (by kernel_rfl) (by kernel_rfl) (fun _ _ _ _ h => h) rfl 3 _ rfl ⟨Y, 1, none⟩ rfl _ Tryd.underlying3 rfl (.int .i64 a.num) (fun w' h' => (accB_cells h').2.1) hS ?_
          simp only [Act.put, List.getElem_toArray, List.getElem_cons_succ, List.getElem_cons_zero, List.setIfInBounds_toArray, List.set_cons_zero, List.set_cons_succ]
          refine reg_move (i := 7) rfl (by kernel_rfl) (by kernel_rfl) (by kernel_rfl) (fun _ _ _ _ h => h) rfl (.pointer (some ⟨Y, 2, none⟩)) (fun _ => by kernel_rfl) hS ?_
          simp only [Act.put, List.getElem_toArray, List.getElem_cons_succ, List.getElem_cons_zero, List.setIfInBounds_toArray, List.set_cons_zero, List.set_cons_succ]
          refine reg_load1 (i := 8) rfl (by kernel_rfl) (by kernel_rfl) (by kernel_rfl) (fun _ _ _ _ h => h) rfl 4 _ rfl ⟨Y, 2, none⟩ rfl _ Tryd.underlying4 rfl (.bool a.wr) (fun w' h' => (accB_cells h').2.2) hS ?_
          simp only [Act.put, List.getElem_toArray, List.getElem_cons_succ, List.getElem_cons_zero, List.setIfInBounds_toArray, List.set_cons_zero, List.set_cons_succ]
          refine reg_one (i := 1) (by kernel_rfl) rfl rfl ?_
          have hRWn1 : Hid (R12 w1 (Wd.alloc (.cells (bC 58).toArray 5)) B va vc cs X0 x Y a) := hRWd.out.later (boxed _ _)
          have hqQa2 : Hid ((Wd.alloc (.cells (bC 58).toArray 5)).heap[Wd.heap.size]? = some (.cells (bC 58).toArray 5)) := heap_alloc_new _ _
          refine wpList_buildSlice rfl 51 5 1 _ rfl (bC 58).toArray iU _ Tryd.underlying51 iUH.out.1 iUH.out.2.1 (by rw [iUH.out.2.2.1]; omega) (by rw [iUH.out.2.2.1]; omega) (by simp only [iUH.out.2.2.1]; kernel_rfl) (wpList_nil (And.intro hRWn1.out.y fun _ => ?_))
          simp only [Act.put, List.getElem_toArray, List.getElem_cons_succ, List.getElem_cons_zero, List.setIfInBounds_toArray, List.set_cons_zero, List.set_cons_succ]
          generalize Wd.alloc (.cells (bC 58).toArray 5) = Wn1 at hRWn1 hqQa2 ⊢
          generalize Wd.heap.size = Qa2 at hqQa2 ⊢
          refine reg_one (i := 2) (by kernel_rfl) rfl rfl ?_
          refine wpList_app rfl (.tmp 51) (.tmp 52) 51 rfl B 5 iU _ 1 1 Tryd.underlying51 iUH.out.1 iUH.out.2.1 iUH.out.2.2.1 iUH.out.2.2.2 rfl (by decide) va vc (cs.map bC) (by rw [hml.out.1]; rfl) hRWn1.out.n.o (some ⟨Qa2, 0, none⟩) 1 [bC 58] rfl (rows_one_q hqQa2.out rfl) (by intro row hr; rw [List.mem_singleton] at hr; subst hr; rfl) (by intro row hr; rw [List.mem_singleton] at hr; subst hr; exact bC_one _) (by rw [hml.out.1]; have := hml.out.2.2; unfold maxLen; simp; omega) (by rw [hml.out.1]; have := hml.out.2.2; simp; omega) hRWn1.out.s ?_
          intro va2 vc2 Wp3 ho hk hb hbl
          have hRWp3 : Hid (R12 w1 Wp3 B va2 vc2 (cs ++ [58]) X0 x Y a) := hRWn1.out.app 58 ho hk hb
          clear ho hk hb hbl
          refine wpList_nil (And.intro hRWp3.out.y fun _ => ?_)
          rw [hml.out.2.1]
          simp only [Act.put, List.getElem_toArray, List.getElem_cons_succ, List.getElem_cons_zero, List.setIfInBounds_toArray, List.set_cons_zero, List.set_cons_succ]
          refine reg_call1 (i := 9) (by kernel_rfl) rfl rfl 19 (.tmp 59) _ rfl (.bool a.wr) rfl (cf_fn Tryd.func19 (by kernel_rfl) (by kernel_rfl) _ _) _ (bit_any a.wr _) (fun e w' hh => ⟨_, hh.1, by rw [hh.2]; exact hRWp3.out.y, fun _ => ?_⟩)
          rw [hh.2]
          clear hh
          simp only [Act.put, List.getElem_toArray, List.getElem_cons_succ, List.getElem_cons_zero, List.setIfInBounds_toArray, List.set_cons_zero, List.set_cons_succ]
          refine reg_one (i := 10) (by kernel_rfl) rfl rfl ?_
          have hRWn4 : Hid (R12 w1 (Wp3.alloc (objI64 (accL a))) B va2 vc2 (cs ++ [58]) X0 x Y a) := hRWp3.out.later (boxed _ _)
          have hrWn4 : Hid ((Wp3.alloc (objI64 (accL a))).heap[Wp3.heap.size]? = some (objI64 (accL a))) := heap_alloc_new _ _
          refine wpList_buildSlice rfl 68 2 3 _ rfl ((accL a).map fun v => Value.int .i64 v).toArray iI _ Tryd.underlying68 iIH.out.1 iIH.out.2.1 (by rw [iIH.out.2.2.1]; omega) (by rw [iIH.out.2.2.1]; omega) (by simp only [iIH.out.2.2.1]; kernel_rfl) (wpList_nil (And.intro hRWn4.out.y fun _ => ?_))
          simp only [Act.put, List.getElem_toArray, List.getElem_cons_succ, List.getElem_cons_zero, List.setIfInBounds_toArray, List.set_cons_zero, List.set_cons_succ]
          generalize Wp3.alloc (objI64 (accL a)) = Wn4 at hRWn4 hrWn4 ⊢
          generalize Wp3.heap.size = Qb5 at hrWn4 ⊢
          refine reg_call2 (i := 11) (by kernel_rfl) rfl rfl 18 (.tmp 53) (.tmp 61) _ _ rfl (.slice va2 (M + 1) vc2) (.slice (some ⟨Qb5, 0, none⟩) 3 3) rfl rfl (cf_fn Tryd.func18 (by kernel_rfl) (by kernel_rfl) _ _) _ (numbers_any B (cs ++ [58]) (accL a) va2 vc2 Qb5 (M + 1) 3 Wn4 hRWn4.out.n.o (by rw [List.length_append, ← hml.out.2.2.1]; rfl) rfl hRWn4.out.s (hTB.out.later hRWn4.out.n.b) hrWn4.out hawf.out (by rw [List.length_append, ← hml.out.2.2.1]; have := hml.out.2.2.2; have e3 : (accL a).length = 3 := rfl; rw [e3]; simp; omega)) (fun e w' hh => by
            obtain ⟨va3, vc3, m3, he, hz⟩ := hh
            have hy3 : w'.heap[Y]? = some (objA a) := hz.out.2.k Y _ hRWn4.out.y (by simp) (fun c fz e => by injection e with _ h2; exact absurd h2 (by decide))
            have hx3 : w'.heap[X0]? = some (objE x) := hz.out.2.k X0 _ hRWn4.out.e (by simp) (fun c fz e => by injection e with _ h2; exact absurd h2 (by decide))
            have s6 : Hid (NumR w1 w' B va3 vc3 m3 (bs ++ tchTo x (j + 1)) ∧ w'.heap[X0]? = some (objE x)) := by
              rw [hnx.out]
              refine ⟨⟨?_, hRWn4.out.n.then ?_ hz.out.2.b hz.out.2.k⟩, hx3⟩
              · have := hz.out.1; rw [List.append_assoc] at this; exact this
              · have := hz.out.2.o; rw [List.append_assoc] at this; exact this
            refine ⟨_, he, hy3, fun _ => ?_⟩
            clear hz hx3 he
            simp only [Act.put, List.getElem_toArray, List.getElem_cons_succ, List.getElem_cons_zero, List.setIfInBounds_toArray, List.set_cons_zero, List.set_cons_succ]
            refine reg_move (i := 12) rfl (by kernel_rfl) (by kernel_rfl) (by kernel_rfl) (fun _ _ _ _ h => h) rfl (.slice va3 m3 vc3) (fun _ => by kernel_rfl) hy3 ?_
            simp only [Act.put, List.getElem_toArray, List.getElem_cons_succ, List.getElem_cons_zero, List.setIfInBounds_toArray, List.set_cons_zero, List.set_cons_succ]
            refine wpAnyH_done (by kernel_rfl) (NoPanic.normal ?_) _
            clear hy3
            go_wp2_with fail
            go_roundw
            case rel => exact ⟨j + 1, va3, vc3, m3, by omega, rfl, by go_num, s6⟩
            case measure => simp [intOf]; omega)
        · have hjI : ¬ ((j : Int) < N) := by omega
          have hje : j = x.of.length := by rw [hofl.out]; omega
          have hsq2 : Hid (NumR w1 wq B va vc M (bs ++ tchTo x x.of.length)) := by rw [← hje]; exact hsq.out.1
          have hMl : Hid (((bs ++ tchTo x x.of.length).map bC).length = M ∧ M + 1 ≤ 1000000 ∧ B ≤ wq.heap.size) := by
            have h1 := hsq2.out.1
            have h2 := tchTo_len hxw.out x.of.length (Nat.le_refl _)
            have h3 := hbsl.out
            have h4 := hofl.out
            refine ⟨by rw [List.length_map]; exact h1.symm, ?_, hsq2.out.2.sz hBw.out⟩
            rw [List.length_append] at h1
            omega
          clear hsq hje
          go_wp2_with (first
            | (refine wpList_buildSlice rfl 51 5 1 _ rfl (bC 59).toArray iU _ Tryd.underlying51 iUH.out.1 iUH.out.2.1 (by rw [iUH.out.2.2.1]; omega) (by rw [iUH.out.2.2.1]; omega) (by simp only [iUH.out.2.2.1]; kernel_rfl) ?_)
            | (at_builtin; (refine wpList_app1 rfl (.tmp 64) (.tmp 65) 51 rfl B 5 iU _ 1 1 Tryd.underlying51 iUH.out.1 iUH.out.2.1 iUH.out.2.2.1 iUH.out.2.2.2 rfl (by decide) va vc ((bs ++ tchTo x x.of.length).map bC) (by rw [hMl.out.1]; rfl) hsq2.out.2.o (bC 59) rfl rfl (bC_one _) (by rw [hMl.out.1]; have := hMl.out.2.1; unfold maxLen; omega) (by rw [hMl.out.1]; have := hMl.out.2.1; omega) hMl.out.2.2 ?_); intro ra rc w3 hg; rw [hMl.out.1]; (have s3 : Hid (NumR w1 w3 B ra rc (M + 1) (keyB (X.take (k + 1)))) := (by rw [hky.out]; exact ⟨by rw [List.length_append, ← hsq2.out.1]; rfl, hsq2.out.2.then (by rw [OwnB, List.map_append]; exact hg.ow) (hg.be.mono (by have := hMl.out.2.2; omega)) (okp_grown hsq2.out.2.o hg)⟩)); clear hg))
          go_roundw
          case rel => exact ⟨k + 1, ra, rc, M + 1, by omega, rfl, by go_num, s3⟩
          case measure => simp [intOf]; omega
    · have hkI : ¬ ((k : Int) < l.length) := by omega
      have hfin := hend.out wr hs.out.2.b
      have hs2 : Hid (NumR w1 wr B va vc M (keyB X)) := by
        have := hs.out
        rw [List.take_of_length_le (by rw [hXf.out.1]; omega)] at this
        exact this
      have hcv := conv_key hs2.out.2.o hs2.out.1
      obtain ⟨L, e1, e2⟩ := hfin
      have e2H : Hid (OrdL B0 (gof l) l.length L ∧ L.length = l.length ∧ Below w.heap.size w wr) := e2
      rw [e1] at hcv
      clear e1 e2 hs hs2 hend
      go_wp2
      go_ret2
      exact ⟨L, rfl, e2H⟩
end Go.Proofs.YtkadlopcomjonaaDoor.pg
