/- The document's own Tops. -/
import Derived.Test.YtodkmmmbomoheaaDoorCl3
namespace Go.Proofs.YtodkmmmbomoheaaDoor.pg
open Go.ChangeShapes Go.WideShapes Go.ChangeAt Go.RowKit
set_option linter.unusedVariables false
set_option linter.unusedSimpArgs false
set_option maxRecDepth 100000
attribute [local go_sem ↓] Go.wp_at_zero Go.wp_at_succ
theorem rtops_bad (l : List Ck) (la : Option Addr) (lc : Nat) (w : World) (hl : Rows w 6 la lc (l.map Ck.cells)) (c : Int) (hc : Hid (errL l c)) (h0 : (c == 0) = false) : Calls Tryd.prog 27 #[.slice la l.length lc] w fun e w' => e = .returned (.tuple #[.slice none 0 0, .int .i64 c]) ∧ Below w.heap.size w w' := by
  have c1 := rlist_any l la lc w hl c hc
  clear hl hc
  go_enter Tryd.func27, Tryd.ntmps27
  go_wp2_with (go_at_call 39; (with_reducible refine c1.mono ?_); rintro e w1 ⟨rfl, hb1⟩)
  go_ret2
  exact ⟨rfl, hb1⟩
/-- Nothing speaks against place i, of the first k. -/
def freeTo (l : List Ck) (i : Nat) (a : Ck) (k : Nat) : Prop := ∀ m y, m < k → l[m]? = some y → belowK a y = false ∧ (m < i → a ≠ y)
theorem free_more {l : List Ck} {i k : Nat} {a y : Ck} (hy : l[k]? = some y) (h1 : belowK a y = false) (h2 : k < i → a ≠ y) : freeTo l i a (k + 1) ↔ freeTo l i a k := by
  constructor
  · intro h m z hm hz; exact h m z (by omega) hz
  · intro h m z hm hz
    by_cases e : m = k
    · subst e
      rw [hy] at hz; cases hz
      exact ⟨h1, h2⟩
    · exact h m z (by omega) hz
theorem free_not {l : List Ck} {i k : Nat} {a y : Ck} (hy : l[k]? = some y) (h : belowK a y = true ∨ (k < i ∧ a = y)) : ¬ freeTo l i a (k + 1) := by
  intro q
  have := q k y (by omega) hy
  rcases h with h | ⟨h1, h2⟩
  · rw [this.1] at h; cases h
  · exact this.2 h1 h2
theorem free_top {l : List Ck} {i : Nat} {a : Ck} : freeTo l i a l.length ↔ topB l i a = true := by
  rw [topB_iff]
  constructor
  · intro h
    refine ⟨fun q => ?_, ?_⟩
    · obtain ⟨m, hm⟩ := List.mem_iff_getElem?.mp q
      rw [List.getElem?_take] at hm
      split at hm
      · rename_i hmi
        exact (h m a (List.getElem?_eq_some_iff.mp hm).1 hm).2 hmi rfl
      · cases hm
    · rw [Bool.eq_false_iff]
      intro q
      obtain ⟨y, hy, q⟩ := List.any_eq_true.mp q
      obtain ⟨m, hm⟩ := List.mem_iff_getElem?.mp hy
      have := (h m y (List.getElem?_eq_some_iff.mp hm).1 hm).1
      rw [this] at q; cases q
  · rintro ⟨h1, h2⟩ m y hm hy
    refine ⟨?_, fun hmi q => ?_⟩
    · rw [Bool.eq_false_iff] at h2 ⊢
      exact fun q => h2 (List.any_eq_true.mpr ⟨y, List.mem_of_getElem? hy, q⟩)
    · subst q
      exact h1 (List.mem_iff_getElem?.mpr ⟨m, by rw [List.getElem?_take, if_pos hmi]; exact hy⟩)
theorem cmp_is (a b : Ck) : (cmpK a b == -1) = belowK a b := by
  unfold belowK
  rcases cmpK_cases a b with ⟨h1, h2⟩ | ⟨h1, h2, h3⟩ | ⟨h1, h2, h3, h4⟩ | ⟨h1, h2, h3, h4⟩
  · rw [h1, h2]; rfl
  · rw [h1, h2, h3]; rfl
  · rw [h1, h2, h4]; rfl
  · rw [h1, h2, h4]; rfl
theorem cks_cls {w : World} {a : Option Addr} {cap : Nat} {l : List Ck} (h : Rows w 6 a cap (l.map Ck.cells)) (i : Nat) (x : Ck) (hi : l[i]? = some x) :
    ∃ b o, (∀ wx, (Instr.indexAt 43 (.slice a l.length cap) (.int .i64 (i : Int))).run Tryd.prog wx = .ok (.pointer (some ⟨b, o, none⟩)) wx) ∧ (∀ s : Cls (Bey w), s.w.cell? ⟨b, o, none⟩ = some (.int .i64 x.c0)) ∧ (∀ s : Cls (Bey w), s.w.cell? ⟨b, o + 1, none⟩ = some (.int .i64 x.c1)) ∧ (∀ s : Cls (Bey w), s.w.cell? ⟨b, o + 2, none⟩ = some (.int .i64 x.c2)) ∧ (∀ s : Cls (Bey w), s.w.cell? ⟨b, o + 3, none⟩ = some (.int .i64 x.c3)) ∧ (∀ s : Cls (Bey w), s.w.cell? ⟨b, o + 4, none⟩ = some (.int .i64 x.c4)) ∧ (∀ s : Cls (Bey w), s.w.cell? ⟨b, o + 5, none⟩ = some (.int .i64 x.c5)) := by
  obtain ⟨b, o, h1, h2, k0, k1, k2, k3, k4, k5⟩ := cks_ix h i x hi
  exact ⟨b, o, h1, bey_cell k0, bey_cell k1, bey_cell k2, bey_cell k3, bey_cell k4, bey_cell k5⟩
/-- How far it has come. -/
structure RSt (w : World) (l : List Ck) (j : Nat) (va : Option Addr) (vc : Nat) (wr : World) : Prop where
  be : Below w.heap.size w wr
  ow : OwnL wr w.heap.size 3 1 va vc ((topsTo l j).map chCells)
theorem RSt.later {w : World} {l : List Ck} {j : Nat} {va : Option Addr} {vc : Nat} {wr w' : World} (h : RSt w l j va vc wr) (hb : Below wr.heap.size wr w') : RSt w l j va vc w' :=
  ⟨bthen h.be hb, own_keep h.ow fun b hb' => hb.block b (blk_lt h.ow b hb').2⟩
set_option maxHeartbeats 2000000 in
theorem rtops_ok (l : List Ck) (la : Option Addr) (lc : Nat) (w : World) (hl : Rows w 6 la lc (l.map Ck.cells)) (hc : Hid (errL l 0)) : Calls Tryd.prog 27 #[.slice la l.length lc] w fun e w' => ∃ va vc, e = .returned (.tuple #[.slice va (topsTo l l.length).length vc, .int .i64 0]) ∧ Rows w' 1 va vc ((topsTo l l.length).map chCells) ∧ Below w.heap.size w w' := by
  have hlI := rows_len hl
  have hsm : l.length ≤ 256 := by rcases hc.out with ⟨_, q⟩ | ⟨_, _, q⟩ | ⟨q, _⟩ <;> omega
  have c1 := rlist_any l la lc w hl 0 hc
  have hlH : Hid (Rows w 6 la lc (l.map Ck.cells)) := hl
  obtain ⟨iN, hiN, hzN, hsN, hbN⟩ := info_q infoN_c
  clear hl hc
  go_enter Tryd.func27, Tryd.ntmps27
  go_wp2_with (go_at_call 39; (with_reducible refine c1.mono ?_); rintro e w1 ⟨rfl, hb1⟩; clear c1)
  have st : Hid (RSt w l 0 none 0 w1) := ⟨hb1, own_nil_q _ _ _ _⟩
  clear hb1
  go_loopw [5, 16] (fun o u wr => ∃ (j : Nat) (va : Option Addr) (vc : Nat), j ≤ l.length ∧ u = .int .i64 j ∧ o = .slice va (topsTo l j).length vc ∧ Hid (RSt w l j va vc wr)) (fun _ u _ => l.length - (intOf u).toNat)
  case atStart => exact ⟨0, none, 0, Nat.zero_le _, rfl, rfl, st.out⟩
  case round =>
    obtain ⟨j, va, vc, hj, rfl, rfl, sH⟩ := hrel
    clear st
    by_cases hlt : j < l.length
    · obtain ⟨x, hx, hxm⟩ := get_lt l j hlt
      have hjI : (j : Int) < l.length := by omega
      have hul := tops_len l j
      have hxH : Hid (l[j]? = some x) := hx
      clear hx hxm
      go_wp2
      have s0 : Hid (RSt w l j va vc wr) := sH
      clear sH
      generalize wr = W1 at *
      go_loopw [7, 21] (fun f u wq => ∃ (k : Nat) (F : Bool), k ≤ l.length ∧ u = .int .i64 k ∧ f = .bool F ∧ Hid (Below W1.heap.size W1 wq ∧ (F = true ↔ freeTo l j x k))) (fun _ u _ => l.length - (intOf u).toNat)
      case atStart => exact ⟨0, true, Nat.zero_le _, rfl, rfl, Below.refl _ _, ⟨fun _ m y hm => by omega, fun _ => rfl⟩⟩
      case round =>
        rename World => wq
        obtain ⟨k, F, hk, rfl, rfl, q2⟩ := hrel
        by_cases hlt2 : k < l.length
        · obtain ⟨y, hy, hym⟩ := get_lt l k hlt2
          have hkI : (k : Int) < l.length := by omega
          have hRow : Rows wq 6 la lc (l.map Ck.cells) := hlH.out.later (bthen s0.out.be q2.out.1)
          obtain ⟨bx, ox, hixx, x0, x1, x2, x3, x4, x5⟩ := cks_cls hRow j x hxH.out
          obtain ⟨bq, oq, hixy, y0, y1, y2, y3, y4, y5⟩ := cks_cls hRow k y hy
          have hyH : Hid (l[k]? = some y) := hy
          obtain ⟨R, hR⟩ : ∃ R, Hid (R = cmpK x y) := ⟨_, rfl⟩
          have c2 : ∀ wx, Calls Tryd.prog 17 #[x.val, y.val] wx fun e w' => e = .returned (.int .i64 R) ∧ Below wx.heap.size wx w' := fun wx => rcmp_any x y wx R hR
          have hRb : Hid ((R == -1) = belowK x y) := by show _ = _; rw [hR.out, cmp_is]
          have hne := bey_some wq
          clear hRow hy hym
          by_cases e1 : belowK x y = true
          · have hR1 : (R == -1) = true := hRb.out.trans e1
            have hf : Hid (¬ freeTo l j x (k + 1)) := free_not hyH.out (.inl e1)
            have hRv : R = -1 := by simpa using hR1
            subst hRv
            clear e1 hRb hR hR1
            go_wp2_with fail
            refine wp_region_cls (Bey wq) (by kernel_rfl) (by kernel_rfl) (bey_drew wq) ?_
            repeat (go_big_quiet_step ((go_at_call 17; exact calls_bey (c2 _))))
            refine wpQuiet_nil ?_
            intro _ hw'
            obtain ⟨sq, hw''⟩ := hw'
            subst hw''
            have hBq : Hid (Below W1.heap.size W1 sq.w) := bthen q2.out.1 sq.h
            clear hixx hixy x0 x1 x2 x3 x4 x5 y0 y1 y2 y3 y4 y5 hne c2
            go_wp2
            go_roundw
            case rel => exact ⟨k + 1, false, by omega, by go_num, rfl, hBq.out, ⟨fun q => (by cases q), fun q => absurd q hf.out⟩⟩
            case measure => simp [intOf]; omega
          · have e2 : belowK x y = false := by simpa using e1
            have hR1 : (R == -1) = false := hRb.out.trans e2
            by_cases hkj : k < j
            · have hkjI : (k : Int) < j := by omega
              by_cases e3 : x = y
              · have heq := fun wx => (by rw [run_eqK, (eqK_iff x y).mpr e3] : (binOp .eql 23 x.val y.val).run Tryd.prog wx = .ok (.bool true) wx)
                have hf : Hid (¬ freeTo l j x (k + 1)) := free_not hyH.out (.inr ⟨hkj, e3⟩)
                clear e1 e2 e3 hRb hR
                go_wp2_with fail
                refine wp_region_cls (Bey wq) (by kernel_rfl) (by kernel_rfl) (bey_drew wq) ?_
                repeat (go_big_quiet_step ((go_at_call 17; exact calls_bey (c2 _))))
                refine wpQuiet_nil ?_
                intro _ hw'
                obtain ⟨sq, hw''⟩ := hw'
                subst hw''
                have hBq : Hid (Below W1.heap.size W1 sq.w) := bthen q2.out.1 sq.h
                clear hixx hixy x0 x1 x2 x3 x4 x5 y0 y1 y2 y3 y4 y5 hne c2
                go_wp2
                go_roundw
                case rel => exact ⟨k + 1, false, by omega, by go_num, rfl, hBq.out, ⟨fun q => (by cases q), fun q => absurd q hf.out⟩⟩
                case measure => simp [intOf]; omega
              · have heq : ∀ wx, (binOp .eql 23 x.val y.val).run Tryd.prog wx = .ok (.bool false) wx := fun wx => by rw [run_eqK, Bool.eq_false_iff.mpr fun q => e3 ((eqK_iff x y).mp q)]
                have hf : Hid (F = true ↔ freeTo l j x (k + 1)) := by show _ ↔ _; rw [free_more hyH.out e2 fun _ => e3]; exact q2.out.2
                clear e1 e2 e3 hRb hR
                go_wp2_with fail
                refine wp_region_cls (Bey wq) (by kernel_rfl) (by kernel_rfl) (bey_drew wq) ?_
                repeat (go_big_quiet_step ((go_at_call 17; exact calls_bey (c2 _))))
                refine wpQuiet_nil ?_
                intro _ hw'
                obtain ⟨sq, hw''⟩ := hw'
                subst hw''
                have hBq : Hid (Below W1.heap.size W1 sq.w) := bthen q2.out.1 sq.h
                clear hixx hixy x0 x1 x2 x3 x4 x5 y0 y1 y2 y3 y4 y5 hne c2
                go_wp2
                go_roundw
                case rel => exact ⟨k + 1, F, by omega, by go_num, rfl, hBq.out, hf.out⟩
                case measure => simp [intOf]; omega
            · have hkjI : ¬ (k : Int) < j := by omega
              have hf : Hid (F = true ↔ freeTo l j x (k + 1)) := by show _ ↔ _; rw [free_more hyH.out e2 fun q => absurd q hkj]; exact q2.out.2
              clear e1 e2 hRb hR
              go_wp2_with fail
              refine wp_region_cls (Bey wq) (by kernel_rfl) (by kernel_rfl) (bey_drew wq) ?_
              repeat (go_big_quiet_step ((go_at_call 17; exact calls_bey (c2 _))))
              refine wpQuiet_nil ?_
              intro _ hw'
              obtain ⟨sq, hw''⟩ := hw'
              subst hw''
              have hBq : Hid (Below W1.heap.size W1 sq.w) := bthen q2.out.1 sq.h
              clear hixx hixy x0 x1 x2 x3 x4 x5 y0 y1 y2 y3 y4 y5 hne c2
              go_wp2
              go_roundw
              case rel => exact ⟨k + 1, F, by omega, by go_num, rfl, hBq.out, hf.out⟩
              case measure => simp [intOf]; omega
        · have hk2 : k = l.length := by omega
          subst hk2
          have s5 : Hid (RSt w l j va vc wq) := s0.out.later q2.out.1
          have z5 : Hid (w.heap.size ≤ wq.heap.size) := s5.out.be.size
          have o5 : Hid (OwnL wq w.heap.size 3 1 va vc ((topsTo l j).map chCells)) := s5.out.ow
          have e5 : Hid (Below w.heap.size w wq) := s5.out.be
          cases F with
          | true =>
            have htop : Hid (topsTo l (j + 1) = topsTo l j ++ [(j : Int)]) := tops_yes hxH.out (free_top.mp (q2.out.2.mp rfl))
            clear q2 s0
            go_wp2_with (at_builtin; (refine wpList_app1 rfl (.tmp 52) (.tmp 54) 46 rfl w.heap.size 3 iN _ 1 8 Tryd.underlying46 hiN hzN hsN hbN rfl (by decide) va vc ((topsTo l j).map chCells) (by rw [List.length_map]; rfl) o5.out (chCells (j : Int)) rfl rfl (one1c _) (by rw [List.length_map]; unfold maxLen; omega) (by rw [List.length_map]; omega) z5.out ?_); intro va' vc' w7 hg; rw [List.length_map])
            go_roundw
            case rel => exact ⟨j + 1, va', vc', by omega, by go_num, by rw [htop.out]; simp, below_min e5.out z5.out hg.be, by rw [htop.out]; simpa using hg.ow⟩
            case measure => simp [intOf]; omega
          | false =>
            have htop : Hid (topsTo l (j + 1) = topsTo l j) := tops_no hxH.out (by rw [Bool.eq_false_iff]; intro q; have := q2.out.2.mpr (free_top.mpr q); cases this)
            clear q2 s0
            go_wp2
            go_roundw
            case rel => exact ⟨j + 1, va, vc, by omega, by go_num, by rw [htop.out], e5.out, by rw [htop.out]; exact o5.out⟩
            case measure => simp [intOf]; omega
    · have hj2 : j = l.length := by omega
      subst hj2
      go_wp2
      go_ret2
      exact ⟨va, vc, rfl, own_rows sH.out.ow (len1c _), sH.out.be⟩
end Go.Proofs.YtodkmmmbomoheaaDoor.pg
