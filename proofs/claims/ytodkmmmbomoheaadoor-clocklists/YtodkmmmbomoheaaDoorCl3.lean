/- Tops of package clock, and the document's own. -/
import Derived.Test.YtodkmmmbomoheaaDoorCl2
namespace Go.Proofs.YtodkmmmbomoheaaDoor.pg
open Go.ChangeShapes Go.WideShapes Go.ChangeAt Go.RowKit
set_option linter.unusedVariables false
set_option linter.unusedSimpArgs false
set_option maxRecDepth 100000
attribute [local go_sem ↓] Go.wp_at_zero Go.wp_at_succ
theorem tops_bad (l : List Ck) (la : Option Addr) (lc : Nat) (w : World) (hl : Rows w 6 la lc (l.map Ck.cells)) (c : Int) (hc : Hid (errL l c)) (h0 : (c == 0) = false) : Calls Tryd.prog 26 #[.slice la l.length lc] w fun e w' => e = .returned (.tuple #[.slice none 0 0, .int .i64 c]) ∧ Below w.heap.size w w' := by
  have c1 := checks_any l la lc w hl c hc
  clear hl hc
  go_enter Tryd.func26, Tryd.ntmps26
  go_wp2_with (go_at_call 29; (with_reducible refine c1.mono ?_); rintro e w1 ⟨rfl, hb1⟩)
  go_ret2
  exact ⟨rfl, hb1⟩
theorem TSt.later {w : World} {l : List Ck} {M j : Nat} {va : Option Addr} {vc : Nat} {wr w' : World} (h : TSt w l M j va vc wr) (hb : Below wr.heap.size wr w') : TSt w l M j va vc w' :=
  ⟨bthen h.be hb, h.st.kept (hb.block M h.st.lt), own_keep h.ow fun b hb' => hb.block b (blk_lt h.ow b hb').2⟩
set_option maxHeartbeats 2000000 in
theorem tops_ok (l : List Ck) (la : Option Addr) (lc : Nat) (w : World) (hl : Rows w 6 la lc (l.map Ck.cells)) (hwf : ∀ x ∈ l, x.wf) (hc : Hid (errL l 0)) : Calls Tryd.prog 26 #[.slice la l.length lc] w fun e w' => ∃ va vc, e = .returned (.tuple #[.slice va (topsTo l l.length).length vc, .int .i64 0]) ∧ Rows w' 1 va vc ((topsTo l l.length).map chCells) ∧ Below w.heap.size w w' := by
  have hlI := rows_len hl
  have hsm : l.length ≤ 256 := by rcases hc.out with ⟨_, q⟩ | ⟨_, _, q⟩ | ⟨q, _⟩ <;> omega
  have c1 := checks_any l la lc w hl 0 hc
  have hlH : Hid (Rows w 6 la lc (l.map Ck.cells)) := hl
  have hwfH : Hid (∀ x ∈ l, x.wf) := hwf
  have hmm := @run_makeMap Tryd.prog
  obtain ⟨iN, hiN, hzN, hsN, hbN⟩ := info_q infoN_c
  clear hl hc hwf
  go_enter Tryd.func26, Tryd.ntmps26
  go_wp2_with (go_at_call 29; (with_reducible refine c1.mono ?_); rintro e w1 ⟨rfl, hb1⟩; clear c1)
  have st : Hid (TSt w l w1.heap.size 0 none 0 (w1.alloc (.map #[] 0))) := ⟨bthen hb1 ((Below.refl _ _).alloc (Nat.le_refl _) _), setK_new w1, own_nil_q _ _ _ _⟩
  have hMl : Hid (w.heap.size ≤ w1.heap.size) := hb1.size
  clear hb1
  generalize w1.alloc (.map #[] 0) = W0 at *
  generalize w1.heap.size = M at *
  go_loopw [5, 19] (fun o u wr => ∃ (j : Nat) (va : Option Addr) (vc : Nat), j ≤ l.length ∧ u = .int .i64 j ∧ o = .slice va (topsTo l j).length vc ∧ Hid (TSt w l M j va vc wr)) (fun _ u _ => l.length - (intOf u).toNat)
  case atStart => exact ⟨0, none, 0, Nat.zero_le _, rfl, rfl, st.out⟩
  case round =>
    obtain ⟨j, va, vc, hj, rfl, rfl, sH⟩ := hrel
    clear st
    by_cases hlt : j < l.length
    · obtain ⟨x, hx, hxm⟩ := get_lt l j hlt
      obtain ⟨b0, o0, hix, hbl, k0, k1, k2, k3, k4, k5⟩ := cks_ix (hlH.out.later sH.out.be) j x hx
      have hjI : (j : Int) < l.length := by omega
      have hul := tops_len l j
      have hxw : Hid x.wf := hwfH.out x hxm
      have hxH : Hid (l[j]? = some x) := hx
      have s1 : Hid (TSt w l M j va vc (wr.alloc (objK x))) := sH.out.later (boxed _ _)
      have b1 := inB_new wr x
      have hM1 : Hid (M < wr.heap.size) := sH.out.st.lt
      have hwr : Hid (w.heap.size ≤ wr.heap.size) := sH.out.be.size
      have hjm : Hid (j < maxLen) := by unfold maxLen; simp only [Hid]; omega
      have s2 : Hid (TSt w l M j va vc ((wr.alloc (objK x)).alloc (.cells #[] 68))) := s1.out.later (boxed _ _)
      have b2 := b1.later (boxed (wr.alloc (objK x)) (.cells #[] 68))
      clear hx hxm sH
      by_cases hin : x ∈ l.take j
      · have htop : Hid (topsTo l (j + 1) = topsTo l j) := tops_no hxH.out (by rw [Bool.eq_false_iff]; intro q; exact ((topB_iff l j x).mp q).1 hin)
        have hinH : Hid (true = true ↔ x ∈ l.take j) := ⟨fun _ => hin, fun _ => rfl⟩
        clear hin
        go_wp2_with (first
          | (refine wpList_look_set rfl _ _ rfl M j (l.take j) rfl x rfl s1.out.st hxw.out true hinH.out ?_)
          | (refine wpList_put_set rfl _ _ _ rfl M j (l.take j) rfl x rfl rfl s2.out.st hjm.out hxw.out ?_; intro w5 hset5 hgr5; (have s5 : Hid (TSt w l M (j + 1) va vc w5) := ⟨s2.out.be.trans ⟨hgr5.os, hgr5.tape, hgr5.output, hgr5.size, fun i hi => hgr5.block i (Nat.lt_of_lt_of_le hi s2.out.be.size) (by have := hMl.out; simp; omega)⟩, by rw [take_snoc hxH.out]; exact hset5, by rw [htop.out]; exact own_keep s2.out.ow fun b hb' => hgr5.block b (blk_lt s2.out.ow b hb').2 (by simp; intro q; subst q; exact map_ne_own s2.out.st s2.out.ow hb')⟩); clear hset5 hgr5))
        go_roundw
        case rel => exact ⟨j + 1, va, vc, by omega, by go_num, by rw [htop.out], s5.out⟩
        case measure => simp [intOf]; omega
      · have hinH : Hid (false = true ↔ x ∈ l.take j) := ⟨fun q => (by cases q), fun q => absurd q hin⟩
        by_cases habv : l.any (belowK x) = true
        · have htop : Hid (topsTo l (j + 1) = topsTo l j) := tops_no hxH.out (by rw [Bool.eq_false_iff]; intro q; have := ((topB_iff l j x).mp q).2; rw [habv] at this; cases this)
          have c2 : ∀ wx, Rows wx 6 la lc (l.map Ck.cells) → InB wx wr.heap.size x → Calls Tryd.prog 40 #[.slice la l.length lc, .func (.func 41) #[] #[.pointer (some ⟨wr.heap.size, 0, none⟩)]] wx _ := fun wx h1 h2 => contf_any l la lc x wr.heap.size wx h1 h2 true habv.symm
          clear hin habv
          go_wp2_with (first
            | (refine wpList_look_set rfl _ _ rfl M j (l.take j) rfl x rfl s1.out.st hxw.out false hinH.out ?_)
            | (refine wpList_put_set rfl _ _ _ rfl M j (l.take j) rfl x rfl rfl s2.out.st hjm.out hxw.out ?_; intro w5 hset5 hgr5; (have s5 : Hid (TSt w l M (j + 1) va vc w5) := ⟨s2.out.be.trans ⟨hgr5.os, hgr5.tape, hgr5.output, hgr5.size, fun i hi => hgr5.block i (Nat.lt_of_lt_of_le hi s2.out.be.size) (by have := hMl.out; simp; omega)⟩, by rw [take_snoc hxH.out]; exact hset5, by rw [htop.out]; exact own_keep s2.out.ow fun b hb' => hgr5.block b (blk_lt s2.out.ow b hb').2 (by simp; intro q; subst q; exact map_ne_own s2.out.st s2.out.ow hb')⟩); (have b5 : Hid (InB w5 wr.heap.size x) := (hgr5.block wr.heap.size b2.lt (by have := hM1.out; simp; omega)).trans b2); clear hset5 hgr5)
            | (go_at_call 40; (with_reducible refine (c2 _ (hlH.out.later s5.out.be) b5.out).mono ?_); rintro e w6 ⟨rfl, hb6⟩; (have s6 : Hid (TSt w l M (j + 1) va vc w6) := s5.out.later hb6); clear hb6))
          go_roundw
          case rel => exact ⟨j + 1, va, vc, by omega, by go_num, by rw [htop.out], s6.out⟩
          case measure => simp [intOf]; omega
        · have habv2 : l.any (belowK x) = false := by simpa using habv
          have htop : Hid (topsTo l (j + 1) = topsTo l j ++ [(j : Int)]) := tops_yes hxH.out ((topB_iff l j x).mpr ⟨hin, habv2⟩)
          have c2 : ∀ wx, Rows wx 6 la lc (l.map Ck.cells) → InB wx wr.heap.size x → Calls Tryd.prog 40 #[.slice la l.length lc, .func (.func 41) #[] #[.pointer (some ⟨wr.heap.size, 0, none⟩)]] wx _ := fun wx h1 h2 => contf_any l la lc x wr.heap.size wx h1 h2 false habv2.symm
          clear hin habv habv2
          go_wp2_with (first
            | (refine wpList_look_set rfl _ _ rfl M j (l.take j) rfl x rfl s1.out.st hxw.out false hinH.out ?_)
            | (refine wpList_put_set rfl _ _ _ rfl M j (l.take j) rfl x rfl rfl s2.out.st hjm.out hxw.out ?_; intro w5 hset5 hgr5; (have e5 : Hid (Below w.heap.size w w5) := s2.out.be.trans ⟨hgr5.os, hgr5.tape, hgr5.output, hgr5.size, fun i hi => hgr5.block i (Nat.lt_of_lt_of_le hi s2.out.be.size) (by have := hMl.out; simp; omega)⟩); (have t5 : Hid (SetK w5 M (j + 1) (l.take (j + 1))) := by rw [take_snoc hxH.out]; exact hset5); (have o5 : Hid (OwnL w5 w.heap.size 3 1 va vc ((topsTo l j).map chCells)) := own_keep s2.out.ow fun b hb' => hgr5.block b (blk_lt s2.out.ow b hb').2 (by simp; intro q; subst q; exact map_ne_own s2.out.st s2.out.ow hb')); (have b5 : Hid (InB w5 wr.heap.size x) := (hgr5.block wr.heap.size b2.lt (by have := hM1.out; simp; omega)).trans b2); clear hset5 hgr5)
            | (go_at_call 40; (with_reducible refine (c2 _ (hlH.out.later e5.out) b5.out).mono ?_); rintro e w6 ⟨rfl, hb6⟩; (have e6 : Hid (Below w.heap.size w w6) := bthen e5.out hb6); (have t6 : Hid (SetK w6 M (j + 1) (l.take (j + 1))) := t5.out.kept (hb6.block M t5.out.lt)); (have o6 : Hid (OwnL w6 w.heap.size 3 1 va vc ((topsTo l j).map chCells)) := own_keep o5.out fun b hb' => hb6.block b (blk_lt o5.out b hb').2); (have z6 : Hid (w.heap.size ≤ w6.heap.size) := e6.out.size); clear hb6)
            | (at_builtin; (refine wpList_app1 rfl (.tmp 41) (.tmp 43) 46 rfl w.heap.size 3 iN _ 1 8 Tryd.underlying46 hiN hzN hsN hbN rfl (by decide) va vc ((topsTo l j).map chCells) (by rw [List.length_map]; rfl) o6.out (chCells (j : Int)) rfl rfl (one1c _) (by rw [List.length_map]; unfold maxLen; omega) (by rw [List.length_map]; omega) z6.out ?_); intro va' vc' w7 hg; rw [List.length_map]))
          go_roundw
          case rel => exact ⟨j + 1, va', vc', by omega, by go_num, by rw [htop.out]; simp, below_min e6.out z6.out hg.be, t6.out.kept (hg.kp M t6.out.lt (map_ne_own t6.out o6.out)), by rw [htop.out]; simpa using hg.ow⟩
          case measure => simp [intOf]; omega
    · have hj2 : j = l.length := by omega
      subst hj2
      go_wp2
      go_ret2
      exact ⟨va, vc, rfl, own_rows sH.out.ow (len1c _), sH.out.be⟩
end Go.Proofs.YtodkmmmbomoheaaDoor.pg
