/- The document's own Join, Meet, Le, Cmp; Tick, by both; what is wrong with two clocks. -/
import Derived.Test.YtodkmmmbomoheaaDoorCk5
namespace Go.Proofs.YtodkmmmbomoheaaDoor.pg
open Go.ChangeShapes Go.WideShapes Go.ChangeAt Go.RowKit
set_option linter.unusedVariables false
set_option linter.unusedSimpArgs false
set_option maxRecDepth 100000
attribute [local go_sem ↓] Go.wp_at_zero Go.wp_at_succ
theorem Mix.later {w wr wr' : World} {n B C k : Nat} {M X : Ck} (h : Mix w n B C M X k wr) (hb : Below wr.heap.size wr wr') (hn : n ≤ wr.heap.size) : Mix w n B C M X k wr' := by
  obtain ⟨z, hz, hl⟩ := h.zz
  exact ⟨h.be.trans (hb.mono hn), ⟨z, hz.later hb, hl⟩, h.rs.later hb⟩
set_option maxHeartbeats 1000000 in
theorem rjoin_any (x y : Ck) (w : World) : Calls Tryd.prog 15 #[x.val, y.val] w fun e w' => e = .returned (x.join y).val ∧ Below w.heap.size w w' := by
  obtain ⟨hx2, hy2, hz2⟩ := boxes3 w x y
  have st : Hid (Mix w w.heap.size w.heap.size (w.heap.size + 2) (x.join y) x 0 (((w.alloc (objK x)).alloc (objK y)).alloc (objK zeroK))) := Mix.start (boxed3 _ _ _ _) hx2 hz2
  have hyH : Hid (InB (((w.alloc (objK x)).alloc (objK y)).alloc (objK zeroK)) (w.heap.size + 1) y) := hy2
  clear hx2 hy2 hz2
  go_enter Tryd.func15, Tryd.ntmps15
  go_wp2
  generalize ((w.alloc (objK x)).alloc (objK y)).alloc (objK zeroK) = W0 at *
  have hsz : Hid (w.heap.size ≤ W0.heap.size) := st.out.be.size
  generalize hB : w.heap.size = B at *
  have hBH : Hid (w.heap.size = B) := hB
  clear hB
  go_loopw [6] (fun u wr => ∃ k : Nat, k ≤ 6 ∧ u = .int .i64 k ∧ Hid (Mix w B B (B + 2) (x.join y) x k wr ∧ InB wr (B + 1) y ∧ B ≤ wr.heap.size)) (fun u _ => 6 - (intOf u).toNat)
  case atStart => exact ⟨0, by omega, rfl, st, hyH, hsz⟩
  case round =>
    obtain ⟨k, hk, rfl, sH⟩ := hrel
    by_cases hlt : k < 6
    · obtain ⟨m, hm, _⟩ := get_lt x.list k hlt
      obtain ⟨n, hn, _⟩ := get_lt y.list k hlt
      have hat := ck_at B k hlt
      have hat2 := ck_at (B + 1) k hlt
      obtain ⟨h1, h2⟩ := sH.out.1.cell hlt hm
      obtain ⟨h3, _⟩ := sH.out.2.1.cell hn
      have hkI : (k : Int) < 6 := by omega
      have hmH : Hid (x.list[k]? = some m) := hm
      have hnH : Hid (y.list[k]? = some n) := hn
      clear hm hn
      go_wp2_with fail
      have f1 := bey_cell h1
      have f3 := bey_cell h3
      have hf := fun (s : Cls (Bey wr)) => (s.h.frozen (p := ⟨B, k, none⟩) (World.block_lt_of_cell? _ _ h1)).trans h2
      have hne := bey_some wr
      refine wp_region_cls (Bey wr) (by kernel_rfl) (by kernel_rfl) (bey_drew wr) ?_
      repeat (go_big_quiet_step (fail))
      refine wpQuiet_nil ?_
      intro _ hw'
      obtain ⟨sq, hw''⟩ := hw'
      subst hw''
      have c1 := f1 sq
      have c3 := f3 sq
      have c2 := hf sq
      have sM : Hid (Mix w B B (B + 2) (x.join y) x k sq.w) := sH.out.1.later sq.h sH.out.2.2
      have sY : Hid (InB sq.w (B + 1) y) := sH.out.2.1.later sq.h
      have sS : Hid (B ≤ sq.w.heap.size) := Nat.le_trans sH.out.2.2 sq.h.size
      clear f1 f3 hf h1 h2 h3
      by_cases hc : m < n
      · have hs : Hid (Mix w B B (B + 2) (x.join y) x (k + 1) (sq.w.setCell ⟨B, k, none⟩ (.int .i64 n))) := sM.out.step hlt (by rw [join_at hmH.out hnH.out, Int.max_def]; congr 1; split <;> omega) (Nat.le_refl _) (by omega)
        have hy5 : Hid (InB (sq.w.setCell ⟨B, k, none⟩ (.int .i64 n)) (B + 1) y) := sY.out.setCell (by omega) _
        go_wp2
        go_roundw
        case rel => exact ⟨k + 1, by omega, by go_num, hs, hy5, by rw [World.size_setCell]; exact sS⟩
        case measure => simp [intOf]; omega
      · have hs : Hid (Mix w B B (B + 2) (x.join y) x (k + 1) sq.w) := sM.out.stay hlt (by rw [join_at hmH.out hnH.out, Int.max_def]; congr 1; split <;> omega) hmH.out
        go_wp2
        go_roundw
        case rel => exact ⟨k + 1, by omega, by go_num, hs, sY, sS⟩
        case measure => simp [intOf]; omega
    · have hk6 : k = 6 := by omega
      subst hk6
      have hM := sH.out.1.done
      have hR := sH.out.1.rs
      go_wp2_with (first
        | (refine wpList_load_row rfl 23 _ rfl B rfl _ _ _ _ hM Tryd.underlying23 rfl infoK ?_)
        | (refine wpList_store_row rfl 23 _ _ rfl (B + 2) _ rfl rfl _ _ hR infoK rfl (one6 (x.join y)) ?_))
      exact bodyPost_ret (results_cell_row Tryd.results15 _ _ (B + 2) _ _ _ _ rfl (hR.set (x.join y)) Tryd.underlying23 rfl infoK) rfl ⟨rfl, by rw [hBH.out]; exact below_setRow sH.out.1.be (by omega) _⟩
set_option maxHeartbeats 1000000 in
theorem rmeet_any (x y : Ck) (w : World) : Calls Tryd.prog 16 #[x.val, y.val] w fun e w' => e = .returned (x.meet y).val ∧ Below w.heap.size w w' := by
  obtain ⟨hx2, hy2, hz2⟩ := boxes3 w x y
  have st : Hid (Mix w w.heap.size w.heap.size (w.heap.size + 2) (x.meet y) x 0 (((w.alloc (objK x)).alloc (objK y)).alloc (objK zeroK))) := Mix.start (boxed3 _ _ _ _) hx2 hz2
  have hyH : Hid (InB (((w.alloc (objK x)).alloc (objK y)).alloc (objK zeroK)) (w.heap.size + 1) y) := hy2
  clear hx2 hy2 hz2
  go_enter Tryd.func16, Tryd.ntmps16
  go_wp2
  generalize ((w.alloc (objK x)).alloc (objK y)).alloc (objK zeroK) = W0 at *
  have hsz : Hid (w.heap.size ≤ W0.heap.size) := st.out.be.size
  generalize hB : w.heap.size = B at *
  have hBH : Hid (w.heap.size = B) := hB
  clear hB
  go_loopw [6] (fun u wr => ∃ k : Nat, k ≤ 6 ∧ u = .int .i64 k ∧ Hid (Mix w B B (B + 2) (x.meet y) x k wr ∧ InB wr (B + 1) y ∧ B ≤ wr.heap.size)) (fun u _ => 6 - (intOf u).toNat)
  case atStart => exact ⟨0, by omega, rfl, st, hyH, hsz⟩
  case round =>
    obtain ⟨k, hk, rfl, sH⟩ := hrel
    by_cases hlt : k < 6
    · obtain ⟨m, hm, _⟩ := get_lt x.list k hlt
      obtain ⟨n, hn, _⟩ := get_lt y.list k hlt
      have hat := ck_at B k hlt
      have hat2 := ck_at (B + 1) k hlt
      obtain ⟨h1, h2⟩ := sH.out.1.cell hlt hm
      obtain ⟨h3, _⟩ := sH.out.2.1.cell hn
      have hkI : (k : Int) < 6 := by omega
      have hmH : Hid (x.list[k]? = some m) := hm
      have hnH : Hid (y.list[k]? = some n) := hn
      clear hm hn
      go_wp2_with fail
      have f1 := bey_cell h1
      have f3 := bey_cell h3
      have hf := fun (s : Cls (Bey wr)) => (s.h.frozen (p := ⟨B, k, none⟩) (World.block_lt_of_cell? _ _ h1)).trans h2
      have hne := bey_some wr
      refine wp_region_cls (Bey wr) (by kernel_rfl) (by kernel_rfl) (bey_drew wr) ?_
      repeat (go_big_quiet_step (fail))
      refine wpQuiet_nil ?_
      intro _ hw'
      obtain ⟨sq, hw''⟩ := hw'
      subst hw''
      have c1 := f1 sq
      have c3 := f3 sq
      have c2 := hf sq
      have sM : Hid (Mix w B B (B + 2) (x.meet y) x k sq.w) := sH.out.1.later sq.h sH.out.2.2
      have sY : Hid (InB sq.w (B + 1) y) := sH.out.2.1.later sq.h
      have sS : Hid (B ≤ sq.w.heap.size) := Nat.le_trans sH.out.2.2 sq.h.size
      clear f1 f3 hf h1 h2 h3
      by_cases hc : n < m
      · have hs : Hid (Mix w B B (B + 2) (x.meet y) x (k + 1) (sq.w.setCell ⟨B, k, none⟩ (.int .i64 n))) := sM.out.step hlt (by rw [meet_at hmH.out hnH.out, Int.min_def]; congr 1; split <;> omega) (Nat.le_refl _) (by omega)
        have hy5 : Hid (InB (sq.w.setCell ⟨B, k, none⟩ (.int .i64 n)) (B + 1) y) := sY.out.setCell (by omega) _
        go_wp2
        go_roundw
        case rel => exact ⟨k + 1, by omega, by go_num, hs, hy5, by rw [World.size_setCell]; exact sS⟩
        case measure => simp [intOf]; omega
      · have hs : Hid (Mix w B B (B + 2) (x.meet y) x (k + 1) sq.w) := sM.out.stay hlt (by rw [meet_at hmH.out hnH.out, Int.min_def]; congr 1; split <;> omega) hmH.out
        go_wp2
        go_roundw
        case rel => exact ⟨k + 1, by omega, by go_num, hs, sY, sS⟩
        case measure => simp [intOf]; omega
    · have hk6 : k = 6 := by omega
      subst hk6
      have hM := sH.out.1.done
      have hR := sH.out.1.rs
      go_wp2_with (first
        | (refine wpList_load_row rfl 23 _ rfl B rfl _ _ _ _ hM Tryd.underlying23 rfl infoK ?_)
        | (refine wpList_store_row rfl 23 _ _ rfl (B + 2) _ rfl rfl _ _ hR infoK rfl (one6 (x.meet y)) ?_))
      exact bodyPost_ret (results_cell_row Tryd.results16 _ _ (B + 2) _ _ _ _ rfl (hR.set (x.meet y)) Tryd.underlying23 rfl infoK) rfl ⟨rfl, by rw [hBH.out]; exact below_setRow sH.out.1.be (by omega) _⟩
end Go.Proofs.YtodkmmmbomoheaaDoor.pg
