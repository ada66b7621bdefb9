/- The document's own Le and Cmp; Tick, by both; what is wrong with two clocks. -/
import Derived.Test.YtodkmmmbomoheaaDoorCk6
namespace Go.Proofs.YtodkmmmbomoheaaDoor.pg
open Go.ChangeShapes Go.WideShapes Go.ChangeAt Go.RowKit
set_option linter.unusedVariables false
set_option linter.unusedSimpArgs false
set_option maxRecDepth 100000
attribute [local go_sem ↓] Go.wp_at_zero Go.wp_at_succ
/-- The first k numbers are not above. -/
def leTo (x y : Ck) (k : Nat) : Prop := ∀ i m n, i < k → x.list[i]? = some m → y.list[i]? = some n → m ≤ n
theorem leTo_six (x y : Ck) (h : leTo x y 6) : leK x y = true := by
  rw [leK_iff]
  exact ⟨h 0 _ _ (by omega) rfl rfl, h 1 _ _ (by omega) rfl rfl, h 2 _ _ (by omega) rfl rfl, h 3 _ _ (by omega) rfl rfl, h 4 _ _ (by omega) rfl rfl, h 5 _ _ (by omega) rfl rfl⟩
theorem le_not {x y : Ck} {k : Nat} {m n : Int} (hm : x.list[k]? = some m) (hn : y.list[k]? = some n) (h : n < m) : leK x y = false := by
  rw [Bool.eq_false_iff]
  intro q
  rw [leK_iff] at q
  match k, hm, hn with
  | 0, hm, hn => simp [Ck.list] at hm hn; omega
  | 1, hm, hn => simp [Ck.list] at hm hn; omega
  | 2, hm, hn => simp [Ck.list] at hm hn; omega
  | 3, hm, hn => simp [Ck.list] at hm hn; omega
  | 4, hm, hn => simp [Ck.list] at hm hn; omega
  | 5, hm, hn => simp [Ck.list] at hm hn; omega
  | k + 6, hm, hn => simp [Ck.list] at hm
theorem leTo_more {x y : Ck} {k : Nat} {m n : Int} (h : leTo x y k) (hm : x.list[k]? = some m) (hn : y.list[k]? = some n) (hmn : m ≤ n) : leTo x y (k + 1) := by
  intro i a b hi ha hb
  by_cases e : i = k
  · subst e
    rw [hm] at ha; rw [hn] at hb
    cases ha; cases hb
    exact hmn
  · exact h i a b (by omega) ha hb
set_option maxHeartbeats 1000000 in
theorem le_any (x y : Ck) (w : World) (R : Bool) (hR : Hid (R = leK x y)) : Calls Tryd.prog 33 #[x.val, y.val] w fun e w' => e = .returned (.bool R) ∧ Below w.heap.size w w' := by
  obtain ⟨hx2, hy2⟩ := boxes2 w x y
  have hxH : Hid (InB ((w.alloc (objK x)).alloc (objK y)) w.heap.size x) := hx2
  have hyH : Hid (InB ((w.alloc (objK x)).alloc (objK y)) (w.heap.size + 1) y) := hy2
  have hb := boxed2 w (objK x) (objK y)
  clear hx2 hy2
  go_enter Tryd.func33, Tryd.ntmps33
  go_wp2
  generalize (w.alloc (objK x)).alloc (objK y) = W0 at *
  have hbH : Hid (Below w.heap.size w W0) := hb
  clear hb
  generalize hB : w.heap.size = B at *
  have hBH : Hid (w.heap.size = B) := hB
  clear hB
  go_loopw [6] (fun u wr => ∃ k : Nat, k ≤ 6 ∧ u = .int .i64 k ∧ Hid (Below W0.heap.size W0 wr ∧ leTo x y k)) (fun u _ => 6 - (intOf u).toNat)
  case atStart => exact ⟨0, by omega, rfl, Below.refl _ _, fun i m n hi => by omega⟩
  case round =>
    obtain ⟨k, hk, rfl, sH⟩ := hrel
    by_cases hlt : k < 6
    · obtain ⟨m, hm, _⟩ := get_lt x.list k hlt
      obtain ⟨n, hn, _⟩ := get_lt y.list k hlt
      have hat := ck_at B k hlt
      have hat2 := ck_at (B + 1) k hlt
      obtain ⟨h1, _⟩ := (hxH.out.later sH.out.1).cell hm
      obtain ⟨h3, _⟩ := (hyH.out.later sH.out.1).cell hn
      have hkI : (k : Int) < 6 := by omega
      have hmH : Hid (x.list[k]? = some m) := hm
      have hnH : Hid (y.list[k]? = some n) := hn
      clear hm hn
      by_cases hc : n < m
      · have hRR : Hid (R = false) := hR.out.trans (le_not hmH.out hnH.out hc)
        go_wp2_with fail
        have f1 := bey_cell h1
        have f3 := bey_cell h3
        have hne := bey_some wr
        refine wp_region_cls (Bey wr) (by kernel_rfl) (by kernel_rfl) (bey_drew wr) ?_
        repeat (go_big_quiet_step (fail))
        refine wpQuiet_nil ?_
        intro _ hw'
        obtain ⟨sq, hw''⟩ := hw'
        subst hw''
        go_wp2
        go_ret
        exact ⟨by rw [hRR.out]; rfl, bthen (hBH.out ▸ hbH.out) (bthen sH.out.1 sq.h)⟩
      · have hs : Hid (leTo x y (k + 1)) := leTo_more sH.out.2 hmH.out hnH.out (by omega)
        go_wp2_with fail
        have f1 := bey_cell h1
        have f3 := bey_cell h3
        have hne := bey_some wr
        refine wp_region_cls (Bey wr) (by kernel_rfl) (by kernel_rfl) (bey_drew wr) ?_
        repeat (go_big_quiet_step (fail))
        refine wpQuiet_nil ?_
        intro _ hw'
        obtain ⟨sq, hw''⟩ := hw'
        subst hw''
        have hB5 : Hid (Below W0.heap.size W0 sq.w) := bthen sH.out.1 sq.h
        go_wp2
        go_roundw
        case rel => exact ⟨k + 1, by omega, by go_num, hB5, hs⟩
        case measure => simp [intOf]; omega
    · have hk6 : k = 6 := by omega
      subst hk6
      have hRR : Hid (R = true) := hR.out.trans (leTo_six x y sH.out.2)
      go_wp2
      go_ret
      exact ⟨by rw [hRR.out]; rfl, bthen (hBH.out ▸ hbH.out) sH.out.1⟩
end Go.Proofs.YtodkmmmbomoheaaDoor.pg
