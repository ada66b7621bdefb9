/- The document's own Join, Meet, Le, Cmp; Tick, by both; what is wrong with two clocks. -/
import Derived.Test.YtafefnkgdnmjbaaGreatDoorM11
namespace Go.Proofs.YtafefnkgdnmjbaaGreatDoor.pg
open Go.ChangeShapes Go.WideShapes Go.ChangeAt Go.RowKit
set_option linter.unusedVariables false
set_option linter.unusedSimpArgs false
set_option maxRecDepth 100000
attribute [local go_sem ↓] Go.wp_at_zero Go.wp_at_succ
theorem Mix.later {w wr wr' : World} {n B C k : Nat} {M X : Ck} (h : Mix w n B C M X k wr) (hb : Below wr.heap.size wr wr') (hn : n ≤ wr.heap.size) : Mix w n B C M X k wr' := by
  obtain ⟨z, hz, hl⟩ := h.zz
  exact ⟨h.be.trans (hb.mono hn), ⟨z, hz.later hb, hl⟩, h.rs.later hb⟩
end Go.Proofs.YtafefnkgdnmjbaaGreatDoor.pg
/- The document's own Le and Cmp; Tick, by both; what is wrong with two clocks. -/
namespace Go.Proofs.YtafefnkgdnmjbaaGreatDoor.pg
open Go.ChangeShapes Go.WideShapes Go.ChangeAt Go.RowKit
set_option linter.unusedVariables false
set_option linter.unusedSimpArgs false
set_option maxRecDepth 100000
attribute [local go_sem ↓] Go.wp_at_zero Go.wp_at_succ
/-- The first k numbers are not above. -/
def leTo (x y : Ck) (k : Nat) : Prop := ∀ i m n, i < k → x.list[i]? = some m → y.list[i]? = some n → m ≤ n
theorem leTo_six (x y : Ck) (h : leTo x y 6) : leK x y = true := by
  rw [leK_iff]
  exact ⟨h 0 _ _ (by omega) rfl rfl, h 1 _ _ (by omega) rfl rfl, h 2 _ _ (by omega) rfl rfl, h 3 _ _ (by omega) rfl rfl, h 4 _ _ (by omega) rfl rfl, h 5 _ _ (by omega) rfl rfl⟩
theorem le_not {x y : Ck} {k : Nat} {m n : Int} (hm : x.list[k]? = some m) (hn : y.list[k]? = some n) (h : n < m) : leK x y = false := by
  rw [Bool.eq_false_iff]
  intro q
  rw [leK_iff] at q
  match k, hm, hn with
  | 0, hm, hn => simp [Ck.list] at hm hn; omega
  | 1, hm, hn => simp [Ck.list] at hm hn; omega
  | 2, hm, hn => simp [Ck.list] at hm hn; omega
  | 3, hm, hn => simp [Ck.list] at hm hn; omega
  | 4, hm, hn => simp [Ck.list] at hm hn; omega
  | 5, hm, hn => simp [Ck.list] at hm hn; omega
  | k + 6, hm, hn => simp [Ck.list] at hm
theorem leTo_more {x y : Ck} {k : Nat} {m n : Int} (h : leTo x y k) (hm : x.list[k]? = some m) (hn : y.list[k]? = some n) (hmn : m ≤ n) : leTo x y (k + 1) := by
  intro i a b hi ha hb
  by_cases e : i = k
  · subst e
    rw [hm] at ha; rw [hn] at hb
    cases ha; cases hb
    exact hmn
  · exact h i a b (by omega) ha hb
end Go.Proofs.YtafefnkgdnmjbaaGreatDoor.pg
/- The document's own Cmp; Tick, by both; what is wrong with two clocks. -/
namespace Go.Proofs.YtafefnkgdnmjbaaGreatDoor.pg
open Go.ChangeShapes Go.WideShapes Go.ChangeAt Go.RowKit
set_option linter.unusedVariables false
set_option linter.unusedSimpArgs false
set_option maxRecDepth 100000
attribute [local go_sem ↓] Go.wp_at_zero Go.wp_at_succ
/-- A clock one step later, or why not. -/
def tickP (x : Ck) (g : Int) (R : Ck) (c : Int) : Prop := (¬ (x.ok ∧ 0 ≤ g ∧ g < 6) ∧ R = zeroK ∧ c = 1) ∨ (x.ok ∧ ∃ k : Nat, k < 6 ∧ g = k ∧ ∃ n, x.list[k]? = some n ∧ ((n = 1073741824 ∧ R = zeroK ∧ c = 2) ∨ (n ≠ 1073741824 ∧ R = x.put k (n + 1) ∧ c = 0)))
theorem tick_some (x : Ck) (g : Int) : ∃ R c, tickP x g R c := by
  by_cases h : x.ok ∧ 0 ≤ g ∧ g < 6
  · obtain ⟨n, hn, _⟩ := get_lt x.list g.toNat (by rw [Ck.list_len]; omega)
    by_cases e : n = 1073741824
    · exact ⟨zeroK, 2, .inr ⟨h.1, g.toNat, by omega, by omega, n, hn, .inl ⟨e, rfl, rfl⟩⟩⟩
    · exact ⟨x.put g.toNat (n + 1), 0, .inr ⟨h.1, g.toNat, by omega, by omega, n, hn, .inr ⟨e, rfl, rfl⟩⟩⟩
  · exact ⟨zeroK, 1, .inl ⟨h, rfl, rfl⟩⟩
theorem boxes2z (w : World) (x : Ck) : InB ((w.alloc (objK x)).alloc (objK zeroK)) w.heap.size x ∧ InB ((w.alloc (objK x)).alloc (objK zeroK)) (w.heap.size + 1) zeroK := boxes2 w x zeroK
theorem ok_at {x : Ck} (h : x.ok) {k : Nat} {n : Int} (hn : x.list[k]? = some n) : 0 ≤ n ∧ n ≤ 1073741824 := h n (List.mem_of_getElem? hn)
set_option maxHeartbeats 1000000 in
theorem tick_any (x : Ck) (g : Int) (R : Ck) (c : Int) (h : tickP x g R c) (w : World) : Calls Tryz.prog 142 #[x.val, .int .i64 g] w fun e w' => e = .returned (.tuple #[R.val, .int .i64 c]) ∧ Below w.heap.size w w' := by
  have bx : Hid _ := boxes2z w x
  rcases h with ⟨h, rfl, rfl⟩ | ⟨hx, k, hk, rfl, n, hn, ⟨rfl, rfl, rfl⟩ | ⟨hne, rfl, rfl⟩⟩
  · by_cases hx : x.ok
    · have c1 : ∀ wx, Calls Tryz.prog 139 #[x.val] wx _ := fun wx => check_ok x hx wx
      by_cases h0 : g < 0
      · clear h hx
        go_enter Tryz.func142, Tryz.ntmps142
        go_wp2_with (first
          | (go_at_call 139; (with_reducible refine (c1 _).mono ?_); rintro e w1 ⟨rfl, hb1⟩; (have hx2 := bx.out.1.later hb1); (have hz2 := bx.out.2.later hb1); (have hB1 : Hid (Below w.heap.size w w1) := bthen (boxed2 _ _ _) hb1); clear hb1 c1)
          | (refine wpList_store_row rfl 114 _ _ rfl (w.heap.size + 1) _ rfl rfl _ _ hz2 infoK rfl (one6 zeroK) ?_))
        exact bodyPost_ret (results_ck Tryz.results142 _ _ (w.heap.size + 1) zeroK _ rfl rfl (hz2.set zeroK)) rfl ⟨rfl, below_setRow hB1.out (by omega) _⟩
      · have h6 : 6 ≤ g := by
          have : ¬ (0 ≤ g ∧ g < 6) := fun q => h ⟨hx, q⟩
          omega
        clear h hx
        go_enter Tryz.func142, Tryz.ntmps142
        go_wp2_with (first
          | (go_at_call 139; (with_reducible refine (c1 _).mono ?_); rintro e w1 ⟨rfl, hb1⟩; (have hx2 := bx.out.1.later hb1); (have hz2 := bx.out.2.later hb1); (have hB1 : Hid (Below w.heap.size w w1) := bthen (boxed2 _ _ _) hb1); clear hb1 c1)
          | (refine wpList_store_row rfl 114 _ _ rfl (w.heap.size + 1) _ rfl rfl _ _ hz2 infoK rfl (one6 zeroK) ?_))
        exact bodyPost_ret (results_ck Tryz.results142 _ _ (w.heap.size + 1) zeroK _ rfl rfl (hz2.set zeroK)) rfl ⟨rfl, below_setRow hB1.out (by omega) _⟩
    · have c1 : ∀ wx, Calls Tryz.prog 139 #[x.val] wx _ := fun wx => check_bad x hx wx
      clear h hx
      go_enter Tryz.func142, Tryz.ntmps142
      go_wp2_with (first
        | (go_at_call 139; (with_reducible refine (c1 _).mono ?_); rintro e w1 ⟨rfl, hb1⟩; (have hx2 := bx.out.1.later hb1); (have hz2 := bx.out.2.later hb1); (have hB1 : Hid (Below w.heap.size w w1) := bthen (boxed2 _ _ _) hb1); clear hb1 c1)
        | (refine wpList_store_row rfl 114 _ _ rfl (w.heap.size + 1) _ rfl rfl _ _ hz2 infoK rfl (one6 zeroK) ?_))
      exact bodyPost_ret (results_ck Tryz.results142 _ _ (w.heap.size + 1) zeroK _ rfl rfl (hz2.set zeroK)) rfl ⟨rfl, below_setRow hB1.out (by omega) _⟩
  · have c1 : ∀ wx, Calls Tryz.prog 139 #[x.val] wx _ := fun wx => check_ok x hx wx
    have h0 : ¬ ((k : Int) < 0) := by omega
    have h6 : ¬ (6 : Int) ≤ k := by omega
    have h66 : (k : Int) < 6 := by omega
    have hat := ck_at w.heap.size k hk
    have hnH : Hid (x.list[k]? = some 1073741824) := hn
    clear hn hx
    go_enter Tryz.func142, Tryz.ntmps142
    go_wp2_with (first
      | (go_at_call 139; (with_reducible refine (c1 _).mono ?_); rintro e w1 ⟨rfl, hb1⟩; (have hx2 := bx.out.1.later hb1); (have hz2 := bx.out.2.later hb1); (have hB1 : Hid (Below w.heap.size w w1) := bthen (boxed2 _ _ _) hb1); (have hcell := (hx2.cell hnH.out).1); clear hb1 c1)
      | (refine wpList_store_row rfl 114 _ _ rfl (w.heap.size + 1) _ rfl rfl _ _ hz2 infoK rfl (one6 zeroK) ?_))
    exact bodyPost_ret (results_ck Tryz.results142 _ _ (w.heap.size + 1) zeroK _ rfl rfl (hz2.set zeroK)) rfl ⟨rfl, below_setRow hB1.out (by omega) _⟩
  · have c1 : ∀ wx, Calls Tryz.prog 139 #[x.val] wx _ := fun wx => check_ok x hx wx
    have h0 : ¬ ((k : Int) < 0) := by omega
    have h6 : ¬ (6 : Int) ≤ k := by omega
    have h66 : (k : Int) < 6 := by omega
    have hat := ck_at w.heap.size k hk
    have hnH : Hid (x.list[k]? = some n) := hn
    have hneB : (n == 1073741824) = false := by simpa using hne
    have hlo : 0 ≤ n := (ok_at hx hn).1
    have hhi : n ≤ 1073741824 := (ok_at hx hn).2
    clear hn hx hne
    go_enter Tryz.func142, Tryz.ntmps142
    go_wp2_with (first
      | (go_at_call 139; (with_reducible refine (c1 _).mono ?_); rintro e w1 ⟨rfl, hb1⟩; (have hx2 := bx.out.1.later hb1); (have hz2 := bx.out.2.later hb1); (have hB1 : Hid (Below w.heap.size w w1) := bthen (boxed2 _ _ _) hb1); (obtain ⟨hcell, hfz⟩ := hx2.cell hnH.out); (have hx3 := hx2.put hk (n + 1)); (have hz3 := hz2.setCell (B' := w.heap.size) (k := k) (by omega) (.int .i64 (n + 1))); clear hb1 c1)
      | (refine wpList_load_row rfl 114 _ rfl w.heap.size rfl _ _ _ _ hx3 Tryz.underlying114 rfl infoK ?_)
      | (refine wpList_store_row rfl 114 _ _ rfl (w.heap.size + 1) _ rfl rfl _ _ hz3 infoK rfl (one6 (x.put k (n + 1))) ?_))
    exact bodyPost_ret (results_ck Tryz.results142 _ _ (w.heap.size + 1) (x.put k (n + 1)) _ rfl rfl (hz3.set (x.put k (n + 1)))) rfl ⟨rfl, below_setRow (hB1.out.setCell (p := ⟨w.heap.size, k, none⟩) (Nat.le_refl _) _) (by omega) _⟩
end Go.Proofs.YtafefnkgdnmjbaaGreatDoor.pg
