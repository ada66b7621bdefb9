/- Lists of clocks: what is wrong with them. Join, Meet, Cmp. -/
import Derived.Test.YtbajfgllgfmnfaaCk2
import Derived.Test.YtbajfgllgfmnfaaMem
namespace Go.Proofs.Ytbajfgllgfmnfaa.pg
open Go.ChangeShapes Go.WideShapes Go.ChangeAt Go.RowKit
set_option linter.unusedVariables false
set_option linter.unusedSimpArgs false
set_option maxRecDepth 100000
attribute [local go_sem ↓] Go.wp_at_zero Go.wp_at_succ
theorem cks_ix {w : World} {a : Option Addr} {cap : Nat} {l : List Ck} (h : Rows w 6 a cap (l.map Ck.cells)) (i : Nat) (x : Ck) (hi : l[i]? = some x) :
    ∃ b o, (∀ wx, (Instr.indexAt 23 (.slice a l.length cap) (.int .i64 (i : Int))).run Try.prog wx = .ok (.pointer (some ⟨b, o, none⟩)) wx) ∧ b < w.heap.size ∧ w.cell? ⟨b, o, none⟩ = some (.int .i64 x.c0) ∧ w.cell? ⟨b, o + 1, none⟩ = some (.int .i64 x.c1) ∧ w.cell? ⟨b, o + 2, none⟩ = some (.int .i64 x.c2) ∧ w.cell? ⟨b, o + 3, none⟩ = some (.int .i64 x.c3) ∧ w.cell? ⟨b, o + 4, none⟩ = some (.int .i64 x.c4) ∧ w.cell? ⟨b, o + 5, none⟩ = some (.int .i64 x.c5) := by
  obtain ⟨b, o, hr, hlt, hc⟩ := h.ix 23 40 Try.underlying23 (by kernel_rfl) (fun wx => Try.sizeOf40 wx) i (row := x.cells) (by simp [hi])
  rw [List.length_map] at hr
  exact ⟨b, o, hr, hlt, hc 0 _ rfl, hc 1 _ rfl, hc 2 _ rfl, hc 3 _ rfl, hc 4 _ rfl, hc 5 _ rfl⟩
/-- What is wrong with a list of clocks. -/
def errL (l : List Ck) (c : Int) : Prop := (256 < l.length ∧ c = 2) ∨ (l.length ≤ 256 ∧ (∃ x ∈ l, ¬ x.ok) ∧ c = 1) ∨ (l.length ≤ 256 ∧ (∀ x ∈ l, x.ok) ∧ c = 0)
theorem take_more {α : Type} {p : α → Prop} {l : List α} {k : Nat} {x : α} (hx : l[k]? = some x) (h : ∀ z ∈ l.take k, p z) (hp : p x) : ∀ z ∈ l.take (k + 1), p z := by
  intro z hz
  rw [List.take_add_one, hx] at hz
  simp only [Option.toList_some, List.mem_append, List.mem_singleton] at hz
  rcases hz with hz | rfl
  · exact h z hz
  · exact hp
set_option maxHeartbeats 1000000 in
theorem checks_any (l : List Ck) (la : Option Addr) (lc : Nat) (w : World) (hl : Rows w 6 la lc (l.map Ck.cells)) (c : Int) (hc : Hid (errL l c)) : Calls Try.prog 78 #[.slice la l.length lc] w fun e w' => e = .returned (.int .i64 c) ∧ Below w.heap.size w w' := by
  have hlI := rows_len hl
  have hlH : Hid (Rows w 6 la lc (l.map Ck.cells)) := hl
  clear hl
  by_cases hlong : 256 < l.length
  · have hcc : c = 2 := by rcases hc.out with ⟨_, q⟩ | ⟨q, _⟩ | ⟨q, _⟩ <;> omega
    have hI : (256 : Int) < l.length := by omega
    subst hcc
    go_enter Try.func78, Try.ntmps78
    go_wp2
    go_ret
    exact ⟨rfl, Below.refl _ _⟩
  · have hI : ¬ (256 : Int) < l.length := by omega
    go_enter Try.func78, Try.ntmps78
    go_wp2
    go_loopw [11] (fun u wr => ∃ k : Nat, k ≤ l.length ∧ u = .int .i64 k ∧ Below w.heap.size w wr ∧ Hid (∀ x ∈ l.take k, x.ok)) (fun u _ => l.length - (intOf u).toNat)
    case atStart => exact ⟨0, Nat.zero_le _, rfl, Below.refl _ _, fun x hx => by simp at hx⟩
    case round =>
      obtain ⟨k, hk, rfl, hb2, hok⟩ := hrel
      by_cases hlt : k < l.length
      · obtain ⟨x, hx, hxm⟩ := get_lt l k hlt
        obtain ⟨b0, o0, hix, hbl, k0, k1, k2, k3, k4, k5⟩ := cks_ix (hlH.out.later hb2) k x hx
        have hkI : (k : Int) < l.length := by omega
        by_cases e : x.ok
        · have c1 : ∀ wx, Calls Try.prog 80 #[x.val] wx _ := fun wx => check_ok x e wx
          have hok2 : Hid (∀ x ∈ l.take (k + 1), x.ok) := take_more hx hok.out e
          clear e hx hxm
          go_wp2_with (go_at_call 80; (with_reducible refine (c1 _).mono ?_); rintro e w1 ⟨rfl, hb1⟩)
          go_roundw
          case rel => exact ⟨k + 1, by omega, by go_num, bthen hb2 (bthen (boxed _ _) hb1), hok2⟩
          case measure => simp [intOf]; omega
        · have c1 : ∀ wx, Calls Try.prog 80 #[x.val] wx _ := fun wx => check_bad x e wx
          have hcc : Hid (c = 1) := by
            rcases hc.out with ⟨q, _⟩ | ⟨_, _, q⟩ | ⟨_, q, _⟩
            · omega
            · exact q
            · exact absurd (q x hxm) e
          clear e hx hxm
          go_wp2_with (go_at_call 80; (with_reducible refine (c1 _).mono ?_); rintro e w1 ⟨rfl, hb1⟩)
          go_ret
          exact ⟨by rw [hcc.out]; rfl, bthen hb2 (bthen (boxed _ _) hb1)⟩
      · have hk2 : k = l.length := by omega
        subst hk2
        rw [List.take_length] at hok
        have hcc : Hid (c = 0) := by
          rcases hc.out with ⟨q, _⟩ | ⟨_, ⟨x, hx, q⟩, _⟩ | ⟨_, _, q⟩
          · omega
          · exact absurd (hok.out x hx) q
          · exact q
        go_wp2
        go_ret
        exact ⟨by rw [hcc.out]; rfl, hb2⟩
/-- Two clocks, laid one behind the other. -/
theorem rows_two {w : World} {b : Nat} {x y : Ck} {t : TypeId} (h : w.heap[b]? = some (.cells #[.int .i64 x.c0, .int .i64 x.c1, .int .i64 x.c2, .int .i64 x.c3, .int .i64 x.c4, .int .i64 x.c5, .int .i64 y.c0, .int .i64 y.c1, .int .i64 y.c2, .int .i64 y.c3, .int .i64 y.c4, .int .i64 y.c5] t (0, 0))) : Rows w 6 (some ⟨b, 0, none⟩) 2 ([x, y].map Ck.cells) := by
  refine ⟨by simp, by omega, by simp, .inr ⟨b, 0, rfl, (Array.getElem?_eq_some_iff.mp h).1, fun i row hi => ?_⟩⟩
  match i, hi with
  | 0, hi =>
    simp at hi
    subst hi
    refine ⟨rfl, fun j u hj => ?_⟩
    rw [cell_of_row w b _ _ _ _ h]
    match j, hj with
    | 0, hj => exact hj
    | 1, hj => exact hj
    | 2, hj => exact hj
    | 3, hj => exact hj
    | 4, hj => exact hj
    | 5, hj => exact hj
    | j + 6, hj => simp [Ck.cells] at hj
  | 1, hi =>
    simp at hi
    subst hi
    refine ⟨rfl, fun j u hj => ?_⟩
    rw [cell_of_row w b _ _ _ _ h]
    match j, hj with
    | 0, hj => exact hj
    | 1, hj => exact hj
    | 2, hj => exact hj
    | 3, hj => exact hj
    | 4, hj => exact hj
    | 5, hj => exact hj
    | j + 6, hj => simp [Ck.cells] at hj
  | i + 2, hi => simp at hi
end Go.Proofs.Ytbajfgllgfmnfaa.pg
