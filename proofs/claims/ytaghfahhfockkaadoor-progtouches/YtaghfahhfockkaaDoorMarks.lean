/- The list of marked registers. -/
import Derived.Test.YtaghfahhfockkaaDoorCp5
import Derived.Test.YtaghfahhfockkaaDoorRegs0
namespace Go.Proofs.YtaghfahhfockkaaDoor.pg
open Go.ChangeShapes Go.WideShapes Go.ChangeAt Go.RowKit
set_option linter.unusedVariables false
set_option linter.unusedSimpArgs false
set_option maxRecDepth 100000
abbrev marksV (m : Nat → Bool) : Value := .agg #[.bool (m 0), .bool (m 1), .bool (m 2), .bool (m 3), .bool (m 4), .bool (m 5), .bool (m 6), .bool (m 7)]
theorem mark_ix (m : Nat → Bool) (k : Nat) (hk : k < 8) : ∀ wx, (Instr.index 54 (marksV m) (.int .i64 (k : Int))).run Tryd.prog wx = .ok (.bool (m k)) wx := by
  intro wx
  have hk8 : k = 0 ∨ k = 1 ∨ k = 2 ∨ k = 3 ∨ k = 4 ∨ k = 5 ∨ k = 6 ∨ k = 7 := by omega
  have h := Tryd.underlying54
  rcases hk8 with rfl | rfl | rfl | rfl | rfl | rfl | rfl | rfl
  all_goals simp [Instr.index, run_underlying h, asIntOf, go_sem]
structure MSt (m : Nat → Bool) (w : World) (k : Nat) (va : Option Addr) (vc : Nat) (wr : World) : Prop where
  be : Below w.heap.size w wr
  ow : OwnL wr w.heap.size 3 1 va vc ((upto m k).map chCells)
set_option maxHeartbeats 4000000 in
theorem list_any (m : Nat → Bool) (w : World) :
    Calls Tryd.prog 19 #[marksV m] w fun e w' => ∃ va vc, e = .returned (.slice va (upto m 8).length vc) ∧ OwnL w' w.heap.size 3 1 va vc ((upto m 8).map chCells) ∧ Below w.heap.size w w' := by
  obtain ⟨iN, hiN, hzN, hsN, hbN⟩ := info_of infoN
  go_enter Tryd.func19, Tryd.ntmps19
  go_wp2_with fail
  go_loopw [3, 7] (fun u3 u7 wr => ∃ (k : Nat) (va : Option Addr) (vc : Nat), k ≤ 8 ∧ u7 = .int .i64 k ∧ u3 = .slice va (upto m k).length vc ∧ MSt m w k va vc wr) (fun _ u7 _ => 8 - (intOf u7).toNat)
  case atStart => exact ⟨0, none, 0, by omega, rfl, rfl, boxed _ _, own_nil _ _ _ _⟩
  case round =>
    obtain ⟨k, va, vc, hk, rfl, rfl, st⟩ := hrel
    by_cases hlt : k < 8
    · have hlen := upto_len m k
      have hbs : Hid (w.heap.size ≤ (wr.alloc (.cells #[.int .i64 (k : Int)] 3)).heap.size) := by have := st.be.size; simp only [Hid, World.size_alloc]; omega
      have hgo : Hid (OwnL (wr.alloc (.cells #[.int .i64 (k : Int)] 3)) w.heap.size 3 1 va vc ((upto m k).map chCells)) := own_keep st.ow fun b hb => (boxed _ _).block b (blk_lt st.ow b hb).2
      have hrow : Hid (Rows (wr.alloc (.cells #[.int .i64 (k : Int)] 3)) 1 (some ⟨wr.heap.size, 0, none⟩) 1 [chCells (k : Int)]) := rows_one (heap_alloc_new wr _) rfl
      have hbe : Hid (Below w.heap.size w (wr.alloc (.cells #[.int .i64 (k : Int)] 3))) := bthen st.be (boxed _ _)
      have hy : Hid (m k = true → upto m (k + 1) = upto m k ++ [(k : Int)]) := upto_yes
      have hn : Hid (m k = false → upto m (k + 1) = upto m k) := upto_no
      have hix := mark_ix m k hlt
      have hkI : (k : Int) < 8 := by omega
      have ib : w.heap.size ≤ wr.heap.size := st.be.size
      cases hm : m k with
      | true =>
        have H : Hid (upto m (k + 1) = upto m k ++ [(k : Int)]) := hy.out hm
        clear hy hn
        rw [hm] at hix
        clear hm
        go_wp2_with (first
          | (at_builtin; (refine wpList_app rfl (.tmp 12) (.tmp 14) 23 rfl w.heap.size 3 iN _ 1 8 Tryd.underlying23 hiN hzN hsN hbN rfl (by decide) va vc ((upto m k).map chCells) (by rw [List.length_map]; rfl) hgo.out (some ⟨wr.heap.size, 0, none⟩) 1 [chCells (k : Int)] rfl hrow.out (len1 [(k : Int)]) (one1 [(k : Int)]) (by unfold maxLen; simp only [List.length_map, List.length_singleton]; omega) (by simp only [List.length_map, List.length_singleton]; omega) hbs.out ?_); intro va' vc' w2 ho2 hk2 hB2 hbl2; simp only [List.length_append, List.length_map, List.length_singleton] at ⊢))
        go_roundw
        case rel => exact ⟨k + 1, va', vc', by omega, by go_num, by rw [H.out]; simp, below_keep hbe.out hbs.out hB2, by rw [H.out, List.map_append]; exact ho2⟩
        case measure => simp [intOf]; omega
      | false =>
        have H : Hid (upto m (k + 1) = upto m k) := hn.out hm
        clear hy hn
        rw [hm] at hix
        clear hm
        go_wp2
        go_roundw
        case rel => exact ⟨k + 1, va, vc, by omega, by go_num, by rw [H.out], st.be, by rw [H.out]; exact st.ow⟩
        case measure => simp [intOf]; omega
    · have hk8 : k = 8 := by omega
      subst hk8
      go_wp2
      go_ret
      exact ⟨va, vc, rfl, st.ow, st.be⟩
end Go.Proofs.YtaghfahhfockkaaDoor.pg
