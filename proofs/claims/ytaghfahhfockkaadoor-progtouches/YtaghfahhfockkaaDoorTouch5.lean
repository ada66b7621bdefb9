/- The document's own list of numbers, rising, and its look at a place. -/
import Derived.Test.YtaghfahhfockkaaDoorTouch4
import Derived.Test.YtaghfahhfockkaaDoorRef6
namespace Go.Proofs.YtaghfahhfockkaaDoor.pg
open Go.ChangeShapes Go.WideShapes Go.ChangeAt Go.RowKit
set_option linter.unusedVariables false
set_option linter.unusedSimpArgs false
set_option maxRecDepth 100000
structure RSt (l : List Int) (w : World) (k : Nat) (va : Option Addr) (vc : Nat) (wr : World) : Prop where
  be : Below w.heap.size w wr
  ow : OwnL wr w.heap.size 3 1 va vc ((upto (inl l) k).map chCells)
set_option maxHeartbeats 4000000 in
theorem rising_any (l : List Int) (a : Option Addr) (cap : Nat) (w : World) (hl : Rows w 1 a cap (l.map chCells)) (h64 : ∀ x ∈ l, I64 x) :
    Calls Tryd.prog 21 #[.slice a l.length cap] w fun e w' => ∃ va vc, e = .returned (.slice va (upto (inl l) 8).length vc) ∧ Rows w' 1 va vc ((upto (inl l) 8).map chCells) ∧ Below w.heap.size w w' := by
  obtain ⟨iN, hiN, hzN, hsN, hbN⟩ := info_of infoN
  have hlI : (l.length : Int) ≤ 9223372036854775807 := rows_len hl
  go_enter Tryd.func21, Tryd.ntmps21
  go_wp2_with fail
  go_loopw [3, 4] (fun u3 u4 wr => ∃ (k : Nat) (va : Option Addr) (vc : Nat), k ≤ 8 ∧ u4 = .int .i64 k ∧ u3 = .slice va (upto (inl l) k).length vc ∧ RSt l w k va vc wr) (fun _ u4 _ => 8 - (intOf u4).toNat)
  case atStart => exact ⟨0, none, 0, by omega, rfl, rfl, Below.refl _ _, own_nil _ _ _ _⟩
  case round =>
    obtain ⟨k, va, vc, hk, rfl, rfl, st⟩ := hrel
    by_cases hlt : k < 8
    · have hlen := upto_len (inl l) k
      have hkI : (k : Int) < 8 := by omega
      rename World => W
      go_wp2_with fail
      go_loopw [3, 13] (fun u3 u wx => ∃ q : Nat, q ≤ l.length ∧ u3 = .slice va (upto (inl l) k).length vc ∧ u = .int .i64 q ∧ (∀ j y, j < q → l[j]? = some y → ¬ y = (k : Int)) ∧ wx = W) (fun _ u _ => l.length - (intOf u).toNat)
      case atStart => exact ⟨0, Nat.zero_le _, rfl, rfl, (fun j y hj => by omega), rfl⟩
      case round =>
        obtain ⟨q, hq, rfl, rfl, hall, hwx⟩ := hrel
        subst hwx
        by_cases hlq : q < l.length
        · obtain ⟨y, hy, hym⟩ := get_lt l q hlq
          obtain ⟨bb, o, hix, hbl, c0⟩ := ch_ix (hl.later st.be) q y hy
          by_cases hyk : y = (k : Int)
          · subst hyk
            have H : Hid (upto (inl l) (k + 1) = upto (inl l) k ++ [(k : Int)]) := upto_yes (by unfold inl; exact decide_eq_true hym)
            clear hall
            have hbs : Hid (w.heap.size ≤ (wr.alloc (.cells #[.int .i64 (k : Int)] 3)).heap.size) := by have := st.be.size; simp only [Hid, World.size_alloc]; omega
            have hgo : Hid (OwnL (wr.alloc (.cells #[.int .i64 (k : Int)] 3)) w.heap.size 3 1 va vc ((upto (inl l) k).map chCells)) := own_keep st.ow fun b hb => (boxed _ _).block b (blk_lt st.ow b hb).2
            have hrow : Hid (Rows (wr.alloc (.cells #[.int .i64 (k : Int)] 3)) 1 (some ⟨wr.heap.size, 0, none⟩) 1 [chCells (k : Int)]) := rows_one (heap_alloc_new wr _) rfl
            have hbe : Hid (Below w.heap.size w (wr.alloc (.cells #[.int .i64 (k : Int)] 3))) := bthen st.be (boxed _ _)
            go_wp2_with (first
              | (at_builtin; (refine wpList_app rfl (.tmp 20) (.tmp 22) 23 rfl w.heap.size 3 iN _ 1 8 Tryd.underlying23 hiN hzN hsN hbN rfl (by decide) va vc ((upto (inl l) k).map chCells) (by rw [List.length_map]; rfl) hgo.out (some ⟨wr.heap.size, 0, none⟩) 1 [chCells (k : Int)] rfl hrow.out (len1 [(k : Int)]) (one1 [(k : Int)]) (by unfold maxLen; simp only [List.length_map, List.length_singleton]; omega) (by simp only [List.length_map, List.length_singleton]; omega) hbs.out ?_); intro va' vc' w2 ho2 hk2 hB2 hbl2; simp only [List.length_append, List.length_map, List.length_singleton] at ⊢))
            go_roundw
            case rel => exact ⟨k + 1, va', vc', by omega, by go_num, by rw [H.out]; simp, below_keep hbe.out hbs.out hB2, by rw [H.out, List.map_append]; exact ho2⟩
            case measure => simp [intOf]; omega
          · go_wp2
            go_roundw
            case rel => exact ⟨q + 1, by omega, rfl, by go_num, (fun j z hj hz => by
              by_cases hjq : j = q
              · subst hjq; rw [hy] at hz; cases hz; exact hyk
              · exact hall j z (by omega) hz), by trivial⟩
            case measure => simp [intOf]; omega
        · have hq2 : q = l.length := by omega
          have H : Hid (upto (inl l) (k + 1) = upto (inl l) k) := upto_no (by
            unfold inl
            refine decide_eq_false fun hm => ?_
            obtain ⟨j, hj, he⟩ := List.getElem_of_mem hm
            exact hall j _ (by omega) (List.getElem?_eq_getElem hj) he)
          clear hall
          subst hq2
          go_wp2
          go_roundw
          case rel => exact ⟨k + 1, va, vc, by omega, by go_num, by rw [H.out], st.be, by rw [H.out]; exact st.ow⟩
          case measure => simp [intOf]; omega
    · have hk8 : k = 8 := by omega
      subst hk8
      go_wp2
      go_ret
      exact ⟨va, vc, rfl, own_rows st.ow (len1 _), st.be⟩
section
variable (M : MPr) (f pc : Int) (w : World)
set_option maxHeartbeats 4000000 in
theorem asked_any (hl : M.lies w) {R S : List Int} {c : Int} (h : Asked M f pc R S c) :
    Calls Tryd.prog 20 #[M.val, .int .i64 f, .int .i64 pc] w fun e w' => e = .returned (.int .i64 c) ∧ Below w.heap.size w w' := by
  have hb := boxed w (objP M)
  have bP := boxP_new w M
  have hfI : (M.fns.length : Int) ≤ 9223372036854775807 := rows_len hl.2.2.1
  rcases h with ⟨hr, rfl, rfl, rfl⟩ | ⟨hr, rfl, rfl, rfl, h⟩ | ⟨hr, rfl, n, q, F, i, rfl, rfl, hf, hi, rfl, rfl⟩
  · have hcall := rright_any M _ (hl.later hb) false (decide_eq_false fun q => hr ((right_iff M.pr).mpr q))
    clear hr hl
    go_enter Tryd.func20, Tryd.ntmps20
    go_wp2_with (go_at_call 12; (with_reducible refine hcall.mono ?_); rintro e w2 ⟨rfl, hb2⟩)
    go_ret
    exact ⟨rfl, bthen hb hb2⟩
  · have hcall := rright_any M _ (hl.later hb) true (decide_eq_true ((right_iff M.pr).mp hr))
    have hLw : Hid (M.lies w) := hl
    clear hr hl
    rcases h with (h | h) | ⟨n, F, rfl, hf, h⟩
    · go_enter Tryd.func20, Tryd.ntmps20
      go_wp2_with (go_at_call 12; (with_reducible refine hcall.mono ?_); rintro e w2 ⟨rfl, hb2⟩; obtain ⟨p0, p1, p2, p3⟩ := bP.later hb2)
      go_ret
      exact ⟨rfl, bthen hb hb2⟩
    · have h0 : ¬ f < 0 := by omega
      go_enter Tryd.func20, Tryd.ntmps20
      go_wp2_with (go_at_call 12; (with_reducible refine hcall.mono ?_); rintro e w2 ⟨rfl, hb2⟩; obtain ⟨p0, p1, p2, p3⟩ := bP.later hb2)
      go_ret
      exact ⟨rfl, bthen hb hb2⟩
    · have hfl : n < M.fns.length := (List.getElem?_eq_some_iff.mp hf).1
      have hfl' : ¬ (M.fns.length : Int) ≤ (n : Int) := by omega
      have hn0 : ¬ (n : Int) < 0 := by omega
      rcases h with h | h
      · go_enter Tryd.func20, Tryd.ntmps20
        go_wp2_with (go_at_call 12; (with_reducible refine hcall.mono ?_); rintro e w2 ⟨rfl, hb2⟩; obtain ⟨p0, p1, p2, p3⟩ := bP.later hb2)
        go_ret
        exact ⟨rfl, bthen hb hb2⟩
      · have h0 : ¬ pc < 0 := by omega
        go_enter Tryd.func20, Tryd.ntmps20
        go_wp2_with (go_at_call 12; (with_reducible refine hcall.mono ?_); rintro e w2 ⟨rfl, hb2⟩; obtain ⟨p0, p1, p2, p3⟩ := bP.later hb2; obtain ⟨fb, fo, hfix, hfbl, fc0, fc1, fc2, fc3⟩ := fn_ix (hLw.out.later (bthen hb hb2)).2.2.1 n F hf)
        go_ret
        exact ⟨rfl, bthen hb hb2⟩
  · have hcall := rright_any M _ (hl.later hb) true (decide_eq_true ((right_iff M.pr).mp hr))
    have hLw : Hid (M.lies w) := hl
    have hfl : n < M.fns.length := (List.getElem?_eq_some_iff.mp hf).1
    have hfl' : ¬ (M.fns.length : Int) ≤ (n : Int) := by omega
    have hn0 : ¬ (n : Int) < 0 := by omega
    have hpl : q < F.code.length := (List.getElem?_eq_some_iff.mp hi).1
    have hpl' : ¬ (F.code.length : Int) ≤ (q : Int) := by omega
    have hq0 : ¬ (q : Int) < 0 := by omega
    clear hr hl
    go_enter Tryd.func20, Tryd.ntmps20
    go_wp2_with (go_at_call 12; (with_reducible refine hcall.mono ?_); rintro e w2 ⟨rfl, hb2⟩; obtain ⟨p0, p1, p2, p3⟩ := bP.later hb2; obtain ⟨fb, fo, hfix, hfbl, fc0, fc1, fc2, fc3⟩ := fn_ix (hLw.out.later (bthen hb hb2)).2.2.1 n F hf)
    go_ret
    exact ⟨rfl, bthen hb hb2⟩
end
end Go.Proofs.YtaghfahhfockkaaDoor.pg
