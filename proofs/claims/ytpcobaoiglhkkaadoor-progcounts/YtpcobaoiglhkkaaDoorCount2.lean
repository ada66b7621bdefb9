/- The contract of the document's own Count; Count of programs that are not right. -/
import Derived.Test.YtpcobaoiglhkkaaDoorCount
namespace Go.Proofs.YtpcobaoiglhkkaaDoor.pg
open Go.ChangeShapes Go.WideShapes Go.ChangeAt Go.RowKit
set_option linter.unusedVariables false
set_option linter.unusedSimpArgs false
set_option maxRecDepth 100000
set_option maxHeartbeats 4000000 in
theorem rcount_any (M : MPr) (w : World) (hl : M.lies w) (hr : (chk insR M.pr).1 = 0) :
    Calls Tryd.prog 19 #[M.val] w fun e w' => e = .returned (.tuple #[.int .i64 (aN M.fns), .int .i64 (vN M.fns), .int .i64 0]) ∧ Below w.heap.size w w' := by
  have hb := boxed w (objP M)
  have hcall := rright_any M _ (hl.later hb) true (decide_eq_true hr)
  have hcl := code_le hr
  have hfl := fns_le hr
  have bP := boxP_new w M
  have hAt : M.fns.take M.fns.length = M.fns := List.take_length
  clear hr
  go_enter Tryd.func19, Tryd.ntmps19
  go_wp2_with (go_at_call 21; (with_reducible refine hcall.mono ?_); rintro e w2 ⟨rfl, hb2⟩; obtain ⟨p0, p1, p2, p3⟩ := bP.later hb2)
  have hb3 : Below w.heap.size w w2 := bthen hb hb2
  clear p0 p1 p2 p3 hb2 bP hcall hb
  go_loopw [5, 6, 17] (fun a v i wr => ∃ k : Nat, k ≤ M.fns.length ∧ i = .int .i64 k ∧ a = .int .i64 (aN (M.fns.take k)) ∧ v = .int .i64 (vN (M.fns.take k)) ∧ Below w.heap.size w wr) (fun a v i _ => M.fns.length - (intOf i).toNat)
  case atStart => exact ⟨0, Nat.zero_le _, rfl, rfl, rfl, hb3⟩
  case round =>
    obtain ⟨k, hk, rfl, rfl, rfl, hbr⟩ := hrel
    have ha := aN_le M.fns k hcl
    have hv := vN_le M.fns k hcl
    by_cases hlt : k < M.fns.length
    · obtain ⟨x, hx, hm⟩ := get_lt M.fns k hlt
      have hLr := hl.later hbr
      obtain ⟨bb, o, hix, hbl, c0, c1, c2, c3⟩ := fn_ix hLr.2.2.1 k x hx
      have hxl := (hLr.2.2.2.2.2.2 x hm)
      have hxc := hcl x hm
      have hb4 : Below w.heap.size w (wr.alloc (objF x)) := bthen hbr (boxed _ _)
      have hsa := aN_snoc M.fns k x hx
      have hsv := vN_snoc M.fns k x hx
      generalize hA : aN (M.fns.take k) = A at *
      generalize hV : vN (M.fns.take k) = V at *
      clear hA hV
      have sA : Hid (aN (M.fns.take (k + 1)) = A + x.code.length) := hsa
      have sV : Hid (vN (M.fns.take (k + 1)) = V + vC x.code) := hsv
      have hAI : (A : Int) ≤ 512 := by omega
      have hVI : (V : Int) ≤ 512 := by omega
      have hcI : (x.code.length : Int) ≤ 64 := by omega
      clear hsa hsv ha hv
      go_wp2
      have hxl2 := (hLr.later (boxed wr (objF x))).2.2.2.2.2.2 x hm
      clear hLr hxl hix c0 c1 c2 c3 hbl
      generalize wr.alloc (objF x) = W1 at *
      go_loopw [5, 6, 24] (fun a v i wr => ∃ q : Nat, q ≤ x.code.length ∧ i = .int .i64 q ∧ a = .int .i64 ((A : Int) + (q : Int)) ∧ v = .int .i64 ((V : Int) + (vC (x.code.take q) : Nat)) ∧ Below W1.heap.size W1 wr) (fun a v i _ => x.code.length - (intOf i).toNat)
      case atStart => exact ⟨0, Nat.zero_le _, rfl, by simp, by simp [vC], Below.refl _ _⟩
      case round =>
        obtain ⟨q, hq, rfl, rfl, rfl, hbq⟩ := hrel
        have hb5 := bthen hb4 hbq
        by_cases hlq : q < x.code.length
        · obtain ⟨y, hy, hym⟩ := get_lt x.code q hlq
          have hxq := hxl2.later hbq
          obtain ⟨bb, o, hix, hbl, c0, c1, c2, c3, c4⟩ := ins_ix hxq.1 q y hy
          have hop := (hxq.2.2.1 y hym).1
          have hvq := vC_le (x.code.take q)
          have hvs : Hid (vC (x.code.take (q + 1)) = vC (x.code.take q) + if prog.vis y.op = true then 1 else 0) := vC_snoc x.code q y hy
          rw [List.length_take] at hvq
          generalize vC (x.code.take q) = N at *
          have hNI : (N : Int) ≤ 64 := by omega
          clear hxq
          obtain ⟨vb, hvb⟩ : ∃ vb, Hid (prog.vis y.op = vb) := ⟨_, rfl⟩
          have hcv := prog.refvisible_any y.op hop.1 hop.2 (wr.alloc (objI y)) vb hvb.out
          have hbx : Below W1.heap.size W1 (wr.alloc (objI y)) := bthen hbq (boxed _ _)
          cases vb with
          | true =>
            go_wp2_with (go_at_call 36; (with_reducible refine hcv.mono ?_); rintro e w' ⟨rfl, rfl⟩)
            go_roundw
            case rel => exact ⟨q + 1, by omega, by go_num, by go_num, by rw [hvs.out, if_pos hvb.out]; go_num, hbx⟩
            case measure => simp [intOf]; omega
          | false =>
            go_wp2_with (go_at_call 36; (with_reducible refine hcv.mono ?_); rintro e w' ⟨rfl, rfl⟩)
            go_roundw
            case rel => exact ⟨q + 1, by omega, by go_num, by go_num, by rw [hvs.out, if_neg (by rw [hvb.out]; decide)]; go_num, hbx⟩
            case measure => simp [intOf]; omega
        · have hq2 : q = x.code.length := by omega
          have hfull : vC (x.code.take q) = vC x.code := by rw [hq2, List.take_length]
          have hH : Hid (vC (x.code.take q) = vC x.code) := hfull
          clear hfull
          subst hq2
          go_wp2
          go_roundw
          case rel => exact ⟨k + 1, by omega, by go_num, by rw [sA.out]; go_num, by rw [sV.out, hH.out]; go_num, hb5⟩
          case measure => simp [intOf]; omega
    · have hk2 : k = M.fns.length := by omega
      subst hk2
      have e1 : Hid (aN (M.fns.take M.fns.length) = aN M.fns) := by show _ = _; rw [hAt]
      have e2 : Hid (vN (M.fns.take M.fns.length) = vN M.fns) := by show _ = _; rw [hAt]
      clear hAt
      go_wp2
      go_ret3
      exact ⟨ret_3 (by rw [e1.out, e2.out]), hbr⟩
theorem count_wrong (M : MPr) (w : World) (hl : M.lies w) (hF : prog.Forms w) (hr : ¬ (chk insP M.pr).1 = 0) :
    Calls Tryd.prog 18 #[M.val] w fun e w' => e = .returned (.tuple #[.int .i64 0, .int .i64 0, .int .i64 3]) ∧ Below w.heap.size w w' := by
  obtain ⟨a, b, c, hc⟩ : ∃ a b c, Hid (chk insP M.pr = (a, b, c)) := ⟨_, _, _, rfl⟩
  have hb := boxed w (objP M)
  have hcall := check_any M _ (hl.later hb) (hF.later hb) a b c hc
  have ha : ¬ a = 0 := fun q => hr (by rw [hc.out]; exact q)
  clear hr hc hl hF
  go_enter Tryd.func18, Tryd.ntmps18
  go_wp2_with (go_at_call 20; (with_reducible refine hcall.mono ?_); rintro e w2 ⟨rfl, hb2⟩)
  go_ret3
  exact ⟨rfl, bthen (bthen hb hb2) (boxed _ _)⟩
theorem rcount_wrong (M : MPr) (w : World) (hl : M.lies w) (hr : ¬ (chk insR M.pr).1 = 0) :
    Calls Tryd.prog 19 #[M.val] w fun e w' => e = .returned (.tuple #[.int .i64 0, .int .i64 0, .int .i64 3]) ∧ Below w.heap.size w w' := by
  have hb := boxed w (objP M)
  have hcall := rright_any M _ (hl.later hb) false (decide_eq_false hr)
  clear hr hl
  go_enter Tryd.func19, Tryd.ntmps19
  go_wp2_with (go_at_call 21; (with_reducible refine hcall.mono ?_); rintro e w2 ⟨rfl, hb2⟩)
  go_ret3
  exact ⟨rfl, bthen hb hb2⟩
end Go.Proofs.YtpcobaoiglhkkaaDoor.pg
