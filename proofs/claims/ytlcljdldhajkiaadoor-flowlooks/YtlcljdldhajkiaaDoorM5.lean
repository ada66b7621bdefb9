/- The contracts of package prog's small looks at a program. -/
import Derived.Test.YtlcljdldhajkiaaDoorM4
import Derived.Test.YtlcljdldhajkiaaDoorM2
import Derived.Handy
import Derived.Deep.QuietTactic
import Derived.BigQuiet
namespace Go.Proofs.YtlcljdldhajkiaaDoor.pg
open Go.ChangeShapes Go.WideShapes Go.ChangeAt Go.RowKit
set_option linter.unusedVariables false
set_option linter.unusedSimpArgs false
set_option maxRecDepth 100000
theorem ret_b {a b : Bool} (h : a = b) : Ending.returned (.bool a) = .returned (.bool b) := by rw [h]
theorem ret_i {a b : Int} (h : a = b) : Ending.returned (.int .i64 a) = .returned (.int .i64 b) := by rw [h]
theorem between_t (x a b : Int) (w : World) (h : a ≤ x ∧ x ≤ b) : Calls Tryd.prog 67 #[.int .i64 x, .int .i64 a, .int .i64 b] w fun e w' => e = .returned (.bool true) ∧ w' = w := by
  obtain ⟨h1, h2⟩ := h
  go_enter Tryd.func67, Tryd.ntmps67
  go_wp2
  go_ret
  exact ⟨rfl, rfl⟩
theorem between_f (x a b : Int) (w : World) (h : x < a ∨ b < x) : Calls Tryd.prog 67 #[.int .i64 x, .int .i64 a, .int .i64 b] w fun e w' => e = .returned (.bool false) ∧ w' = w := by
  by_cases h1 : a ≤ x
  · have h2 : ¬ x ≤ b := by omega
    go_enter Tryd.func67, Tryd.ntmps67
    go_wp2
    go_ret
    exact ⟨rfl, rfl⟩
  · clear h
    go_enter Tryd.func67, Tryd.ntmps67
    go_wp2
    go_ret
    exact ⟨rfl, rfl⟩
theorem below_t (x n : Int) (w : World) (h : 0 ≤ x ∧ x < n) : Calls Tryd.prog 73 #[.int .i64 x, .int .i64 n] w fun e w' => e = .returned (.bool true) ∧ w' = w := by
  obtain ⟨h1, h2⟩ := h
  go_enter Tryd.func73, Tryd.ntmps73
  go_wp2
  go_ret
  exact ⟨rfl, rfl⟩
theorem below_f (x n : Int) (w : World) (h : x < 0 ∨ n ≤ x) : Calls Tryd.prog 73 #[.int .i64 x, .int .i64 n] w fun e w' => e = .returned (.bool false) ∧ w' = w := by
  by_cases h1 : 0 ≤ x
  · have h2 : ¬ x < n := by omega
    go_enter Tryd.func73, Tryd.ntmps73
    go_wp2
    go_ret
    exact ⟨rfl, rfl⟩
  · clear h
    go_enter Tryd.func73, Tryd.ntmps73
    go_wp2
    go_ret
    exact ⟨rfl, rfl⟩
theorem unless_any (b : Bool) (e0 : Int) (w : World) : Calls Tryd.prog 76 #[.bool b, .int .i64 e0] w fun e w' => e = .returned (.int .i64 (if b = true then 0 else e0)) ∧ w' = w := by
  cases b
  all_goals
    go_enter Tryd.func76, Tryd.ntmps76
    go_wp2
    go_ret
    exact ⟨by simp, rfl⟩
theorem roomFor_any (k first regs : Int) (w : World) (hk : I64 k) (hf : I64 first) (h0 : 0 ≤ regs) (h8 : regs ≤ 8) (r : Bool) (hr : Hid (decide (roomP k first regs) = r)) :
    Calls Tryd.prog 77 #[.int .i64 k, .int .i64 first, .int .i64 regs] w fun e w' => e = .returned (.bool r) ∧ w' = w := by
  unfold I64 at hk hf
  obtain ⟨k1, k2⟩ := hk
  obtain ⟨f1, f2⟩ := hf
  by_cases hz : k = 0
  · subst hz
    go_enter Tryd.func77, Tryd.ntmps77
    go_wp2
    go_ret
    exact ⟨ret_b (by rw [← hr.out]; simp [roomP]; rfl), rfl⟩
  · by_cases hn : first < 0
    · go_enter Tryd.func77, Tryd.ntmps77
      go_wp2
      go_ret
      exact ⟨ret_b (by rw [← hr.out]; simp [roomP, hz, hn]), rfl⟩
    · by_cases hp : 0 < k
      · go_enter Tryd.func77, Tryd.ntmps77
        go_wp2
        go_ret
        refine ⟨ret_b ?_, rfl⟩
        rw [← hr.out]
        rw [decide_eq_decide]
        unfold roomP
        rw [if_neg hz, if_neg (show ¬ first < 0 by omega)]
        omega
      · go_enter Tryd.func77, Tryd.ntmps77
        go_wp2
        go_ret
        refine ⟨ret_b ?_, rfl⟩
        rw [← hr.out]
        rw [decide_eq_decide]
        unfold roomP
        rw [if_neg hz, if_neg (show ¬ first < 0 by omega)]
/-- What a new box is: its cells, and that all else lies as it lay. -/
theorem boxed (w : World) (o : Obj) : Below w.heap.size w (w.alloc o) := (Below.refl _ _).alloc (Nat.le_refl _) _
theorem checkSizes_any (M : MPr) (w : World) (h : M.lies w) (r : Int) (hr : Hid (sizesE M.pr = r)) :
    Calls Tryd.prog 60 #[M.val] w fun e w' => e = .returned (.int .i64 r) ∧ Below w.heap.size w w' := by
  have no : ¬ (M.vars.length ≤ 8 ∧ (0 ≤ M.locks ∧ M.locks ≤ 4) ∧ M.chans.length ≤ 4 ∧ (1 ≤ M.fns.length ∧ M.fns.length ≤ 8)) → r = 30 := fun hn => by
    rw [← hr.out]; unfold sizesE; rw [if_neg]; simpa [MPr.pr] using hn
  by_cases h1 : (M.vars.length : Int) ≤ 8
  · by_cases h2 : 0 ≤ M.locks ∧ M.locks ≤ 4
    · by_cases h3 : (M.chans.length : Int) ≤ 4
      · by_cases h4 : (1 : Int) ≤ M.fns.length ∧ (M.fns.length : Int) ≤ 8
        · have hb := boxed w (.cells #[.slice M.va M.vars.length M.vcap, .int .i64 M.locks, .slice M.cha M.chans.length M.chcap, .slice M.fa M.fns.length M.fcap] 26)
          have hL := h.later hb
          have hw : sizesE M.pr = firstE (fun c => if 0 ≤ c ∧ c ≤ 4 then 0 else 31) M.chans := by
            unfold sizesE; rw [if_pos]; rfl; simp [MPr.pr]; omega
          go_enter Tryd.func60, Tryd.ntmps60
          go_wp2_with (go_at_call 67; with_reducible refine (between_t _ _ _ _ (by omega)).mono ?_; rintro e w' ⟨rfl, rfl⟩)
          generalize w.alloc (.cells #[.slice M.va M.vars.length M.vcap, .int .i64 M.locks, .slice M.cha M.chans.length M.chcap, .slice M.fa M.fns.length M.fcap] 26) = W at *
          go_loop [31] (fun i => ∃ k : Nat, k ≤ M.chans.length ∧ i = .int .i64 k ∧ ∀ j y, j < k → M.chans[j]? = some y → 0 ≤ y ∧ y ≤ 4) (fun i => M.chans.length - (intOf i).toNat)
          case atStart => exact ⟨0, Nat.zero_le _, rfl, fun j y hj => by omega⟩
          case round =>
            obtain ⟨k, hk, rfl, hall⟩ := hrel
            by_cases hlt : k < M.chans.length
            · obtain ⟨x, hx, hm⟩ := get_lt M.chans k hlt
              obtain ⟨b, o, hix, _, hc⟩ := ch_ix hL.2.1 k x hx
              by_cases hx4 : 0 ≤ x ∧ x ≤ 4
              · go_wp2_with (go_at_call 67; with_reducible refine (between_t _ _ _ _ (by omega)).mono ?_; rintro e w' ⟨rfl, rfl⟩)
                go_round
                case rel => exact ⟨k + 1, by omega, by go_num, fun j y hj hy => by
                  by_cases hjk : j = k
                  · subst hjk; rw [hx] at hy; cases hy; exact hx4
                  · exact hall j y (by omega) hy⟩
                case measure => simp [intOf]; omega
              · have hv : Hid (r = 31) := by
                  show r = _
                  rw [← hr.out, hw, firstE_hit _ _ k x hx (fun i y hi hy => if_pos (hall i y hi hy)) (by simp [hx4])]
                  exact if_neg hx4
                go_wp2_with (go_at_call 67; with_reducible refine (between_f _ _ _ _ (by omega)).mono ?_; rintro e w' ⟨rfl, rfl⟩)
                go_ret
                exact ⟨ret_i hv.out.symm, hb⟩
            · have hv : Hid (r = 0) := by
                show r = _
                rw [← hr.out, hw]
                refine firstE_zero _ _ fun x hx => ?_
                obtain ⟨j, hj, rfl⟩ := List.getElem_of_mem hx
                exact if_pos (hall j _ (by omega) (List.getElem?_eq_getElem hj))
              go_wp2
              go_ret
              exact ⟨ret_i hv.out.symm, hb⟩
        · have hv : Hid _ := no (by omega)
          go_enter Tryd.func60, Tryd.ntmps60
          go_wp2_with (go_at_call 67; first | (with_reducible refine (between_t _ _ _ _ (by omega)).mono ?_; rintro e w' ⟨rfl, rfl⟩) | (with_reducible refine (between_f _ _ _ _ (by omega)).mono ?_; rintro e w' ⟨rfl, rfl⟩))
          go_ret
          exact ⟨ret_i hv.out.symm, boxed _ _⟩
      · have hv : Hid _ := no (by omega)
        go_enter Tryd.func60, Tryd.ntmps60
        go_wp2_with (go_at_call 67; (with_reducible refine (between_t _ _ _ _ (by omega)).mono ?_; rintro e w' ⟨rfl, rfl⟩))
        go_ret
        exact ⟨ret_i hv.out.symm, boxed _ _⟩
    · have hv : Hid _ := no (by omega)
      go_enter Tryd.func60, Tryd.ntmps60
      go_wp2_with (go_at_call 67; (with_reducible refine (between_f _ _ _ _ (by omega)).mono ?_; rintro e w' ⟨rfl, rfl⟩))
      go_ret
      exact ⟨ret_i hv.out.symm, boxed _ _⟩
  · have hv : Hid _ := no (by omega)
    go_enter Tryd.func60, Tryd.ntmps60
    go_wp2
    go_ret
    exact ⟨ret_i hv.out.symm, boxed _ _⟩
theorem shaped_any (M : MFn) (w : World) (h : M.lies w) (r : Bool) (hr : Hid (decide (shaped M.fn) = r)) :
    Calls Tryd.prog 68 #[M.val] w fun e w' => e = .returned (.bool r) ∧ Below w.heap.size w w' := by
  have no : ¬ ((0 ≤ M.regs ∧ M.regs ≤ 8) ∧ (0 ≤ M.params ∧ M.params ≤ M.regs) ∧ (1 ≤ M.code.length ∧ M.code.length ≤ 64) ∧ M.sels.length ≤ 4) → r = false := fun hn => by
    rw [← hr.out, decide_eq_false_iff_not]
    intro ⟨a, b, c, d, e⟩
    simp only [MFn.fn, List.length_map] at a b c d
    exact hn ⟨a, b, c, d⟩
  by_cases h1 : 0 ≤ M.regs ∧ M.regs ≤ 8
  · by_cases h2 : 0 ≤ M.params ∧ M.params ≤ M.regs
    · by_cases h3 : (1 : Int) ≤ M.code.length ∧ (M.code.length : Int) ≤ 64
      · by_cases h4 : (M.sels.length : Int) ≤ 4
        · have hb := boxed w (.cells #[.int .i64 M.params, .int .i64 M.regs, .slice M.ca M.code.length M.ccap, .slice M.sa M.sels.length M.scap] 62)
          have hL := h.later hb
          have hsz : w.heap.size < (w.alloc (.cells #[.int .i64 M.params, .int .i64 M.regs, .slice M.ca M.code.length M.ccap, .slice M.sa M.sels.length M.scap] 62)).heap.size := by simp
          go_enter Tryd.func68, Tryd.ntmps68
          go_wp2_with (go_at_call 67; with_reducible refine (between_t _ _ _ _ (by omega)).mono ?_; rintro e w' ⟨rfl, rfl⟩)
          generalize w.alloc (.cells #[.int .i64 M.params, .int .i64 M.regs, .slice M.ca M.code.length M.ccap, .slice M.sa M.sels.length M.scap] 62) = W at *
          go_loopw [33] (fun i wr => ∃ k : Nat, k ≤ M.sels.length ∧ i = .int .i64 k ∧ (∀ j y, j < k → M.sels[j]? = some y → 1 ≤ y.cases.length ∧ y.cases.length ≤ 4) ∧ Below W.heap.size W wr) (fun i _ => M.sels.length - (intOf i).toNat)
          case atStart => exact ⟨0, Nat.zero_le _, rfl, fun j y hj => by omega, Below.refl _ _⟩
          case round =>
            obtain ⟨k, hk, rfl, hall, hbr⟩ := hrel
            by_cases hlt : k < M.sels.length
            · obtain ⟨x, hx, hm⟩ := get_lt M.sels k hlt
              have hLr := hL.later hbr
              obtain ⟨b, o, hix, hbl, hc0, hc1⟩ := sel_ix hLr.2.1 k x hx
              by_cases hx4 : (1 : Int) ≤ x.cases.length ∧ (x.cases.length : Int) ≤ 4
              · go_wp2_with (go_at_call 67; with_reducible refine (between_t _ _ _ _ (by omega)).mono ?_; rintro e w' ⟨rfl, rfl⟩)
                go_roundw
                case rel => exact ⟨k + 1, by omega, by go_num, (fun j y hj hy => by
                  by_cases hjk : j = k
                  · subst hjk; rw [hx] at hy; cases hy; omega
                  · exact hall j y (by omega) hy), hbr.trans ((boxed _ _).mono hbr.size)⟩
                case measure => simp [intOf]; omega
              · have hv : Hid (r = false) := by
                  show r = _
                  rw [← hr.out, decide_eq_false_iff_not]
                  intro ⟨_, _, _, _, e⟩
                  have := e x.sel (by simp only [MFn.fn, List.mem_map]; exact ⟨x, hm, rfl⟩)
                  simp only [MSel.sel] at this
                  omega
                go_wp2_with (go_at_call 67; with_reducible refine (between_f _ _ _ _ (by omega)).mono ?_; rintro e w' ⟨rfl, rfl⟩)
                go_ret
                exact ⟨ret_b hv.out.symm, hb.trans ((hbr.trans ((boxed _ _).mono hbr.size)).mono (by omega))⟩
            · have hv : Hid (r = true) := by
                show r = _
                rw [← hr.out, decide_eq_true_iff]
                refine ⟨h1, h2, by simp only [MFn.fn]; omega, by simp only [MFn.fn, List.length_map]; omega, fun s hs => ?_⟩
                simp only [MFn.fn, List.mem_map] at hs
                obtain ⟨y, hy, rfl⟩ := hs
                obtain ⟨j, hj, rfl⟩ := List.getElem_of_mem hy
                exact hall j _ (by omega) (List.getElem?_eq_getElem hj)
              go_wp2
              go_ret
              exact ⟨ret_b hv.out.symm, hb.trans (hbr.mono (by omega))⟩
        · have hv : Hid _ := no (by omega)
          go_enter Tryd.func68, Tryd.ntmps68
          go_wp2_with (go_at_call 67; (with_reducible refine (between_t _ _ _ _ (by omega)).mono ?_; rintro e w' ⟨rfl, rfl⟩))
          go_ret
          exact ⟨ret_b hv.out.symm, boxed _ _⟩
      · have hv : Hid _ := no (by omega)
        go_enter Tryd.func68, Tryd.ntmps68
        go_wp2_with (go_at_call 67; first | (with_reducible refine (between_t _ _ _ _ (by omega)).mono ?_; rintro e w' ⟨rfl, rfl⟩) | (with_reducible refine (between_f _ _ _ _ (by omega)).mono ?_; rintro e w' ⟨rfl, rfl⟩))
        go_ret
        exact ⟨ret_b hv.out.symm, boxed _ _⟩
    · have hv : Hid _ := no (by omega)
      go_enter Tryd.func68, Tryd.ntmps68
      go_wp2_with (go_at_call 67; first | (with_reducible refine (between_f _ _ _ _ (by omega)).mono ?_; rintro e w' ⟨rfl, rfl⟩) | (with_reducible refine (between_t _ _ _ _ (by omega)).mono ?_; rintro e w' ⟨rfl, rfl⟩))
      go_ret
      exact ⟨ret_b hv.out.symm, boxed _ _⟩
  · have hv : Hid _ := no (by omega)
    go_enter Tryd.func68, Tryd.ntmps68
    go_wp2_with (go_at_call 67; (with_reducible refine (between_f _ _ _ _ (by omega)).mono ?_; rintro e w' ⟨rfl, rfl⟩))
    go_ret
    exact ⟨ret_b hv.out.symm, boxed _ _⟩
theorem sel_room (M : MPr) (k : Nat) (x : Int) (hx : M.chans[k]? = some x) : M.pr.room (k : Int) = x := by
  simp [Pr.room, MPr.pr, hx]
theorem boxed2 (w : World) (o1 o2 : Obj) : Below w.heap.size w ((w.alloc o1).alloc o2) := (boxed w o1).trans ((boxed _ _).mono (boxed w o1).size)
theorem boxed3 (w : World) (o1 o2 o3 : Obj) : Below w.heap.size w (((w.alloc o1).alloc o2).alloc o3) := (boxed2 w o1 o2).trans ((boxed _ _).mono (boxed2 w o1 o2).size)
theorem cell3 {w : World} {a : Addr} {v : Value} (h : w.cell? a = some v) (o1 o2 o3 : Obj) : (((w.alloc o1).alloc o2).alloc o3).cell? a = some v := cell_later (boxed3 w o1 o2 o3) h
set_option maxHeartbeats 1000000 in
theorem checkCase_any (M : MPr) (f : MFn) (c : Cas) (w : World) (h : M.lies w) (r : Int) (hr : Hid (casE M.pr f.fn c = r)) :
    Calls Tryd.prog 72 #[M.val, f.val, c.val] w fun e w' => e = .returned (.int .i64 r) ∧ Below w.heap.size w w' := by
  by_cases h1 : 0 ≤ c.ch ∧ c.ch < M.chans.length
  · have q1 : Hid (inR c.ch M.pr.chans.length) := h1
    obtain ⟨k, hk⟩ : ∃ k : Nat, c.ch = (k : Int) := ⟨c.ch.toNat, by omega⟩
    obtain ⟨x, hx, hm⟩ := get_lt M.chans k (by omega)
    have hrm : Hid (M.pr.room c.ch = x) := by rw [hk]; exact sel_room M k x hx
    obtain ⟨b, o, hix, hbl, hcl⟩ := ch_ix h.2.1 k x hx
    rw [← hk] at hix
    replace hcl := cell3 hcl
    clear hx hm hk h
    by_cases h2 : 0 ≤ c.reg ∧ c.reg < f.regs
    · have q2 : Hid (inR c.reg f.fn.regs ∨ c.reg = -1 ∧ c.send = false) := .inl h2
      have hn : ¬ c.reg = -1 := by omega
      by_cases h4 : 0 ≤ c.to ∧ c.to < f.code.length
      · have q4 : Hid (inR c.to f.fn.code.length) := h4
        cases hs : c.send with
        | true =>
          by_cases h3 : x = 0
          · have hv : Hid (r = 37) := hr.out.symm.trans (casE_kind q1.out q2.out ⟨hs, hrm.out.trans h3⟩)
            go_enter Tryd.func72, Tryd.ntmps72
            go_wp2_with (go_at_call 73; first | (with_reducible refine (below_t _ _ _ (by omega)).mono ?_; rintro e w' ⟨rfl, rfl⟩) | (with_reducible refine (below_f _ _ _ (by omega)).mono ?_; rintro e w' ⟨rfl, rfl⟩))
            go_ret
            exact ⟨ret_i hv.out.symm, boxed3 _ _ _ _⟩
          · have hv : Hid (r = 0) := hr.out.symm.trans (casE_ok q1.out q2.out (fun q => h3 (hrm.out.symm.trans q.2)) q4.out)
            go_enter Tryd.func72, Tryd.ntmps72
            go_wp2_with (go_at_call 73; first | (with_reducible refine (below_t _ _ _ (by omega)).mono ?_; rintro e w' ⟨rfl, rfl⟩) | (with_reducible refine (below_f _ _ _ (by omega)).mono ?_; rintro e w' ⟨rfl, rfl⟩))
            go_ret
            exact ⟨ret_i hv.out.symm, boxed3 _ _ _ _⟩
        | false =>
          have hv : Hid (r = 0) := hr.out.symm.trans (casE_ok q1.out q2.out (fun q => by rw [hs] at q; simp at q) q4.out)
          go_enter Tryd.func72, Tryd.ntmps72
          go_wp2_with (go_at_call 73; first | (with_reducible refine (below_t _ _ _ (by omega)).mono ?_; rintro e w' ⟨rfl, rfl⟩) | (with_reducible refine (below_f _ _ _ (by omega)).mono ?_; rintro e w' ⟨rfl, rfl⟩))
          go_ret
          exact ⟨ret_i hv.out.symm, boxed3 _ _ _ _⟩
      · cases hs : c.send with
        | true =>
          by_cases h3 : x = 0
          · have hv : Hid (r = 37) := hr.out.symm.trans (casE_kind q1.out q2.out ⟨hs, hrm.out.trans h3⟩)
            go_enter Tryd.func72, Tryd.ntmps72
            go_wp2_with (go_at_call 73; first | (with_reducible refine (below_t _ _ _ (by omega)).mono ?_; rintro e w' ⟨rfl, rfl⟩) | (with_reducible refine (below_f _ _ _ (by omega)).mono ?_; rintro e w' ⟨rfl, rfl⟩))
            go_ret
            exact ⟨ret_i hv.out.symm, boxed3 _ _ _ _⟩
          · have hv : Hid (r = 38) := hr.out.symm.trans (casE_target q1.out q2.out (fun q => h3 (hrm.out.symm.trans q.2)) h4)
            go_enter Tryd.func72, Tryd.ntmps72
            go_wp2_with (go_at_call 73; first | (with_reducible refine (below_t _ _ _ (by omega)).mono ?_; rintro e w' ⟨rfl, rfl⟩) | (with_reducible refine (below_f _ _ _ (by omega)).mono ?_; rintro e w' ⟨rfl, rfl⟩))
            go_ret
            exact ⟨ret_i hv.out.symm, boxed3 _ _ _ _⟩
        | false =>
          have hv : Hid (r = 38) := hr.out.symm.trans (casE_target q1.out q2.out (fun q => by rw [hs] at q; simp at q) h4)
          go_enter Tryd.func72, Tryd.ntmps72
          go_wp2_with (go_at_call 73; first | (with_reducible refine (below_t _ _ _ (by omega)).mono ?_; rintro e w' ⟨rfl, rfl⟩) | (with_reducible refine (below_f _ _ _ (by omega)).mono ?_; rintro e w' ⟨rfl, rfl⟩))
          go_ret
          exact ⟨ret_i hv.out.symm, boxed3 _ _ _ _⟩
    · by_cases hn : c.reg = -1
      · cases hs : c.send with
        | true =>
          have hv : Hid (r = 35) := hr.out.symm.trans (casE_reg q1.out (fun q => q.elim h2 fun q => by rw [hs] at q; simp at q))
          go_enter Tryd.func72, Tryd.ntmps72
          go_wp2_with (go_at_call 73; first | (with_reducible refine (below_t _ _ _ (by omega)).mono ?_; rintro e w' ⟨rfl, rfl⟩) | (with_reducible refine (below_f _ _ _ (by omega)).mono ?_; rintro e w' ⟨rfl, rfl⟩))
          go_ret
          exact ⟨ret_i hv.out.symm, boxed3 _ _ _ _⟩
        | false =>
          by_cases h4 : 0 ≤ c.to ∧ c.to < f.code.length
          · have hv : Hid (r = 0) := hr.out.symm.trans (casE_ok q1.out (.inr ⟨hn, hs⟩) (fun q => by rw [hs] at q; simp at q) h4)
            go_enter Tryd.func72, Tryd.ntmps72
            go_wp2_with (go_at_call 73; first | (with_reducible refine (below_t _ _ _ (by omega)).mono ?_; rintro e w' ⟨rfl, rfl⟩) | (with_reducible refine (below_f _ _ _ (by omega)).mono ?_; rintro e w' ⟨rfl, rfl⟩))
            go_ret
            exact ⟨ret_i hv.out.symm, boxed3 _ _ _ _⟩
          · have hv : Hid (r = 38) := hr.out.symm.trans (casE_target q1.out (.inr ⟨hn, hs⟩) (fun q => by rw [hs] at q; simp at q) h4)
            go_enter Tryd.func72, Tryd.ntmps72
            go_wp2_with (go_at_call 73; first | (with_reducible refine (below_t _ _ _ (by omega)).mono ?_; rintro e w' ⟨rfl, rfl⟩) | (with_reducible refine (below_f _ _ _ (by omega)).mono ?_; rintro e w' ⟨rfl, rfl⟩))
            go_ret
            exact ⟨ret_i hv.out.symm, boxed3 _ _ _ _⟩
      · have hv : Hid (r = 35) := hr.out.symm.trans (casE_reg q1.out (fun q => q.elim h2 fun q => hn q.1))
        go_enter Tryd.func72, Tryd.ntmps72
        go_wp2_with (go_at_call 73; first | (with_reducible refine (below_t _ _ _ (by omega)).mono ?_; rintro e w' ⟨rfl, rfl⟩) | (with_reducible refine (below_f _ _ _ (by omega)).mono ?_; rintro e w' ⟨rfl, rfl⟩))
        go_ret
        exact ⟨ret_i hv.out.symm, boxed3 _ _ _ _⟩
  · have hv : Hid (r = 36) := hr.out.symm.trans (casE_obj h1)
    go_enter Tryd.func72, Tryd.ntmps72
    go_wp2_with (go_at_call 73; first | (with_reducible refine (below_t _ _ _ (by omega)).mono ?_; rintro e w' ⟨rfl, rfl⟩) | (with_reducible refine (below_f _ _ _ (by omega)).mono ?_; rintro e w' ⟨rfl, rfl⟩))
    all_goals
      go_ret
      exact ⟨ret_i hv.out.symm, boxed3 _ _ _ _⟩
end Go.Proofs.YtlcljdldhajkiaaDoor.pg
/- Boxes of a program's parts; the contracts of package prog's looks at selects and instructions. -/
namespace Go.Proofs.YtlcljdldhajkiaaDoor.pg
open Go.ChangeShapes Go.WideShapes Go.ChangeAt Go.RowKit
set_option linter.unusedVariables false
set_option linter.unusedSimpArgs false
set_option maxRecDepth 100000
theorem rows_len {α : Type} {w : World} {k : Nat} {a : Option Addr} {cap : Nat} {l : List α} {C : α → List Value} (h : Rows w k a cap (l.map C)) : (l.length : Int) ≤ 9223372036854775807 := by
  have h1 := h.1
  have h2 := h.2.1
  rw [List.length_map] at h1
  omega
theorem bthen {w a b : World} (h : Below w.heap.size w a) (k : Below a.heap.size a b) : Below w.heap.size w b := h.trans (k.mono h.size)
/-- A box of its own, and what lies in it. -/
abbrev objP (x : MPr) : Obj := .cells #[.slice x.va x.vars.length x.vcap, .int .i64 x.locks, .slice x.cha x.chans.length x.chcap, .slice x.fa x.fns.length x.fcap] 26
def BoxP (w : World) (B : Nat) (x : MPr) : Prop := w.cell? ⟨B, 0, none⟩ = some (.slice x.va x.vars.length x.vcap) ∧ w.cell? ⟨B, 1, none⟩ = some (.int .i64 x.locks) ∧ w.cell? ⟨B, 2, none⟩ = some (.slice x.cha x.chans.length x.chcap) ∧ w.cell? ⟨B, 3, none⟩ = some (.slice x.fa x.fns.length x.fcap)
theorem BoxP.later {w w' : World} {B : Nat} {x : MPr} (h : BoxP w B x) (hb : Below w.heap.size w w') : BoxP w' B x := ⟨cell_later hb (h.1), cell_later hb (h.2.1), cell_later hb (h.2.2.1), cell_later hb (h.2.2.2)⟩
theorem BoxP.lt {w : World} {B : Nat} {x : MPr} (h : BoxP w B x) : B < w.heap.size := World.block_lt_of_cell? _ _ h.1
theorem boxP_new (w : World) (x : MPr) : BoxP (w.alloc (objP x)) w.heap.size x := by
  refine ⟨?_, ?_, ?_, ?_⟩ <;> exact World.cell?_alloc_at _ _ _ _ rfl
/-- A box of its own, and what lies in it. -/
abbrev objF (x : MFn) : Obj := .cells #[.int .i64 x.params, .int .i64 x.regs, .slice x.ca x.code.length x.ccap, .slice x.sa x.sels.length x.scap] 62
def BoxF (w : World) (B : Nat) (x : MFn) : Prop := w.cell? ⟨B, 0, none⟩ = some (.int .i64 x.params) ∧ w.cell? ⟨B, 1, none⟩ = some (.int .i64 x.regs) ∧ w.cell? ⟨B, 2, none⟩ = some (.slice x.ca x.code.length x.ccap) ∧ w.cell? ⟨B, 3, none⟩ = some (.slice x.sa x.sels.length x.scap)
theorem BoxF.later {w w' : World} {B : Nat} {x : MFn} (h : BoxF w B x) (hb : Below w.heap.size w w') : BoxF w' B x := ⟨cell_later hb (h.1), cell_later hb (h.2.1), cell_later hb (h.2.2.1), cell_later hb (h.2.2.2)⟩
theorem BoxF.lt {w : World} {B : Nat} {x : MFn} (h : BoxF w B x) : B < w.heap.size := World.block_lt_of_cell? _ _ h.1
theorem boxF_new (w : World) (x : MFn) : BoxF (w.alloc (objF x)) w.heap.size x := by
  refine ⟨?_, ?_, ?_, ?_⟩ <;> exact World.cell?_alloc_at _ _ _ _ rfl
/-- A box of its own, and what lies in it. -/
abbrev objS (x : MSel) : Obj := .cells #[.slice x.at_ x.cases.length x.cap, .int .i64 x.els] 76
def BoxS (w : World) (B : Nat) (x : MSel) : Prop := w.cell? ⟨B, 0, none⟩ = some (.slice x.at_ x.cases.length x.cap) ∧ w.cell? ⟨B, 1, none⟩ = some (.int .i64 x.els)
theorem BoxS.later {w w' : World} {B : Nat} {x : MSel} (h : BoxS w B x) (hb : Below w.heap.size w w') : BoxS w' B x := ⟨cell_later hb (h.1), cell_later hb (h.2)⟩
theorem BoxS.lt {w : World} {B : Nat} {x : MSel} (h : BoxS w B x) : B < w.heap.size := World.block_lt_of_cell? _ _ h.1
theorem boxS_new (w : World) (x : MSel) : BoxS (w.alloc (objS x)) w.heap.size x := by
  refine ⟨?_, ?_⟩ <;> exact World.cell?_alloc_at _ _ _ _ rfl
/-- A box of its own, and what lies in it. -/
abbrev objC (x : Cas) : Obj := .cells #[.bool x.send, .int .i64 x.ch, .int .i64 x.reg, .int .i64 x.to] 78
def BoxC (w : World) (B : Nat) (x : Cas) : Prop := w.cell? ⟨B, 0, none⟩ = some (.bool x.send) ∧ w.cell? ⟨B, 1, none⟩ = some (.int .i64 x.ch) ∧ w.cell? ⟨B, 2, none⟩ = some (.int .i64 x.reg) ∧ w.cell? ⟨B, 3, none⟩ = some (.int .i64 x.to)
theorem BoxC.later {w w' : World} {B : Nat} {x : Cas} (h : BoxC w B x) (hb : Below w.heap.size w w') : BoxC w' B x := ⟨cell_later hb (h.1), cell_later hb (h.2.1), cell_later hb (h.2.2.1), cell_later hb (h.2.2.2)⟩
theorem BoxC.lt {w : World} {B : Nat} {x : Cas} (h : BoxC w B x) : B < w.heap.size := World.block_lt_of_cell? _ _ h.1
theorem boxC_new (w : World) (x : Cas) : BoxC (w.alloc (objC x)) w.heap.size x := by
  refine ⟨?_, ?_, ?_, ?_⟩ <;> exact World.cell?_alloc_at _ _ _ _ rfl
/-- A box of its own, and what lies in it. -/
abbrev objI (x : Ins) : Obj := .cells #[.int .i64 x.op, .int .i64 x.a, .int .i64 x.b, .int .i64 x.c, .int .i64 x.n] 70
def BoxI (w : World) (B : Nat) (x : Ins) : Prop := w.cell? ⟨B, 0, none⟩ = some (.int .i64 x.op) ∧ w.cell? ⟨B, 1, none⟩ = some (.int .i64 x.a) ∧ w.cell? ⟨B, 2, none⟩ = some (.int .i64 x.b) ∧ w.cell? ⟨B, 3, none⟩ = some (.int .i64 x.c) ∧ w.cell? ⟨B, 4, none⟩ = some (.int .i64 x.n)
theorem BoxI.later {w w' : World} {B : Nat} {x : Ins} (h : BoxI w B x) (hb : Below w.heap.size w w') : BoxI w' B x := ⟨cell_later hb (h.1), cell_later hb (h.2.1), cell_later hb (h.2.2.1), cell_later hb (h.2.2.2.1), cell_later hb (h.2.2.2.2)⟩
theorem BoxI.lt {w : World} {B : Nat} {x : Ins} (h : BoxI w B x) : B < w.heap.size := World.block_lt_of_cell? _ _ h.1
theorem boxI_new (w : World) (x : Ins) : BoxI (w.alloc (objI x)) w.heap.size x := by
  refine ⟨?_, ?_, ?_, ?_, ?_⟩ <;> exact World.cell?_alloc_at _ _ _ _ rfl
theorem selE_cas {P : Pr} {f : Fn} {s : Sel} {e : Int} (h : firstE (casE P f) s.cases = e) (he : e ≠ 0) : selE P f s = e := by unfold selE; rw [if_neg (by rw [h]; exact he), h]
theorem selE_else {P : Pr} {f : Fn} {s : Sel} (h : firstE (casE P f) s.cases = 0) (he : ¬ (s.els = -1 ∨ inR s.els f.code.length)) : selE P f s = 38 := by unfold selE; rw [if_pos h, if_neg he]
theorem selE_ok {P : Pr} {f : Fn} {s : Sel} (h : firstE (casE P f) s.cases = 0) (he : s.els = -1 ∨ inR s.els f.code.length) : selE P f s = 0 := by unfold selE; rw [if_pos h, if_pos he]
set_option maxHeartbeats 1000000 in
theorem checkSelect_any (M : MPr) (f : MFn) (s : MSel) (w : World) (h : M.lies w) (hs : s.lies w) (r : Int) (hr : Hid (selE M.pr f.fn s.sel = r)) :
    Calls Tryd.prog 69 #[M.val, f.val, s.val] w fun e w' => e = .returned (.int .i64 r) ∧ Below w.heap.size w w' := by
  have hb1 := boxed w (objP M)
  have hb2 := boxed (w.alloc (objP M)) (objF f)
  have hb3 := boxed ((w.alloc (objP M)).alloc (objF f)) (objS s)
  have hb := boxed3 w (objP M) (objF f) (objS s)
  have bP := ((boxP_new w M).later hb2).later hb3
  have bF := (boxF_new (w.alloc (objP M)) f).later hb3
  have bS := boxS_new ((w.alloc (objP M)).alloc (objF f)) s
  have hL := h.later hb
  have hS := hs.later hb
  clear hb1 hb2 hb3
  simp only [World.size_alloc] at bF bS
  have hln := rows_len hs.1
  have hz : w.heap.size + 1 + 1 < (((w.alloc (objP M)).alloc (objF f)).alloc (objS s)).heap.size := by simp only [World.size_alloc]; omega
  go_enter Tryd.func69, Tryd.ntmps69
  go_wp2
  generalize ((w.alloc (objP M)).alloc (objF f)).alloc (objS s) = W at *
  go_loopw [13] (fun i wr => ∃ k : Nat, k ≤ s.cases.length ∧ i = .int .i64 k ∧ (∀ j y, j < k → s.cases[j]? = some y → casE M.pr f.fn y = 0) ∧ Below W.heap.size W wr) (fun i _ => s.cases.length - (intOf i).toNat)
  case atStart => exact ⟨0, Nat.zero_le _, rfl, fun j y hj => by omega, Below.refl _ _⟩
  case round =>
    obtain ⟨k, hk, rfl, hall, hbr⟩ := hrel
    obtain ⟨p0, p1, p2, p3⟩ := bP.later hbr
    obtain ⟨f0, f1, f2, f3⟩ := bF.later hbr
    obtain ⟨s0, s1⟩ := bS.later hbr
    have z := hbr.size
    have z0 : w.heap.size < wr.heap.size := by omega
    have z1 : w.heap.size + 1 < wr.heap.size := by omega
    have z2 : w.heap.size + 1 + 1 < wr.heap.size := by omega
    have hbw : Below w.heap.size w wr := hb.trans (hbr.mono (by omega))
    by_cases hlt : k < s.cases.length
    · obtain ⟨x, hx, hm⟩ := get_lt s.cases k hlt
      have hLr := hL.later hbr
      have hSr := hS.later hbr
      obtain ⟨b, o, hix, hbl, c0, c1, c2, c3⟩ := cas_ix hSr.1 k x hx
      have hLa := hLr.later (boxed wr (objC x))
      obtain ⟨e, he⟩ : ∃ e, Hid (casE M.pr f.fn x = e) := ⟨_, rfl⟩
      have hcall := checkCase_any M f x _ hLa e he
      have hbx : Below w.heap.size w (wr.alloc (objC x)) := bthen hbw (boxed wr (objC x))
      have hbW : Below W.heap.size W (wr.alloc (objC x)) := bthen hbr (boxed wr (objC x))
      clear hLa hLr hSr bP bF bS hL hS h hs
      by_cases h0 : e = 0
      · subst h0
        go_wp2_with (go_at_call 72; (with_reducible refine hcall.mono ?_); rintro e w2 ⟨rfl, hb2⟩)
        go_roundw
        case rel => exact ⟨k + 1, by omega, by go_num, (fun j y hj hy => by
          by_cases hjk : j = k
          · subst hjk; rw [hx] at hy; cases hy; exact he.out
          · exact hall j y (by omega) hy), bthen hbW hb2⟩
        case measure => simp [intOf]; omega
      · have hv : Hid (r = e) := hr.out.symm.trans (selE_cas ((firstE_hit _ _ k x hx hall (by rw [he.out]; exact h0)).trans he.out) h0)
        go_wp2_with (go_at_call 72; (with_reducible refine hcall.mono ?_); rintro e w2 ⟨rfl, hb2⟩)
        go_ret
        exact ⟨ret_i hv.out.symm, bthen hbx hb2⟩
    · have hz0 : Hid (firstE (casE M.pr f.fn) s.sel.cases = 0) := firstE_zero _ _ fun x hx => by
        obtain ⟨j, hj, rfl⟩ := List.getElem_of_mem hx
        exact hall j _ (by have : j < s.cases.length := hj; omega) (List.getElem?_eq_getElem hj)
      clear hall bP bF bS hL hS h hs
      by_cases h1 : s.els = -1
      · have hv : Hid (r = 0) := hr.out.symm.trans (selE_ok hz0.out (.inl h1))
        go_wp2
        go_ret
        exact ⟨ret_i hv.out.symm, hbw⟩
      · by_cases h2 : 0 ≤ s.els ∧ s.els < f.code.length
        · have hv : Hid (r = 0) := hr.out.symm.trans (selE_ok hz0.out (.inr h2))
          go_wp2_with (go_at_call 73; (with_reducible refine (below_t _ _ _ (by omega)).mono ?_; rintro e w' ⟨rfl, rfl⟩))
          go_ret
          exact ⟨ret_i hv.out.symm, hbw⟩
        · have hv : Hid (r = 38) := hr.out.symm.trans (selE_else hz0.out (fun q => q.elim h1 h2))
          go_wp2_with (go_at_call 73; (with_reducible refine (below_f _ _ _ (by omega)).mono ?_; rintro e w' ⟨rfl, rfl⟩))
          go_ret
          exact ⟨ret_i hv.out.symm, hbw⟩
end Go.Proofs.YtlcljdldhajkiaaDoor.pg
/- The contracts of package prog's looks at operands. -/
namespace Go.Proofs.YtlcljdldhajkiaaDoor.pg
open Go.ChangeShapes Go.WideShapes Go.ChangeAt Go.RowKit
set_option linter.unusedVariables false
set_option linter.unusedSimpArgs false
set_option maxRecDepth 100000
theorem unless_t (e0 : Int) (w : World) : Calls Tryd.prog 76 #[.bool true, .int .i64 e0] w fun e w' => e = .returned (.int .i64 0) ∧ w' = w := by
  go_enter Tryd.func76, Tryd.ntmps76
  go_wp2
  go_ret
  exact ⟨rfl, rfl⟩
theorem unless_f (e0 : Int) (w : World) : Calls Tryd.prog 76 #[.bool false, .int .i64 e0] w fun e w' => e = .returned (.int .i64 e0) ∧ w' = w := by
  go_enter Tryd.func76, Tryd.ntmps76
  go_wp2
  go_ret
  exact ⟨rfl, rfl⟩
theorem operands_any (x : Ins) (w : World) : Calls Tryd.prog 74 #[x.val] w fun e w' => e = .returned (.agg #[.int .i64 x.a, .int .i64 x.b, .int .i64 x.c, .int .i64 x.n]) ∧ Below w.heap.size w w' := by
  go_enter Tryd.func74, Tryd.ntmps74
  go_wp2
  exact bodyPost_ret (v := .agg #[.int .i64 x.a, .int .i64 x.b, .int .i64 x.c, .int .i64 x.n]) (by simp [results, Tryd.results74, go_sem]) rfl ⟨rfl, boxed2 _ _ _⟩
section
variable (M : MPr) (f : MFn) (i : Ins) (x : Int) (w : World) (r : Int)
abbrev opE (l : Int) : Int := opndE (roomP (M.pr.par i.b) i.c f.regs) M.pr f.fn l x
theorem op_r_t (h : 0 ≤ x ∧ x < f.regs) (hr : Hid (opE M f i x 114 = r)) : Calls Tryd.prog 75 #[M.val, f.val, i.val, .int .u8 114, .int .i64 x] w fun e w' => e = .returned (.int .i64 r) ∧ Below w.heap.size w w' := by
  have hv : Hid (r = 0) := hr.out.symm.trans (by
    have h' : inR x f.fn.regs := h
    simp only [opE, opndE, Int.reduceEq, false_and, false_or, or_false, true_or, or_true, if_false, if_true, if_pos h'])
  go_enter Tryd.func75, Tryd.ntmps75
  go_wp2_with (first | (go_at_call 73; (with_reducible refine (below_t _ _ _ (by omega)).mono ?_); rintro e w' ⟨rfl, rfl⟩) | (go_at_call 76; (with_reducible refine (unless_t _ _).mono ?_); rintro e w' ⟨rfl, rfl⟩))
  go_ret
  exact ⟨ret_i hv.out.symm, boxed3 _ _ _ _⟩
theorem op_r_f (h : ¬ (0 ≤ x ∧ x < f.regs)) (hr : Hid (opE M f i x 114 = r)) : Calls Tryd.prog 75 #[M.val, f.val, i.val, .int .u8 114, .int .i64 x] w fun e w' => e = .returned (.int .i64 r) ∧ Below w.heap.size w w' := by
  have hv : Hid (r = 35) := hr.out.symm.trans (by
    have h' : ¬ inR x f.fn.regs := h
    simp only [opE, opndE, Int.reduceEq, false_and, false_or, or_false, true_or, or_true, if_false, if_true, if_neg h'])
  go_enter Tryd.func75, Tryd.ntmps75
  go_wp2_with (first | (go_at_call 73; (with_reducible refine (below_f _ _ _ (by omega)).mono ?_); rintro e w' ⟨rfl, rfl⟩) | (go_at_call 76; (with_reducible refine (unless_f _ _).mono ?_); rintro e w' ⟨rfl, rfl⟩))
  go_ret
  exact ⟨ret_i hv.out.symm, boxed3 _ _ _ _⟩
theorem op_w_t (h : 0 ≤ x ∧ x < f.regs) (hr : Hid (opE M f i x 119 = r)) : Calls Tryd.prog 75 #[M.val, f.val, i.val, .int .u8 119, .int .i64 x] w fun e w' => e = .returned (.int .i64 r) ∧ Below w.heap.size w w' := by
  have hv : Hid (r = 0) := hr.out.symm.trans (by
    have h' : inR x f.fn.regs := h
    simp only [opE, opndE, Int.reduceEq, false_and, false_or, or_false, true_or, or_true, if_false, if_true, if_pos h'])
  go_enter Tryd.func75, Tryd.ntmps75
  go_wp2_with (first | (go_at_call 73; (with_reducible refine (below_t _ _ _ (by omega)).mono ?_); rintro e w' ⟨rfl, rfl⟩) | (go_at_call 76; (with_reducible refine (unless_t _ _).mono ?_); rintro e w' ⟨rfl, rfl⟩))
  go_ret
  exact ⟨ret_i hv.out.symm, boxed3 _ _ _ _⟩
theorem op_w_f (h : ¬ (0 ≤ x ∧ x < f.regs)) (hr : Hid (opE M f i x 119 = r)) : Calls Tryd.prog 75 #[M.val, f.val, i.val, .int .u8 119, .int .i64 x] w fun e w' => e = .returned (.int .i64 r) ∧ Below w.heap.size w w' := by
  have hv : Hid (r = 35) := hr.out.symm.trans (by
    have h' : ¬ inR x f.fn.regs := h
    simp only [opE, opndE, Int.reduceEq, false_and, false_or, or_false, true_or, or_true, if_false, if_true, if_neg h'])
  go_enter Tryd.func75, Tryd.ntmps75
  go_wp2_with (first | (go_at_call 73; (with_reducible refine (below_f _ _ _ (by omega)).mono ?_); rintro e w' ⟨rfl, rfl⟩) | (go_at_call 76; (with_reducible refine (unless_f _ _).mono ?_); rintro e w' ⟨rfl, rfl⟩))
  go_ret
  exact ⟨ret_i hv.out.symm, boxed3 _ _ _ _⟩
theorem op_o_t (hx : ¬ x = -1) (h : 0 ≤ x ∧ x < f.regs) (hr : Hid (opE M f i x 111 = r)) : Calls Tryd.prog 75 #[M.val, f.val, i.val, .int .u8 111, .int .i64 x] w fun e w' => e = .returned (.int .i64 r) ∧ Below w.heap.size w w' := by
  have hv : Hid (r = 0) := hr.out.symm.trans (by
    have h' : inR x f.fn.regs := h
    simp only [opE, opndE, hx, and_false, Int.reduceEq, false_and, false_or, or_false, true_or, or_true, if_false, if_true, if_pos h'])
  go_enter Tryd.func75, Tryd.ntmps75
  go_wp2_with (first | (go_at_call 73; (with_reducible refine (below_t _ _ _ (by omega)).mono ?_); rintro e w' ⟨rfl, rfl⟩) | (go_at_call 76; (with_reducible refine (unless_t _ _).mono ?_); rintro e w' ⟨rfl, rfl⟩))
  go_ret
  exact ⟨ret_i hv.out.symm, boxed3 _ _ _ _⟩
theorem op_o_f (hx : ¬ x = -1) (h : ¬ (0 ≤ x ∧ x < f.regs)) (hr : Hid (opE M f i x 111 = r)) : Calls Tryd.prog 75 #[M.val, f.val, i.val, .int .u8 111, .int .i64 x] w fun e w' => e = .returned (.int .i64 r) ∧ Below w.heap.size w w' := by
  have hv : Hid (r = 35) := hr.out.symm.trans (by
    have h' : ¬ inR x f.fn.regs := h
    simp only [opE, opndE, hx, and_false, Int.reduceEq, false_and, false_or, or_false, true_or, or_true, if_false, if_true, if_neg h'])
  go_enter Tryd.func75, Tryd.ntmps75
  go_wp2_with (first | (go_at_call 73; (with_reducible refine (below_f _ _ _ (by omega)).mono ?_); rintro e w' ⟨rfl, rfl⟩) | (go_at_call 76; (with_reducible refine (unless_f _ _).mono ?_); rintro e w' ⟨rfl, rfl⟩))
  go_ret
  exact ⟨ret_i hv.out.symm, boxed3 _ _ _ _⟩
theorem op_v_t (h : 0 ≤ x ∧ x < (M.vars.length : Int)) (hr : Hid (opE M f i x 118 = r)) : Calls Tryd.prog 75 #[M.val, f.val, i.val, .int .u8 118, .int .i64 x] w fun e w' => e = .returned (.int .i64 r) ∧ Below w.heap.size w w' := by
  have hv : Hid (r = 0) := hr.out.symm.trans (by
    have h' : inR x M.pr.vars.length := h
    simp only [opE, opndE, Int.reduceEq, false_and, false_or, or_false, true_or, or_true, if_false, if_true, if_pos h'])
  go_enter Tryd.func75, Tryd.ntmps75
  go_wp2_with (first | (go_at_call 73; (with_reducible refine (below_t _ _ _ (by omega)).mono ?_); rintro e w' ⟨rfl, rfl⟩) | (go_at_call 76; (with_reducible refine (unless_t _ _).mono ?_); rintro e w' ⟨rfl, rfl⟩))
  go_ret
  exact ⟨ret_i hv.out.symm, boxed3 _ _ _ _⟩
theorem op_v_f (h : ¬ (0 ≤ x ∧ x < (M.vars.length : Int))) (hr : Hid (opE M f i x 118 = r)) : Calls Tryd.prog 75 #[M.val, f.val, i.val, .int .u8 118, .int .i64 x] w fun e w' => e = .returned (.int .i64 r) ∧ Below w.heap.size w w' := by
  have hv : Hid (r = 36) := hr.out.symm.trans (by
    have h' : ¬ inR x M.pr.vars.length := h
    simp only [opE, opndE, Int.reduceEq, false_and, false_or, or_false, true_or, or_true, if_false, if_true, if_neg h'])
  go_enter Tryd.func75, Tryd.ntmps75
  go_wp2_with (first | (go_at_call 73; (with_reducible refine (below_f _ _ _ (by omega)).mono ?_); rintro e w' ⟨rfl, rfl⟩) | (go_at_call 76; (with_reducible refine (unless_f _ _).mono ?_); rintro e w' ⟨rfl, rfl⟩))
  go_ret
  exact ⟨ret_i hv.out.symm, boxed3 _ _ _ _⟩
theorem op_l_t (h : 0 ≤ x ∧ x < M.locks) (hr : Hid (opE M f i x 108 = r)) : Calls Tryd.prog 75 #[M.val, f.val, i.val, .int .u8 108, .int .i64 x] w fun e w' => e = .returned (.int .i64 r) ∧ Below w.heap.size w w' := by
  have hv : Hid (r = 0) := hr.out.symm.trans (by
    have h' : inR x M.pr.locks := h
    simp only [opE, opndE, Int.reduceEq, false_and, false_or, or_false, true_or, or_true, if_false, if_true, if_pos h'])
  go_enter Tryd.func75, Tryd.ntmps75
  go_wp2_with (first | (go_at_call 73; (with_reducible refine (below_t _ _ _ (by omega)).mono ?_); rintro e w' ⟨rfl, rfl⟩) | (go_at_call 76; (with_reducible refine (unless_t _ _).mono ?_); rintro e w' ⟨rfl, rfl⟩))
  go_ret
  exact ⟨ret_i hv.out.symm, boxed3 _ _ _ _⟩
theorem op_l_f (h : ¬ (0 ≤ x ∧ x < M.locks)) (hr : Hid (opE M f i x 108 = r)) : Calls Tryd.prog 75 #[M.val, f.val, i.val, .int .u8 108, .int .i64 x] w fun e w' => e = .returned (.int .i64 r) ∧ Below w.heap.size w w' := by
  have hv : Hid (r = 36) := hr.out.symm.trans (by
    have h' : ¬ inR x M.pr.locks := h
    simp only [opE, opndE, Int.reduceEq, false_and, false_or, or_false, true_or, or_true, if_false, if_true, if_neg h'])
  go_enter Tryd.func75, Tryd.ntmps75
  go_wp2_with (first | (go_at_call 73; (with_reducible refine (below_f _ _ _ (by omega)).mono ?_); rintro e w' ⟨rfl, rfl⟩) | (go_at_call 76; (with_reducible refine (unless_f _ _).mono ?_); rintro e w' ⟨rfl, rfl⟩))
  go_ret
  exact ⟨ret_i hv.out.symm, boxed3 _ _ _ _⟩
theorem op_c_t (h : 0 ≤ x ∧ x < (M.chans.length : Int)) (hr : Hid (opE M f i x 99 = r)) : Calls Tryd.prog 75 #[M.val, f.val, i.val, .int .u8 99, .int .i64 x] w fun e w' => e = .returned (.int .i64 r) ∧ Below w.heap.size w w' := by
  have hv : Hid (r = 0) := hr.out.symm.trans (by
    have h' : inR x M.pr.chans.length := h
    simp only [opE, opndE, Int.reduceEq, false_and, false_or, or_false, true_or, or_true, if_false, if_true, if_pos h'])
  go_enter Tryd.func75, Tryd.ntmps75
  go_wp2_with (first | (go_at_call 73; (with_reducible refine (below_t _ _ _ (by omega)).mono ?_); rintro e w' ⟨rfl, rfl⟩) | (go_at_call 76; (with_reducible refine (unless_t _ _).mono ?_); rintro e w' ⟨rfl, rfl⟩))
  go_ret
  exact ⟨ret_i hv.out.symm, boxed3 _ _ _ _⟩
theorem op_c_f (h : ¬ (0 ≤ x ∧ x < (M.chans.length : Int))) (hr : Hid (opE M f i x 99 = r)) : Calls Tryd.prog 75 #[M.val, f.val, i.val, .int .u8 99, .int .i64 x] w fun e w' => e = .returned (.int .i64 r) ∧ Below w.heap.size w w' := by
  have hv : Hid (r = 36) := hr.out.symm.trans (by
    have h' : ¬ inR x M.pr.chans.length := h
    simp only [opE, opndE, Int.reduceEq, false_and, false_or, or_false, true_or, or_true, if_false, if_true, if_neg h'])
  go_enter Tryd.func75, Tryd.ntmps75
  go_wp2_with (first | (go_at_call 73; (with_reducible refine (below_f _ _ _ (by omega)).mono ?_); rintro e w' ⟨rfl, rfl⟩) | (go_at_call 76; (with_reducible refine (unless_f _ _).mono ?_); rintro e w' ⟨rfl, rfl⟩))
  go_ret
  exact ⟨ret_i hv.out.symm, boxed3 _ _ _ _⟩
theorem op_s_t (h : 0 ≤ x ∧ x < (f.sels.length : Int)) (hr : Hid (opE M f i x 115 = r)) : Calls Tryd.prog 75 #[M.val, f.val, i.val, .int .u8 115, .int .i64 x] w fun e w' => e = .returned (.int .i64 r) ∧ Below w.heap.size w w' := by
  have hv : Hid (r = 0) := hr.out.symm.trans (by
    have h' : inR x (f.fn.sels.length : Int) := by rw [show (f.fn.sels.length : Int) = f.sels.length from by simp [MFn.fn]]; exact h
    simp only [opE, opndE, Int.reduceEq, false_and, false_or, or_false, true_or, or_true, if_false, if_true, if_pos h'])
  go_enter Tryd.func75, Tryd.ntmps75
  go_wp2_with (first | (go_at_call 73; (with_reducible refine (below_t _ _ _ (by omega)).mono ?_); rintro e w' ⟨rfl, rfl⟩) | (go_at_call 76; (with_reducible refine (unless_t _ _).mono ?_); rintro e w' ⟨rfl, rfl⟩))
  go_ret
  exact ⟨ret_i hv.out.symm, boxed3 _ _ _ _⟩
theorem op_s_f (h : ¬ (0 ≤ x ∧ x < (f.sels.length : Int))) (hr : Hid (opE M f i x 115 = r)) : Calls Tryd.prog 75 #[M.val, f.val, i.val, .int .u8 115, .int .i64 x] w fun e w' => e = .returned (.int .i64 r) ∧ Below w.heap.size w w' := by
  have hv : Hid (r = 36) := hr.out.symm.trans (by
    have h' : ¬ inR x (f.fn.sels.length : Int) := by rw [show (f.fn.sels.length : Int) = f.sels.length from by simp [MFn.fn]]; exact h
    simp only [opE, opndE, Int.reduceEq, false_and, false_or, or_false, true_or, or_true, if_false, if_true, if_neg h'])
  go_enter Tryd.func75, Tryd.ntmps75
  go_wp2_with (first | (go_at_call 73; (with_reducible refine (below_f _ _ _ (by omega)).mono ?_); rintro e w' ⟨rfl, rfl⟩) | (go_at_call 76; (with_reducible refine (unless_f _ _).mono ?_); rintro e w' ⟨rfl, rfl⟩))
  go_ret
  exact ⟨ret_i hv.out.symm, boxed3 _ _ _ _⟩
theorem op_f_t (h : 0 ≤ x ∧ x < (M.fns.length : Int)) (hr : Hid (opE M f i x 102 = r)) : Calls Tryd.prog 75 #[M.val, f.val, i.val, .int .u8 102, .int .i64 x] w fun e w' => e = .returned (.int .i64 r) ∧ Below w.heap.size w w' := by
  have hv : Hid (r = 0) := hr.out.symm.trans (by
    have h' : inR x (M.pr.fns.length : Int) := by rw [show (M.pr.fns.length : Int) = M.fns.length from by simp [MPr.pr]]; exact h
    simp only [opE, opndE, Int.reduceEq, false_and, false_or, or_false, true_or, or_true, if_false, if_true, if_pos h'])
  go_enter Tryd.func75, Tryd.ntmps75
  go_wp2_with (first | (go_at_call 73; (with_reducible refine (below_t _ _ _ (by omega)).mono ?_); rintro e w' ⟨rfl, rfl⟩) | (go_at_call 76; (with_reducible refine (unless_t _ _).mono ?_); rintro e w' ⟨rfl, rfl⟩))
  go_ret
  exact ⟨ret_i hv.out.symm, boxed3 _ _ _ _⟩
theorem op_f_f (h : ¬ (0 ≤ x ∧ x < (M.fns.length : Int))) (hr : Hid (opE M f i x 102 = r)) : Calls Tryd.prog 75 #[M.val, f.val, i.val, .int .u8 102, .int .i64 x] w fun e w' => e = .returned (.int .i64 r) ∧ Below w.heap.size w w' := by
  have hv : Hid (r = 36) := hr.out.symm.trans (by
    have h' : ¬ inR x (M.pr.fns.length : Int) := by rw [show (M.pr.fns.length : Int) = M.fns.length from by simp [MPr.pr]]; exact h
    simp only [opE, opndE, Int.reduceEq, false_and, false_or, or_false, true_or, or_true, if_false, if_true, if_neg h'])
  go_enter Tryd.func75, Tryd.ntmps75
  go_wp2_with (first | (go_at_call 73; (with_reducible refine (below_f _ _ _ (by omega)).mono ?_); rintro e w' ⟨rfl, rfl⟩) | (go_at_call 76; (with_reducible refine (unless_f _ _).mono ?_); rintro e w' ⟨rfl, rfl⟩))
  go_ret
  exact ⟨ret_i hv.out.symm, boxed3 _ _ _ _⟩
theorem op_t_t (h : 0 ≤ x ∧ x < (f.code.length : Int)) (hr : Hid (opE M f i x 116 = r)) : Calls Tryd.prog 75 #[M.val, f.val, i.val, .int .u8 116, .int .i64 x] w fun e w' => e = .returned (.int .i64 r) ∧ Below w.heap.size w w' := by
  have hv : Hid (r = 0) := hr.out.symm.trans (by
    have h' : inR x f.fn.code.length := h
    simp only [opE, opndE, Int.reduceEq, false_and, false_or, or_false, true_or, or_true, if_false, if_true, if_pos h'])
  go_enter Tryd.func75, Tryd.ntmps75
  go_wp2_with (first | (go_at_call 73; (with_reducible refine (below_t _ _ _ (by omega)).mono ?_); rintro e w' ⟨rfl, rfl⟩) | (go_at_call 76; (with_reducible refine (unless_t _ _).mono ?_); rintro e w' ⟨rfl, rfl⟩))
  go_ret
  exact ⟨ret_i hv.out.symm, boxed3 _ _ _ _⟩
theorem op_t_f (h : ¬ (0 ≤ x ∧ x < (f.code.length : Int))) (hr : Hid (opE M f i x 116 = r)) : Calls Tryd.prog 75 #[M.val, f.val, i.val, .int .u8 116, .int .i64 x] w fun e w' => e = .returned (.int .i64 r) ∧ Below w.heap.size w w' := by
  have hv : Hid (r = 38) := hr.out.symm.trans (by
    have h' : ¬ inR x f.fn.code.length := h
    simp only [opE, opndE, Int.reduceEq, false_and, false_or, or_false, true_or, or_true, if_false, if_true, if_neg h'])
  go_enter Tryd.func75, Tryd.ntmps75
  go_wp2_with (first | (go_at_call 73; (with_reducible refine (below_f _ _ _ (by omega)).mono ?_); rintro e w' ⟨rfl, rfl⟩) | (go_at_call 76; (with_reducible refine (unless_f _ _).mono ?_); rintro e w' ⟨rfl, rfl⟩))
  go_ret
  exact ⟨ret_i hv.out.symm, boxed3 _ _ _ _⟩
theorem op_o_none (hx : x = -1) (hr : Hid (opE M f i x 111 = r)) : Calls Tryd.prog 75 #[M.val, f.val, i.val, .int .u8 111, .int .i64 x] w fun e w' => e = .returned (.int .i64 r) ∧ Below w.heap.size w w' := by
  subst hx
  have hv : Hid (r = 0) := hr.out.symm.trans (by simp only [opE, opndE, and_self, if_true])
  go_enter Tryd.func75, Tryd.ntmps75
  go_wp2
  go_ret
  exact ⟨ret_i hv.out.symm, boxed3 _ _ _ _⟩
theorem op_a_t (k : Nat) (y : Vr) (hk : x = (k : Int)) (hy : M.vars[k]? = some y) (hl : M.lies w) (hr : Hid (opE M f i x 97 = r)) : Calls Tryd.prog 75 #[M.val, f.val, i.val, .int .u8 97, .int .i64 x] w fun e w' => e = .returned (.int .i64 r) ∧ Below w.heap.size w w' := by
  have hlt : k < M.vars.length := (List.getElem?_eq_some_iff.mp hy).1
  have h : 0 ≤ x ∧ x < (M.vars.length : Int) := by omega
  obtain ⟨b, o, hix, hbl, c0, c1⟩ := vr_ix hl.1 k y hy
  rw [← hk] at hix
  replace c0 := cell3 c0
  have ha : M.pr.atom x = y.atomic := by rw [hk]; simp [Pr.atom, MPr.pr, hy]
  have hE : opE M f i x 97 = if y.atomic = true then 0 else 37 := by
    have h' : inR x M.pr.vars.length := h
    simp only [opE, opndE, Int.reduceEq, false_and, false_or, or_false, true_or, or_true, if_false, if_true, if_pos h', ha]
  cases hat : y.atomic with
  | true =>
    have hv : Hid (r = 0) := hr.out.symm.trans (by rw [hE, if_pos hat])
    clear ha hE hl hy hk c1 hr
    rw [hat] at c0
    go_enter Tryd.func75, Tryd.ntmps75
    go_wp2_with (first | (go_at_call 73; (with_reducible refine (below_t _ _ _ (by omega)).mono ?_); rintro e w' ⟨rfl, rfl⟩) | (go_at_call 76; (with_reducible refine (unless_t _ _).mono ?_); rintro e w' ⟨rfl, rfl⟩))
    go_ret
    exact ⟨ret_i hv.out.symm, boxed3 _ _ _ _⟩
  | false =>
    have hv : Hid (r = 37) := hr.out.symm.trans (by rw [hE, if_neg (by simp [hat])])
    clear ha hE hl hy hk c1 hr
    rw [hat] at c0
    go_enter Tryd.func75, Tryd.ntmps75
    go_wp2_with (first | (go_at_call 73; (with_reducible refine (below_t _ _ _ (by omega)).mono ?_); rintro e w' ⟨rfl, rfl⟩) | (go_at_call 76; (with_reducible refine (unless_f _ _).mono ?_); rintro e w' ⟨rfl, rfl⟩))
    go_ret
    exact ⟨ret_i hv.out.symm, boxed3 _ _ _ _⟩
theorem op_a_f (h : ¬ (0 ≤ x ∧ x < (M.vars.length : Int))) (hr : Hid (opE M f i x 97 = r)) : Calls Tryd.prog 75 #[M.val, f.val, i.val, .int .u8 97, .int .i64 x] w fun e w' => e = .returned (.int .i64 r) ∧ Below w.heap.size w w' := by
  have hv : Hid (r = 36) := hr.out.symm.trans (by
    have h' : ¬ inR x M.pr.vars.length := h
    simp only [opE, opndE, Int.reduceEq, false_and, false_or, or_false, true_or, or_true, if_false, if_true, if_neg h'])
  go_enter Tryd.func75, Tryd.ntmps75
  go_wp2_with (first | (go_at_call 73; (with_reducible refine (below_f _ _ _ (by omega)).mono ?_); rintro e w' ⟨rfl, rfl⟩) | (go_at_call 76; (with_reducible refine (unless_f _ _).mono ?_); rintro e w' ⟨rfl, rfl⟩))
  go_ret
  exact ⟨ret_i hv.out.symm, boxed3 _ _ _ _⟩
end
end Go.Proofs.YtlcljdldhajkiaaDoor.pg
