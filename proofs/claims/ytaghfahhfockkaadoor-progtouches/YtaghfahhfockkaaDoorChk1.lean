/- The contracts of package prog's small looks at a program. -/
import Derived.Test.YtaghfahhfockkaaDoorPgIx
import Derived.Test.YtaghfahhfockkaaDoorChk
import Derived.Test.YtaghfahhfockkaaDoorForms
import Derived.Handy
import Derived.Deep.QuietTactic
import Derived.BigQuiet
namespace Go.Proofs.YtaghfahhfockkaaDoor.pg
open Go.ChangeShapes Go.WideShapes Go.ChangeAt Go.RowKit
set_option linter.unusedVariables false
set_option linter.unusedSimpArgs false
set_option maxRecDepth 100000
theorem ret_b {a b : Bool} (h : a = b) : Ending.returned (.bool a) = .returned (.bool b) := by rw [h]
theorem ret_i {a b : Int} (h : a = b) : Ending.returned (.int .i64 a) = .returned (.int .i64 b) := by rw [h]
theorem between_t (x a b : Int) (w : World) (h : a ≤ x ∧ x ≤ b) : Calls Tryd.prog 59 #[.int .i64 x, .int .i64 a, .int .i64 b] w fun e w' => e = .returned (.bool true) ∧ w' = w := by
  obtain ⟨h1, h2⟩ := h
  go_enter Tryd.func59, Tryd.ntmps59
  go_wp2
  go_ret
  exact ⟨rfl, rfl⟩
theorem between_f (x a b : Int) (w : World) (h : x < a ∨ b < x) : Calls Tryd.prog 59 #[.int .i64 x, .int .i64 a, .int .i64 b] w fun e w' => e = .returned (.bool false) ∧ w' = w := by
  by_cases h1 : a ≤ x
  · have h2 : ¬ x ≤ b := by omega
    go_enter Tryd.func59, Tryd.ntmps59
    go_wp2
    go_ret
    exact ⟨rfl, rfl⟩
  · clear h
    go_enter Tryd.func59, Tryd.ntmps59
    go_wp2
    go_ret
    exact ⟨rfl, rfl⟩
theorem below_t (x n : Int) (w : World) (h : 0 ≤ x ∧ x < n) : Calls Tryd.prog 36 #[.int .i64 x, .int .i64 n] w fun e w' => e = .returned (.bool true) ∧ w' = w := by
  obtain ⟨h1, h2⟩ := h
  go_enter Tryd.func36, Tryd.ntmps36
  go_wp2
  go_ret
  exact ⟨rfl, rfl⟩
theorem below_f (x n : Int) (w : World) (h : x < 0 ∨ n ≤ x) : Calls Tryd.prog 36 #[.int .i64 x, .int .i64 n] w fun e w' => e = .returned (.bool false) ∧ w' = w := by
  by_cases h1 : 0 ≤ x
  · have h2 : ¬ x < n := by omega
    go_enter Tryd.func36, Tryd.ntmps36
    go_wp2
    go_ret
    exact ⟨rfl, rfl⟩
  · clear h
    go_enter Tryd.func36, Tryd.ntmps36
    go_wp2
    go_ret
    exact ⟨rfl, rfl⟩
theorem unless_any (b : Bool) (e0 : Int) (w : World) : Calls Tryd.prog 98 #[.bool b, .int .i64 e0] w fun e w' => e = .returned (.int .i64 (if b = true then 0 else e0)) ∧ w' = w := by
  cases b
  all_goals
    go_enter Tryd.func98, Tryd.ntmps98
    go_wp2
    go_ret
    exact ⟨by simp, rfl⟩
theorem roomFor_any (k first regs : Int) (w : World) (hk : I64 k) (hf : I64 first) (h0 : 0 ≤ regs) (h8 : regs ≤ 8) (r : Bool) (hr : Hid (decide (roomP k first regs) = r)) :
    Calls Tryd.prog 99 #[.int .i64 k, .int .i64 first, .int .i64 regs] w fun e w' => e = .returned (.bool r) ∧ w' = w := by
  unfold I64 at hk hf
  obtain ⟨k1, k2⟩ := hk
  obtain ⟨f1, f2⟩ := hf
  by_cases hz : k = 0
  · subst hz
    go_enter Tryd.func99, Tryd.ntmps99
    go_wp2
    go_ret
    exact ⟨ret_b (by rw [← hr.out]; simp [roomP]; rfl), rfl⟩
  · by_cases hn : first < 0
    · go_enter Tryd.func99, Tryd.ntmps99
      go_wp2
      go_ret
      exact ⟨ret_b (by rw [← hr.out]; simp [roomP, hz, hn]), rfl⟩
    · by_cases hp : 0 < k
      · go_enter Tryd.func99, Tryd.ntmps99
        go_wp2
        go_ret
        refine ⟨ret_b ?_, rfl⟩
        rw [← hr.out]
        rw [decide_eq_decide]
        unfold roomP
        rw [if_neg hz, if_neg (show ¬ first < 0 by omega)]
        omega
      · go_enter Tryd.func99, Tryd.ntmps99
        go_wp2
        go_ret
        refine ⟨ret_b ?_, rfl⟩
        rw [← hr.out]
        rw [decide_eq_decide]
        unfold roomP
        rw [if_neg hz, if_neg (show ¬ first < 0 by omega)]
/-- What a new box is: its cells, and that all else lies as it lay. -/
theorem boxed (w : World) (o : Obj) : Below w.heap.size w (w.alloc o) := (Below.refl _ _).alloc (Nat.le_refl _) _
theorem checkSizes_any (M : MPr) (w : World) (h : M.lies w) (r : Int) (hr : Hid (sizesE M.pr = r)) :
    Calls Tryd.prog 40 #[M.val] w fun e w' => e = .returned (.int .i64 r) ∧ Below w.heap.size w w' := by
  have no : ¬ (M.vars.length ≤ 8 ∧ (0 ≤ M.locks ∧ M.locks ≤ 4) ∧ M.chans.length ≤ 4 ∧ (1 ≤ M.fns.length ∧ M.fns.length ≤ 8)) → r = 30 := fun hn => by
    rw [← hr.out]; unfold sizesE; rw [if_neg]; simpa [MPr.pr] using hn
  by_cases h1 : (M.vars.length : Int) ≤ 8
  · by_cases h2 : 0 ≤ M.locks ∧ M.locks ≤ 4
    · by_cases h3 : (M.chans.length : Int) ≤ 4
      · by_cases h4 : (1 : Int) ≤ M.fns.length ∧ (M.fns.length : Int) ≤ 8
        · have hb := boxed w (.cells #[.slice M.va M.vars.length M.vcap, .int .i64 M.locks, .slice M.cha M.chans.length M.chcap, .slice M.fa M.fns.length M.fcap] 26)
          have hL := h.later hb
          have hw : sizesE M.pr = firstE (fun c => if 0 ≤ c ∧ c ≤ 4 then 0 else 31) M.chans := by
            unfold sizesE; rw [if_pos]; rfl; simp [MPr.pr]; omega
          go_enter Tryd.func40, Tryd.ntmps40
          go_wp2_with (go_at_call 59; with_reducible refine (between_t _ _ _ _ (by omega)).mono ?_; rintro e w' ⟨rfl, rfl⟩)
          generalize w.alloc (.cells #[.slice M.va M.vars.length M.vcap, .int .i64 M.locks, .slice M.cha M.chans.length M.chcap, .slice M.fa M.fns.length M.fcap] 26) = W at *
          go_loop [31] (fun i => ∃ k : Nat, k ≤ M.chans.length ∧ i = .int .i64 k ∧ ∀ j y, j < k → M.chans[j]? = some y → 0 ≤ y ∧ y ≤ 4) (fun i => M.chans.length - (intOf i).toNat)
          case atStart => exact ⟨0, Nat.zero_le _, rfl, fun j y hj => by omega⟩
          case round =>
            obtain ⟨k, hk, rfl, hall⟩ := hrel
            by_cases hlt : k < M.chans.length
            · obtain ⟨x, hx, hm⟩ := get_lt M.chans k hlt
              obtain ⟨b, o, hix, _, hc⟩ := ch_ix hL.2.1 k x hx
              by_cases hx4 : 0 ≤ x ∧ x ≤ 4
              · go_wp2_with (go_at_call 59; with_reducible refine (between_t _ _ _ _ (by omega)).mono ?_; rintro e w' ⟨rfl, rfl⟩)
                go_round
                case rel => exact ⟨k + 1, by omega, by go_num, fun j y hj hy => by
                  by_cases hjk : j = k
                  · subst hjk; rw [hx] at hy; cases hy; exact hx4
                  · exact hall j y (by omega) hy⟩
                case measure => simp [intOf]; omega
              · have hv : Hid (r = 31) := by
                  show r = _
                  rw [← hr.out, hw, firstE_hit _ _ k x hx (fun i y hi hy => if_pos (hall i y hi hy)) (by simp [hx4])]
                  exact if_neg hx4
                go_wp2_with (go_at_call 59; with_reducible refine (between_f _ _ _ _ (by omega)).mono ?_; rintro e w' ⟨rfl, rfl⟩)
                go_ret
                exact ⟨ret_i hv.out.symm, hb⟩
            · have hv : Hid (r = 0) := by
                show r = _
                rw [← hr.out, hw]
                refine firstE_zero _ _ fun x hx => ?_
                obtain ⟨j, hj, rfl⟩ := List.getElem_of_mem hx
                exact if_pos (hall j _ (by omega) (List.getElem?_eq_getElem hj))
              go_wp2
              go_ret
              exact ⟨ret_i hv.out.symm, hb⟩
        · have hv : Hid _ := no (by omega)
          go_enter Tryd.func40, Tryd.ntmps40
          go_wp2_with (go_at_call 59; first | (with_reducible refine (between_t _ _ _ _ (by omega)).mono ?_; rintro e w' ⟨rfl, rfl⟩) | (with_reducible refine (between_f _ _ _ _ (by omega)).mono ?_; rintro e w' ⟨rfl, rfl⟩))
          go_ret
          exact ⟨ret_i hv.out.symm, boxed _ _⟩
      · have hv : Hid _ := no (by omega)
        go_enter Tryd.func40, Tryd.ntmps40
        go_wp2_with (go_at_call 59; (with_reducible refine (between_t _ _ _ _ (by omega)).mono ?_; rintro e w' ⟨rfl, rfl⟩))
        go_ret
        exact ⟨ret_i hv.out.symm, boxed _ _⟩
    · have hv : Hid _ := no (by omega)
      go_enter Tryd.func40, Tryd.ntmps40
      go_wp2_with (go_at_call 59; (with_reducible refine (between_f _ _ _ _ (by omega)).mono ?_; rintro e w' ⟨rfl, rfl⟩))
      go_ret
      exact ⟨ret_i hv.out.symm, boxed _ _⟩
  · have hv : Hid _ := no (by omega)
    go_enter Tryd.func40, Tryd.ntmps40
    go_wp2
    go_ret
    exact ⟨ret_i hv.out.symm, boxed _ _⟩
theorem shaped_any (M : MFn) (w : World) (h : M.lies w) (r : Bool) (hr : Hid (decide (shaped M.fn) = r)) :
    Calls Tryd.prog 60 #[M.val] w fun e w' => e = .returned (.bool r) ∧ Below w.heap.size w w' := by
  have no : ¬ ((0 ≤ M.regs ∧ M.regs ≤ 8) ∧ (0 ≤ M.params ∧ M.params ≤ M.regs) ∧ (1 ≤ M.code.length ∧ M.code.length ≤ 64) ∧ M.sels.length ≤ 4) → r = false := fun hn => by
    rw [← hr.out, decide_eq_false_iff_not]
    intro ⟨a, b, c, d, e⟩
    simp only [MFn.fn, List.length_map] at a b c d
    exact hn ⟨a, b, c, d⟩
  by_cases h1 : 0 ≤ M.regs ∧ M.regs ≤ 8
  · by_cases h2 : 0 ≤ M.params ∧ M.params ≤ M.regs
    · by_cases h3 : (1 : Int) ≤ M.code.length ∧ (M.code.length : Int) ≤ 64
      · by_cases h4 : (M.sels.length : Int) ≤ 4
        · have hb := boxed w (.cells #[.int .i64 M.params, .int .i64 M.regs, .slice M.ca M.code.length M.ccap, .slice M.sa M.sels.length M.scap] 40)
          have hL := h.later hb
          have hsz : w.heap.size < (w.alloc (.cells #[.int .i64 M.params, .int .i64 M.regs, .slice M.ca M.code.length M.ccap, .slice M.sa M.sels.length M.scap] 40)).heap.size := by simp
          go_enter Tryd.func60, Tryd.ntmps60
          go_wp2_with (go_at_call 59; with_reducible refine (between_t _ _ _ _ (by omega)).mono ?_; rintro e w' ⟨rfl, rfl⟩)
          generalize w.alloc (.cells #[.int .i64 M.params, .int .i64 M.regs, .slice M.ca M.code.length M.ccap, .slice M.sa M.sels.length M.scap] 40) = W at *
          go_loopw [33] (fun i wr => ∃ k : Nat, k ≤ M.sels.length ∧ i = .int .i64 k ∧ (∀ j y, j < k → M.sels[j]? = some y → 1 ≤ y.cases.length ∧ y.cases.length ≤ 4) ∧ Below W.heap.size W wr) (fun i _ => M.sels.length - (intOf i).toNat)
          case atStart => exact ⟨0, Nat.zero_le _, rfl, fun j y hj => by omega, Below.refl _ _⟩
          case round =>
            obtain ⟨k, hk, rfl, hall, hbr⟩ := hrel
            by_cases hlt : k < M.sels.length
            · obtain ⟨x, hx, hm⟩ := get_lt M.sels k hlt
              have hLr := hL.later hbr
              obtain ⟨b, o, hix, hbl, hc0, hc1⟩ := sel_ix hLr.2.1 k x hx
              by_cases hx4 : (1 : Int) ≤ x.cases.length ∧ (x.cases.length : Int) ≤ 4
              · go_wp2_with (go_at_call 59; with_reducible refine (between_t _ _ _ _ (by omega)).mono ?_; rintro e w' ⟨rfl, rfl⟩)
                go_roundw
                case rel => exact ⟨k + 1, by omega, by go_num, (fun j y hj hy => by
                  by_cases hjk : j = k
                  · subst hjk; rw [hx] at hy; cases hy; omega
                  · exact hall j y (by omega) hy), hbr.trans ((boxed _ _).mono hbr.size)⟩
                case measure => simp [intOf]; omega
              · have hv : Hid (r = false) := by
                  show r = _
                  rw [← hr.out, decide_eq_false_iff_not]
                  intro ⟨_, _, _, _, e⟩
                  have := e x.sel (by simp only [MFn.fn, List.mem_map]; exact ⟨x, hm, rfl⟩)
                  simp only [MSel.sel] at this
                  omega
                go_wp2_with (go_at_call 59; with_reducible refine (between_f _ _ _ _ (by omega)).mono ?_; rintro e w' ⟨rfl, rfl⟩)
                go_ret
                exact ⟨ret_b hv.out.symm, hb.trans ((hbr.trans ((boxed _ _).mono hbr.size)).mono (by omega))⟩
            · have hv : Hid (r = true) := by
                show r = _
                rw [← hr.out, decide_eq_true_iff]
                refine ⟨h1, h2, by simp only [MFn.fn]; omega, by simp only [MFn.fn, List.length_map]; omega, fun s hs => ?_⟩
                simp only [MFn.fn, List.mem_map] at hs
                obtain ⟨y, hy, rfl⟩ := hs
                obtain ⟨j, hj, rfl⟩ := List.getElem_of_mem hy
                exact hall j _ (by omega) (List.getElem?_eq_getElem hj)
              go_wp2
              go_ret
              exact ⟨ret_b hv.out.symm, hb.trans (hbr.mono (by omega))⟩
        · have hv : Hid _ := no (by omega)
          go_enter Tryd.func60, Tryd.ntmps60
          go_wp2_with (go_at_call 59; (with_reducible refine (between_t _ _ _ _ (by omega)).mono ?_; rintro e w' ⟨rfl, rfl⟩))
          go_ret
          exact ⟨ret_b hv.out.symm, boxed _ _⟩
      · have hv : Hid _ := no (by omega)
        go_enter Tryd.func60, Tryd.ntmps60
        go_wp2_with (go_at_call 59; first | (with_reducible refine (between_t _ _ _ _ (by omega)).mono ?_; rintro e w' ⟨rfl, rfl⟩) | (with_reducible refine (between_f _ _ _ _ (by omega)).mono ?_; rintro e w' ⟨rfl, rfl⟩))
        go_ret
        exact ⟨ret_b hv.out.symm, boxed _ _⟩
    · have hv : Hid _ := no (by omega)
      go_enter Tryd.func60, Tryd.ntmps60
      go_wp2_with (go_at_call 59; first | (with_reducible refine (between_f _ _ _ _ (by omega)).mono ?_; rintro e w' ⟨rfl, rfl⟩) | (with_reducible refine (between_t _ _ _ _ (by omega)).mono ?_; rintro e w' ⟨rfl, rfl⟩))
      go_ret
      exact ⟨ret_b hv.out.symm, boxed _ _⟩
  · have hv : Hid _ := no (by omega)
    go_enter Tryd.func60, Tryd.ntmps60
    go_wp2_with (go_at_call 59; (with_reducible refine (between_f _ _ _ _ (by omega)).mono ?_; rintro e w' ⟨rfl, rfl⟩))
    go_ret
    exact ⟨ret_b hv.out.symm, boxed _ _⟩
theorem sel_room (M : MPr) (k : Nat) (x : Int) (hx : M.chans[k]? = some x) : M.pr.room (k : Int) = x := by
  simp [Pr.room, MPr.pr, hx]
theorem boxed2 (w : World) (o1 o2 : Obj) : Below w.heap.size w ((w.alloc o1).alloc o2) := (boxed w o1).trans ((boxed _ _).mono (boxed w o1).size)
theorem boxed3 (w : World) (o1 o2 o3 : Obj) : Below w.heap.size w (((w.alloc o1).alloc o2).alloc o3) := (boxed2 w o1 o2).trans ((boxed _ _).mono (boxed2 w o1 o2).size)
theorem cell3 {w : World} {a : Addr} {v : Value} (h : w.cell? a = some v) (o1 o2 o3 : Obj) : (((w.alloc o1).alloc o2).alloc o3).cell? a = some v := cell_later (boxed3 w o1 o2 o3) h
set_option maxHeartbeats 1000000 in
theorem checkCase_any (M : MPr) (f : MFn) (c : Cas) (w : World) (h : M.lies w) (r : Int) (hr : Hid (casE M.pr f.fn c = r)) :
    Calls Tryd.prog 84 #[M.val, f.val, c.val] w fun e w' => e = .returned (.int .i64 r) ∧ Below w.heap.size w w' := by
  by_cases h1 : 0 ≤ c.ch ∧ c.ch < M.chans.length
  · have q1 : Hid (inR c.ch M.pr.chans.length) := h1
    obtain ⟨k, hk⟩ : ∃ k : Nat, c.ch = (k : Int) := ⟨c.ch.toNat, by omega⟩
    obtain ⟨x, hx, hm⟩ := get_lt M.chans k (by omega)
    have hrm : Hid (M.pr.room c.ch = x) := by rw [hk]; exact sel_room M k x hx
    obtain ⟨b, o, hix, hbl, hcl⟩ := ch_ix h.2.1 k x hx
    rw [← hk] at hix
    replace hcl := cell3 hcl
    clear hx hm hk h
    by_cases h2 : 0 ≤ c.reg ∧ c.reg < f.regs
    · have q2 : Hid (inR c.reg f.fn.regs ∨ c.reg = -1 ∧ c.send = false) := .inl h2
      have hn : ¬ c.reg = -1 := by omega
      by_cases h4 : 0 ≤ c.to ∧ c.to < f.code.length
      · have q4 : Hid (inR c.to f.fn.code.length) := h4
        cases hs : c.send with
        | true =>
          by_cases h3 : x = 0
          · have hv : Hid (r = 37) := hr.out.symm.trans (casE_kind q1.out q2.out ⟨hs, hrm.out.trans h3⟩)
            go_enter Tryd.func84, Tryd.ntmps84
            go_wp2_with (go_at_call 36; first | (with_reducible refine (below_t _ _ _ (by omega)).mono ?_; rintro e w' ⟨rfl, rfl⟩) | (with_reducible refine (below_f _ _ _ (by omega)).mono ?_; rintro e w' ⟨rfl, rfl⟩))
            go_ret
            exact ⟨ret_i hv.out.symm, boxed3 _ _ _ _⟩
          · have hv : Hid (r = 0) := hr.out.symm.trans (casE_ok q1.out q2.out (fun q => h3 (hrm.out.symm.trans q.2)) q4.out)
            go_enter Tryd.func84, Tryd.ntmps84
            go_wp2_with (go_at_call 36; first | (with_reducible refine (below_t _ _ _ (by omega)).mono ?_; rintro e w' ⟨rfl, rfl⟩) | (with_reducible refine (below_f _ _ _ (by omega)).mono ?_; rintro e w' ⟨rfl, rfl⟩))
            go_ret
            exact ⟨ret_i hv.out.symm, boxed3 _ _ _ _⟩
        | false =>
          have hv : Hid (r = 0) := hr.out.symm.trans (casE_ok q1.out q2.out (fun q => by rw [hs] at q; simp at q) q4.out)
          go_enter Tryd.func84, Tryd.ntmps84
          go_wp2_with (go_at_call 36; first | (with_reducible refine (below_t _ _ _ (by omega)).mono ?_; rintro e w' ⟨rfl, rfl⟩) | (with_reducible refine (below_f _ _ _ (by omega)).mono ?_; rintro e w' ⟨rfl, rfl⟩))
          go_ret
          exact ⟨ret_i hv.out.symm, boxed3 _ _ _ _⟩
      · cases hs : c.send with
        | true =>
          by_cases h3 : x = 0
          · have hv : Hid (r = 37) := hr.out.symm.trans (casE_kind q1.out q2.out ⟨hs, hrm.out.trans h3⟩)
            go_enter Tryd.func84, Tryd.ntmps84
            go_wp2_with (go_at_call 36; first | (with_reducible refine (below_t _ _ _ (by omega)).mono ?_; rintro e w' ⟨rfl, rfl⟩) | (with_reducible refine (below_f _ _ _ (by omega)).mono ?_; rintro e w' ⟨rfl, rfl⟩))
            go_ret
            exact ⟨ret_i hv.out.symm, boxed3 _ _ _ _⟩
          · have hv : Hid (r = 38) := hr.out.symm.trans (casE_target q1.out q2.out (fun q => h3 (hrm.out.symm.trans q.2)) h4)
            go_enter Tryd.func84, Tryd.ntmps84
            go_wp2_with (go_at_call 36; first | (with_reducible refine (below_t _ _ _ (by omega)).mono ?_; rintro e w' ⟨rfl, rfl⟩) | (with_reducible refine (below_f _ _ _ (by omega)).mono ?_; rintro e w' ⟨rfl, rfl⟩))
            go_ret
            exact ⟨ret_i hv.out.symm, boxed3 _ _ _ _⟩
        | false =>
          have hv : Hid (r = 38) := hr.out.symm.trans (casE_target q1.out q2.out (fun q => by rw [hs] at q; simp at q) h4)
          go_enter Tryd.func84, Tryd.ntmps84
          go_wp2_with (go_at_call 36; first | (with_reducible refine (below_t _ _ _ (by omega)).mono ?_; rintro e w' ⟨rfl, rfl⟩) | (with_reducible refine (below_f _ _ _ (by omega)).mono ?_; rintro e w' ⟨rfl, rfl⟩))
          go_ret
          exact ⟨ret_i hv.out.symm, boxed3 _ _ _ _⟩
    · by_cases hn : c.reg = -1
      · cases hs : c.send with
        | true =>
          have hv : Hid (r = 35) := hr.out.symm.trans (casE_reg q1.out (fun q => q.elim h2 fun q => by rw [hs] at q; simp at q))
          go_enter Tryd.func84, Tryd.ntmps84
          go_wp2_with (go_at_call 36; first | (with_reducible refine (below_t _ _ _ (by omega)).mono ?_; rintro e w' ⟨rfl, rfl⟩) | (with_reducible refine (below_f _ _ _ (by omega)).mono ?_; rintro e w' ⟨rfl, rfl⟩))
          go_ret
          exact ⟨ret_i hv.out.symm, boxed3 _ _ _ _⟩
        | false =>
          by_cases h4 : 0 ≤ c.to ∧ c.to < f.code.length
          · have hv : Hid (r = 0) := hr.out.symm.trans (casE_ok q1.out (.inr ⟨hn, hs⟩) (fun q => by rw [hs] at q; simp at q) h4)
            go_enter Tryd.func84, Tryd.ntmps84
            go_wp2_with (go_at_call 36; first | (with_reducible refine (below_t _ _ _ (by omega)).mono ?_; rintro e w' ⟨rfl, rfl⟩) | (with_reducible refine (below_f _ _ _ (by omega)).mono ?_; rintro e w' ⟨rfl, rfl⟩))
            go_ret
            exact ⟨ret_i hv.out.symm, boxed3 _ _ _ _⟩
          · have hv : Hid (r = 38) := hr.out.symm.trans (casE_target q1.out (.inr ⟨hn, hs⟩) (fun q => by rw [hs] at q; simp at q) h4)
            go_enter Tryd.func84, Tryd.ntmps84
            go_wp2_with (go_at_call 36; first | (with_reducible refine (below_t _ _ _ (by omega)).mono ?_; rintro e w' ⟨rfl, rfl⟩) | (with_reducible refine (below_f _ _ _ (by omega)).mono ?_; rintro e w' ⟨rfl, rfl⟩))
            go_ret
            exact ⟨ret_i hv.out.symm, boxed3 _ _ _ _⟩
      · have hv : Hid (r = 35) := hr.out.symm.trans (casE_reg q1.out (fun q => q.elim h2 fun q => hn q.1))
        go_enter Tryd.func84, Tryd.ntmps84
        go_wp2_with (go_at_call 36; first | (with_reducible refine (below_t _ _ _ (by omega)).mono ?_; rintro e w' ⟨rfl, rfl⟩) | (with_reducible refine (below_f _ _ _ (by omega)).mono ?_; rintro e w' ⟨rfl, rfl⟩))
        go_ret
        exact ⟨ret_i hv.out.symm, boxed3 _ _ _ _⟩
  · have hv : Hid (r = 36) := hr.out.symm.trans (casE_obj h1)
    go_enter Tryd.func84, Tryd.ntmps84
    go_wp2_with (go_at_call 36; first | (with_reducible refine (below_t _ _ _ (by omega)).mono ?_; rintro e w' ⟨rfl, rfl⟩) | (with_reducible refine (below_f _ _ _ (by omega)).mono ?_; rintro e w' ⟨rfl, rfl⟩))
    all_goals
      go_ret
      exact ⟨ret_i hv.out.symm, boxed3 _ _ _ _⟩
end Go.Proofs.YtaghfahhfockkaaDoor.pg
