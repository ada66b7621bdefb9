/- The contracts of package prog's look at a function, and of Check. -/
import Derived.Test.YtlcljdldhajkiaaDoorM6
import Derived.Test.YtlcljdldhajkiaaDoorM12
namespace Go.Proofs.YtlcljdldhajkiaaDoor.pg
open Go.ChangeShapes Go.WideShapes Go.ChangeAt Go.RowKit
set_option linter.unusedVariables false
set_option linter.unusedSimpArgs false
set_option maxRecDepth 100000
theorem fnE_shape {ins : Pr → Fn → Ins → Int} {P : Pr} {n : Nat} {f : Fn} (h : ¬ (shaped f ∧ (n = 0 → f.params = 0))) : fnE ins P n f = (32, 0) := by unfold fnE; rw [if_neg h]
theorem fnE_sel {ins : Pr → Fn → Ins → Int} {P : Pr} {n : Nat} {f : Fn} {e : Int} (h : shaped f ∧ (n = 0 → f.params = 0)) (h2 : firstE (selE P f) f.sels = e) (he : e ≠ 0) : fnE ins P n f = (e, 0) := by
  unfold fnE; rw [if_pos h, if_neg (by rw [h2]; exact he), h2]
theorem fnE_ins {ins : Pr → Fn → Ins → Int} {P : Pr} {n : Nat} {f : Fn} {e : Int} {k : Nat} (h : shaped f ∧ (n = 0 → f.params = 0)) (h2 : firstE (selE P f) f.sels = 0) (h3 : firstAt (ins P f) f.code 0 = (e, k)) (he : e ≠ 0) : fnE ins P n f = (e, (k : Int)) := by
  have h4 : firstE (ins P f) f.code ≠ 0 := by rw [← firstAt_fst (ins P f) f.code 0, h3]; exact he
  unfold fnE; rw [if_pos h, if_pos h2, if_neg h4, h3]
theorem fnE_fall {ins : Pr → Fn → Ins → Int} {P : Pr} {n : Nat} {f : Fn} (h : shaped f ∧ (n = 0 → f.params = 0)) (h2 : firstE (selE P f) f.sels = 0) (h3 : firstE (ins P f) f.code = 0) (h4 : ¬ ends (lastOp f)) : fnE ins P n f = (39, (f.code.length : Int) - 1) := by
  unfold fnE; rw [if_pos h, if_pos h2, if_pos h3, if_neg h4]
theorem fnE_ok {ins : Pr → Fn → Ins → Int} {P : Pr} {n : Nat} {f : Fn} (h : shaped f ∧ (n = 0 → f.params = 0)) (h2 : firstE (selE P f) f.sels = 0) (h3 : firstE (ins P f) f.code = 0) (h4 : ends (lastOp f)) : fnE ins P n f = (0, 0) := by
  unfold fnE; rw [if_pos h, if_pos h2, if_pos h3, if_pos h4]
theorem ret_ii {a b c d : Int} (h : (a, c) = (b, d)) : Ending.returned (.tuple #[.int .i64 a, .int .i64 c]) = .returned (.tuple #[.int .i64 b, .int .i64 d]) := by
  cases h; rfl
theorem sels_get (f : MFn) (k : Nat) (x : MSel) (hx : f.sels[k]? = some x) : f.fn.sels[k]? = some x.sel := by simp [MFn.fn, hx]
set_option maxHeartbeats 4000000 in
theorem checkFunc_any (M : MPr) (n : Nat) (f : MFn) (w : World) (r q : Int) (hl : M.lies w) (hF : prog.Forms w) (hf : M.fns[n]? = some f) (hr : Hid (fnE insP M.pr n f.fn = (r, q))) :
    Calls Tryd.prog 61 #[M.val, .int .i64 n] w fun e w' => e = .returned (.tuple #[.int .i64 r, .int .i64 q]) ∧ Below w.heap.size w w' := by
  have hb1 := boxed w (objP M)
  have hb2 := boxed (w.alloc (objP M)) (objF f)
  have hb := boxed2 w (objP M) (objF f)
  have bP0 := boxP_new w M
  have bP := bP0.later hb2
  have bF := boxF_new (w.alloc (objP M)) f
  simp only [World.size_alloc] at bF
  have hfm : f ∈ M.fns := List.mem_of_getElem? hf
  have hL := hl.later hb
  have hFW := hF.later hb
  have hfL : f.lies ((w.alloc (objP M)).alloc (objF f)) := hL.2.2.2.2.2.2 f hfm
  have hz : w.heap.size + 1 < ((w.alloc (objP M)).alloc (objF f)).heap.size := by simp only [World.size_alloc]; omega
  have hln := rows_len hfL.1
  have hlns := rows_len hfL.2.1
  obtain ⟨b, o, hix, hbl, c0, c1, c2, c3⟩ := fn_ix (hl.later hb1).2.2.1 n f hf
  obtain ⟨rs, hrs⟩ : ∃ rs, Hid (decide (shaped f.fn) = rs) := ⟨_, rfl⟩
  have hsh := shaped_any f _ hfL rs hrs
  clear hb1 hb2 hl hF bP0 hf hfm
  have hn0 : Hid ((0 : Int) ≤ n) := by show (0 : Int) ≤ n; omega
  go_enter Tryd.func61, Tryd.ntmps61
  cases rs with
  | false =>
    have hv : Hid (fnE insP M.pr n f.fn = (32, 0)) := fnE_shape (fun h => by have := hrs.out; rw [decide_eq_false_iff_not] at this; exact this h.1)
    go_wp2_with (go_at_call 68; (with_reducible refine hsh.mono ?_); rintro e w2 ⟨rfl, hb2⟩)
    go_ret2
    exact ⟨ret_ii (hv.out.symm.trans hr.out), bthen hb hb2⟩
  | true =>
    have hS : Hid (shaped f.fn) := by have := hrs.out; rw [decide_eq_true_iff] at this; exact this
    by_cases h0 : (n : Int) = 0 ∧ ¬ f.params = 0
    · have hv : Hid (fnE insP M.pr n f.fn = (32, 0)) := fnE_shape (fun h => h0.2 (h.2 (by omega)))
      obtain ⟨h00, h01⟩ := h0
      rw [h00] at hix
      go_wp2_with (go_at_call 68; (with_reducible refine hsh.mono ?_); rintro e w2 ⟨rfl, hb2⟩; obtain ⟨f0, f1, f2, f3⟩ := bF.later hb2)
      go_ret2
      exact ⟨ret_ii (hv.out.symm.trans hr.out), bthen hb hb2⟩
    · have hS0 : Hid (shaped f.fn ∧ (n = 0 → f.fn.params = 0)) := ⟨hS.out, fun hn => by
        apply Classical.byContradiction
        intro hp
        exact h0 ⟨by omega, hp⟩⟩
      have hreg : 0 ≤ f.regs ∧ f.regs ≤ 8 := hS.out.1
      have hcl : 1 ≤ f.code.length := hS.out.2.2.1.1
      obtain ⟨xl, hxl, hxm⟩ := get_lt f.code (f.code.length - 1) (by omega)
      have hlast : Hid (lastOp f.fn = xl.op) := by
        show lastOp f.fn = _
        unfold lastOp
        have : f.fn.code.getLast? = some xl := by rw [List.getLast?_eq_getElem?]; exact hxl
        rw [this]
      by_cases hn00 : (n : Int) = 0
      all_goals
        have hp0 : (n : Int) = 0 → f.params = 0 := fun hn => Classical.byContradiction fun hp => h0 ⟨hn, hp⟩
        first | (have hp0h : Hid (f.params = 0) := hp0 hn00; rw [hn00] at hix) | skip
        clear h0 hp0
        go_wp2_with (go_at_call 68; (with_reducible refine hsh.mono ?_); rintro e w2 ⟨rfl, hb2⟩; obtain ⟨f0, f1, f2, f3⟩ := bF.later hb2; first | (have hp00 := hp0h.out) | skip)
        first | clear hp00 | skip
        have hP2 : Hid (BoxP w2 w.heap.size M) := bP.later hb2
        have hF2 : Hid (BoxF w2 (w.heap.size + 1) f) := bF.later hb2
        have hL2 : Hid (M.lies w2) := hL.later hb2
        have hf2 : Hid (f.lies w2) := hfL.later hb2
        have hFo2 : Hid (prog.Forms w2) := hFW.later hb2
        have hbw2 : Below w.heap.size w w2 := bthen hb hb2
        have hz2 : w.heap.size + 1 < w2.heap.size := by have := hb2.size; omega
        clear hb2 hb bP bF hL hfL hFW hz hsh hix c0 c1 c2 c3 hbl f0 f1 f2 f3
        go_loopw [34] (fun u wr => ∃ k : Nat, k ≤ f.sels.length ∧ u = .int .i64 k ∧ (∀ j y, j < k → f.sels[j]? = some y → selE M.pr f.fn y.sel = 0) ∧ Below w2.heap.size w2 wr) (fun u _ => f.sels.length - (intOf u).toNat)
        case atStart => exact ⟨0, Nat.zero_le _, rfl, fun j y hj => by omega, Below.refl _ _⟩
        case round =>
          obtain ⟨k, hk, rfl, hall, hbr⟩ := hrel
          have hPr : Hid (BoxP wr w.heap.size M) := hP2.out.later hbr
          have hFr : Hid (BoxF wr (w.heap.size + 1) f) := hF2.out.later hbr
          obtain ⟨p0, p1, p2, p3⟩ := hPr.out
          obtain ⟨f0, f1, f2, f3⟩ := hFr.out
          have z := hbr.size
          have z0 : w.heap.size < wr.heap.size := by omega
          have z1 : w.heap.size + 1 < wr.heap.size := by omega
          have hbwr : Below w.heap.size w wr := bthen hbw2 hbr
          by_cases hlt : k < f.sels.length
          · obtain ⟨x, hx, hm⟩ := get_lt f.sels k hlt
            have hfr := hf2.out.later hbr
            obtain ⟨b, o, hix, hbl, c0, c1⟩ := sel_ix hfr.2.1 k x hx
            have hLa := (hL2.out.later hbr).later (boxed wr (objS x))
            have hSa := (hfr.2.2.2.1 x hm).later (boxed wr (objS x))
            obtain ⟨e, he⟩ : ∃ e, Hid (selE M.pr f.fn x.sel = e) := ⟨_, rfl⟩
            have hcall := checkSelect_any M f x _ hLa hSa e he
            have hbx : Below w.heap.size w (wr.alloc (objS x)) := bthen hbwr (boxed wr (objS x))
            have hbW : Below w2.heap.size w2 (wr.alloc (objS x)) := bthen hbr (boxed wr (objS x))
            clear hLa hSa hfr
            by_cases h0 : e = 0
            · subst h0
              go_wp2_with (go_at_call 69; (with_reducible refine hcall.mono ?_); rintro e w3 ⟨rfl, hb3⟩)
              go_roundw
              case rel => exact ⟨k + 1, by omega, by go_num, (fun j y hj hy => by
                by_cases hjk : j = k
                · subst hjk; rw [hx] at hy; cases hy; exact he.out
                · exact hall j y (by omega) hy), bthen hbW hb3⟩
              case measure => simp [intOf]; omega
            · have hv : Hid (fnE insP M.pr n f.fn = (e, 0)) := fnE_sel hS0.out ((firstE_hit _ _ k x.sel (sels_get f k x hx) (fun i y hi hy => by
                simp only [MFn.fn, List.getElem?_map, Option.map_eq_some_iff] at hy
                obtain ⟨y', hy', rfl⟩ := hy
                exact hall i y' hi hy') (by rw [he.out]; exact h0)).trans he.out) h0
              go_wp2_with (go_at_call 69; (with_reducible refine hcall.mono ?_); rintro e w3 ⟨rfl, hb3⟩)
              go_ret2
              exact ⟨ret_ii (hv.out.symm.trans hr.out), bthen hbx hb3⟩
          · have hs0 : Hid (firstE (selE M.pr f.fn) f.fn.sels = 0) := firstE_zero _ _ fun s hs => by
              simp only [MFn.fn, List.mem_map] at hs
              obtain ⟨y, hy, rfl⟩ := hs
              obtain ⟨j, hj, rfl⟩ := List.getElem_of_mem hy
              exact hall j _ (by omega) (List.getElem?_eq_getElem hj)
            have hLr : Hid (M.lies wr) := hL2.out.later hbr
            have hfr : Hid (f.lies wr) := hf2.out.later hbr
            have hFor : Hid (prog.Forms wr) := hFo2.out.later hbr
            clear hall hP2 hF2 hL2 hf2 hFo2 hbw2 hbr hz2 z
            go_wp2
            generalize hwq : wr = w4 at *
            go_loopw [49] (fun u wr => ∃ k : Nat, k ≤ f.code.length ∧ u = .int .i64 k ∧ (∀ j y, j < k → f.code[j]? = some y → insP M.pr f.fn y = 0) ∧ Below w4.heap.size w4 wr) (fun u _ => f.code.length - (intOf u).toNat)
            case atStart => exact ⟨0, Nat.zero_le _, rfl, fun j y hj => by omega, Below.refl _ _⟩
            case round =>
              obtain ⟨k, hk, rfl, hall, hbr⟩ := hrel
              have hPr2 : Hid (BoxP wr w.heap.size M) := hPr.out.later hbr
              have hFr2 : Hid (BoxF wr (w.heap.size + 1) f) := hFr.out.later hbr
              clear p0 p1 p2 p3 f0 f1 f2 f3
              obtain ⟨p0, p1, p2, p3⟩ := hPr2.out
              obtain ⟨f0, f1, f2, f3⟩ := hFr2.out
              have z := hbr.size
              have y0 : w.heap.size < wr.heap.size := by omega
              have y1 : w.heap.size + 1 < wr.heap.size := by omega
              have hbwr2 : Below w.heap.size w wr := bthen hbwr hbr
              by_cases hlt : k < f.code.length
              · obtain ⟨x, hx, hm⟩ := get_lt f.code k hlt
                have hfr2 := hfr.out.later hbr
                obtain ⟨b, o, hix, hbl, c0, c1, c2, c3, c4⟩ := ins_ix hfr2.1 k x hx
                have hLa := (hLr.out.later hbr).later (boxed wr (objI x))
                have hFoa := (hFor.out.later hbr).later (boxed wr (objI x))
                obtain ⟨e, he⟩ : ∃ e, Hid (insP M.pr f.fn x = e) := ⟨_, rfl⟩
                have hcall := checkInstr_any M f x _ e hLa (hfr2.2.2.1 x hm) hreg.1 hreg.2 hFoa he
                have hbx : Below w.heap.size w (wr.alloc (objI x)) := bthen hbwr2 (boxed wr (objI x))
                have hbW : Below w4.heap.size w4 (wr.alloc (objI x)) := bthen hbr (boxed wr (objI x))
                clear hLa hFoa hfr2
                by_cases h0 : e = 0
                · subst h0
                  go_wp2_with (go_at_call 70; (with_reducible refine hcall.mono ?_); rintro e w5 ⟨rfl, hb5⟩)
                  go_roundw
                  case rel => exact ⟨k + 1, by omega, by go_num, (fun j y hj hy => by
                    by_cases hjk : j = k
                    · subst hjk; rw [hx] at hy; cases hy; exact he.out
                    · exact hall j y (by omega) hy), bthen hbW hb5⟩
                  case measure => simp [intOf]; omega
                · have hv : Hid (fnE insP M.pr n f.fn = (e, (k : Int))) := fnE_ins hS0.out hs0.out ((firstAt_hit _ _ 0 k x hx hall (by rw [he.out]; exact h0)).trans (by rw [he.out, Nat.zero_add])) h0
                  go_wp2_with (go_at_call 70; (with_reducible refine hcall.mono ?_); rintro e w5 ⟨rfl, hb5⟩)
                  go_ret2
                  exact ⟨ret_ii (hv.out.symm.trans hr.out), bthen hbx hb5⟩
              · have hi0 : Hid (firstE (insP M.pr f.fn) f.fn.code = 0) := firstE_zero _ _ fun s hs => by
                  obtain ⟨j, hj, rfl⟩ := List.getElem_of_mem hs
                  exact hall j _ (by have : j < f.code.length := hj; omega) (List.getElem?_eq_getElem hj)
                have hfr2 := hfr.out.later hbr
                obtain ⟨b, o, hix, hbl, c0, c1, c2, c3, c4⟩ := ins_ix hfr2.1 (f.code.length - 1) xl hxl
                rw [show ((f.code.length - 1 : Nat) : Int) = (f.code.length : Int) - 1 by omega] at hix
                have hclI : (1 : Int) ≤ f.code.length := by omega
                clear hall hfr2
                by_cases e1 : xl.op = 42
                · have hv : Hid (fnE insP M.pr n f.fn = (0, 0)) := fnE_ok hS0.out hs0.out hi0.out (by rw [hlast.out]; exact .inl e1)
                  go_wp2
                  go_ret2
                  exact ⟨ret_ii (hv.out.symm.trans hr.out), hbwr2⟩
                · by_cases e2 : xl.op = 45
                  · have hv : Hid (fnE insP M.pr n f.fn = (0, 0)) := fnE_ok hS0.out hs0.out hi0.out (by rw [hlast.out]; exact .inr (.inl e2))
                    go_wp2
                    go_ret2
                    exact ⟨ret_ii (hv.out.symm.trans hr.out), hbwr2⟩
                  · by_cases e3 : xl.op = 61
                    · have hv : Hid (fnE insP M.pr n f.fn = (0, 0)) := fnE_ok hS0.out hs0.out hi0.out (by rw [hlast.out]; exact .inr (.inr e3))
                      go_wp2
                      go_ret2
                      exact ⟨ret_ii (hv.out.symm.trans hr.out), hbwr2⟩
                    · have hv : Hid (fnE insP M.pr n f.fn = (39, (f.fn.code.length : Int) - 1)) := fnE_fall hS0.out hs0.out hi0.out (by rw [hlast.out]; rintro (h | h | h) <;> omega)
                      go_wp2
                      go_ret2
                      exact ⟨ret_ii (hv.out.symm.trans hr.out), hbwr2⟩
end Go.Proofs.YtlcljdldhajkiaaDoor.pg
/- The contract of package prog's Check. -/
namespace Go.Proofs.YtlcljdldhajkiaaDoor.pg
open Go.ChangeShapes Go.WideShapes Go.ChangeAt Go.RowKit
set_option linter.unusedVariables false
set_option linter.unusedSimpArgs false
set_option maxRecDepth 100000
theorem chk_sizes {ins : Pr → Fn → Ins → Int} {P : Pr} {e : Int} (h : sizesE P = e) (he : e ≠ 0) : chk ins P = (e, 0, 0) := by unfold chk; rw [if_neg (by rw [h]; exact he), h]
theorem chk_fns {ins : Pr → Fn → Ins → Int} {P : Pr} (h : sizesE P = 0) : chk ins P = fnsE ins P P.fns 0 := by unfold chk; rw [if_pos h]
theorem ret_chk {a b c a' b' c' : Int} (h : (a, b, c) = (a', b', c')) : Ending.returned (.tuple #[.int .i64 a, .agg #[.int .i64 b, .int .i64 c]]) = .returned (.tuple #[.int .i64 a', .agg #[.int .i64 b', .int .i64 c']]) := by
  cases h; rfl
abbrev objZ : Obj := .cells #[.int .i64 0, .int .i64 0] 47
theorem fns_get (M : MPr) (k : Nat) (x : MFn) (hx : M.fns[k]? = some x) : M.pr.fns[k]? = some x.fn := by simp [MPr.pr, hx]
set_option maxHeartbeats 4000000 in
theorem check_any (M : MPr) (w : World) (hl : M.lies w) (hF : prog.Forms w) (a b c : Int) (hr : Hid (chk insP M.pr = (a, b, c))) :
    Calls Tryd.prog 52 #[M.val] w fun e w' => e = .returned (.tuple #[.int .i64 a, .agg #[.int .i64 b, .int .i64 c]]) ∧ Below w.heap.size w w' := by
  have hb := boxed2 w (objP M) objZ
  have hL := hl.later hb
  have hFW := hF.later hb
  have hln := rows_len hl.2.2.1
  obtain ⟨e, he⟩ : ∃ e, Hid (sizesE M.pr = e) := ⟨_, rfl⟩
  have hcs := checkSizes_any M _ hL e he
  clear hl hF
  go_enter Tryd.func52, Tryd.ntmps52
  by_cases h0 : e = 0
  · subst h0
    have hc0 := chk_fns (ins := insP) he.out
    go_wp2_with (go_at_call 60; (with_reducible refine hcs.mono ?_); rintro e w2 ⟨rfl, hb2⟩; obtain ⟨hbc, hbf⟩ := bcell hb2)
    clear hbc hbf
    go_loopw [17] (fun u wr => ∃ k : Nat, k ≤ M.fns.length ∧ u = .int .i64 k ∧ (∀ j y, j < k → M.fns[j]? = some y → (fnE insP M.pr (0 + j) y.fn).1 = 0) ∧ Below ((w.alloc (objP M)).alloc objZ).heap.size ((w.alloc (objP M)).alloc objZ) wr) (fun u _ => M.fns.length - (intOf u).toNat)
    case atStart => exact ⟨0, Nat.zero_le _, rfl, fun j y hj => by omega, hb2⟩
    case round =>
      obtain ⟨k, hk, rfl, hall, hbr⟩ := hrel
      have hall' : ∀ i f, i < k → M.pr.fns[i]? = some f → (fnE insP M.pr (0 + i) f).1 = 0 := fun i y hi hy => by
        simp only [MPr.pr, List.getElem?_map, Option.map_eq_some_iff] at hy
        obtain ⟨y', hy', rfl⟩ := hy
        exact hall i y' hi hy'
      by_cases hlt : k < M.fns.length
      · obtain ⟨x, hx, hm⟩ := get_lt M.fns k hlt
        obtain ⟨e, q, hE⟩ : ∃ e q, Hid (fnE insP M.pr k x.fn = (e, q)) := ⟨_, _, rfl⟩
        have hcall := checkFunc_any M k x wr e q (hL.later hbr) (hFW.later hbr) hx hE
        by_cases h0 : e = 0
        · subst h0
          obtain ⟨hbc, hbf⟩ := bcell hbr
          go_wp2_with (go_at_call 61; (with_reducible refine hcall.mono ?_); rintro e w3 ⟨rfl, hb3⟩)
          go_roundw
          case rel => exact ⟨k + 1, by omega, by go_num, (fun j y hj hy => by
            by_cases hjk : j = k
            · subst hjk; rw [hx] at hy; cases hy; rw [Nat.zero_add, hE.out]
            · exact hall j y (by omega) hy), bthen hbr hb3⟩
          case measure => simp [intOf]; omega
        · have hv : Hid (chk insP M.pr = (e, (k : Int), q)) := hc0.trans ((fnsE_hit insP M.pr _ 0 k x.fn (fns_get M k x hx) hall' (by rw [Nat.zero_add, hE.out]; exact h0)).trans (by rw [Nat.zero_add, hE.out]))
          have hb4 : Hid (Below w.heap.size w wr) := bthen hb hbr
          obtain ⟨hbc, hbf⟩ := bcell hbr
          go_wp2_with (go_at_call 61; (with_reducible refine hcall.mono ?_); rintro e' w3 ⟨rfl, hb3⟩; (have hb5 := bthen hbr hb3); clear hbc hbf; obtain ⟨hbc, hbf⟩ := bcell hb5)
          exact bodyPost_ret (v := .tuple #[.int .i64 e, .agg #[.int .i64 k, .int .i64 q]]) (by simp [results, Tryd.results52, go_sem, hbc]) rfl ⟨ret_chk (hv.out.symm.trans hr.out), ((bthen hb hb5).setCell (by simp) _).setCell (by simp) _⟩
      · have hv : Hid (chk insP M.pr = (0, 0, 0)) := hc0.trans (fnsE_zero insP M.pr _ 0 fun i f hf => hall' i f (by have := (List.getElem?_eq_some_iff.mp hf).1; simp [MPr.pr] at this; omega) hf)
        obtain ⟨hbc, hbf⟩ := bcell hbr
        go_wp2
        exact bodyPost_ret (v := .tuple #[.int .i64 0, .agg #[.int .i64 0, .int .i64 0]]) (by simp [results, Tryd.results52, go_sem, hbc]) rfl ⟨ret_chk (hv.out.symm.trans hr.out), ((bthen hb hbr).setCell (by simp) _).setCell (by simp) _⟩
  · have hv : Hid (chk insP M.pr = (e, 0, 0)) := chk_sizes he.out h0
    go_wp2_with (go_at_call 60; (with_reducible refine hcs.mono ?_); rintro e w2 ⟨rfl, hb2⟩; obtain ⟨hbc, hbf⟩ := bcell hb2)
    exact bodyPost_ret (v := .tuple #[.int .i64 e, .agg #[.int .i64 0, .int .i64 0]]) (by simp [results, Tryd.results52, go_sem, hbc]) rfl ⟨ret_chk (hv.out.symm.trans hr.out), ((bthen hb hb2).setCell (by simp) _).setCell (by simp) _⟩
end Go.Proofs.YtlcljdldhajkiaaDoor.pg
/- One place alone; what is wrong with a place. -/
namespace Go.Proofs.YtlcljdldhajkiaaDoor.pg
open Go.ChangeShapes Go.WideShapes Go.ChangeAt Go.RowKit Go.Shelf
set_option linter.unusedVariables false
set_option linter.unusedSimpArgs false
set_option maxRecDepth 100000
def onePl (pc : Nat) : Nat → Bool := fun k => decide (k = pc)
theorem just_any (pc : Nat) (hp : pc < 64) (w : World) : Calls Tryd.prog 46 #[.int .i64 (pc : Int)] w fun e w' => e = .returned (.agg (boolRow 64 (onePl pc))) ∧ Below w.heap.size w w' := by
  have huP : Hid (Tryd.prog.underlying 65 = _) := Tryd.underlying65
  have hzP : Hid (∀ w, (zeroValue 65).run Tryd.prog w = .ok (.agg (boolRow 64 fun _ => false)) w) := zeroSt
  obtain ⟨p1, p2⟩ := two_new w (objPl fun _ => false) (objPl fun _ => false)
  have hb := boxed2 w (objPl fun _ => false) (objPl fun _ => false)
  have xI := ix_pl (w.heap.size + 1) pc hp
  have cO := cell_ofF (k := pc) (v := .bool false) p2 (boolRow_at hp)
  have fO := frozen_of_row _ _ pc _ _ p2
  have nx : Hid (∀ W', W' = ((w.alloc (objPl fun _ => false)).alloc (objPl fun _ => false)).setCell ⟨w.heap.size + 1, pc, none⟩ (.bool true) → W'.heap[w.heap.size]? = some (objPl fun _ => false) ∧ W'.heap[w.heap.size + 1]? = some (objPl (onePl pc)) ∧ Below w.heap.size w W') := fun W' e => by
    rw [e]
    refine ⟨(Below.heap_setCell _ _ _ _ (by show w.heap.size ≠ w.heap.size + 1; omega)).trans p1, ?_, hb.setCell (p := ⟨w.heap.size + 1, pc, none⟩) (by show w.heap.size ≤ w.heap.size + 1; omega) _⟩
    rw [setCell_eq_setRow _ (w.heap.size + 1) pc _ _ _ _ p2, boolRow_set, setRow_heap _ (w.heap.size + 1) _ _ _ _ p2]
    have : (fun b => if b = pc then true else false) = onePl pc := by funext b; unfold onePl; by_cases c : b = pc <;> simp [c]
    rw [this]
  clear p1 p2 hb
  go_enter Tryd.func46, Tryd.ntmps46
  go_wp2_with (first
    | (refine wpList_alloc_big rfl 65 rfl hzP.out ?_)
    | (refine wpList_putb rfl 4 _ _ rfl ⟨w.heap.size + 1, pc, none⟩ rfl true rfl (by kernel_rfl) _ cO fO ?_; intro W1 hW1; (have hn := nx.out W1 hW1); clear hW1; obtain ⟨n1, n2, n3⟩ := hn)
    | (refine wpList_load_row rfl 65 _ rfl (w.heap.size + 1) rfl _ _ _ _ n2 huP.out rfl (infoSt _) ?_)
    | (refine wpList_store_row rfl 65 _ _ rfl w.heap.size (boolRow 64 (onePl pc)) rfl rfl _ _ n1 (infoSt _) (by rw [boolRow_size, boolRow_size]) (boolRow_one _ _) ?_))
  exact bodyPost_ret (results_pl Tryd.results46 _ _ w.heap.size _ rfl (setRow_heap _ _ _ _ _ _ n1)) rfl ⟨rfl, below_rowN n3 (Nat.le_refl _)⟩
/-- What is wrong with a place. -/
def fitF (P : Pr) (f : Int) : Int := if (chk insP P).1 = 0 then (if 0 ≤ f ∧ f < P.fns.length then 0 else 1) else 3
set_option maxHeartbeats 1000000 in
theorem fcheckFunc_any (M : MPr) (f : Int) (w : World) (hM : M.lies w) (hF : prog.Forms w) (e : Int) (he : Hid (e = fitF M.pr f)) : Calls Tryd.prog 34 #[M.val, .int .i64 f] w fun e' w' => e' = .returned (.int .i64 e) ∧ Below w.heap.size w w' := by
  obtain ⟨a, b, c, hc⟩ : ∃ a b c, Hid (chk insP M.pr = (a, b, c)) := ⟨_, _, _, rfl⟩
  have hb := boxed w (objP M)
  have hcall := check_any M _ (hM.later hb) (hF.later hb) a b c hc
  have bP := boxP_new w M
  have bPH : Hid (BoxP (w.alloc (objP M)) w.heap.size M) := bP
  have hbH : Hid (Below w.heap.size w (w.alloc (objP M))) := hb
  have hl : ((M.pr.fns.length : Nat) : Int) = M.fns.length := by show (((M.fns.map MFn.fn).length : Nat) : Int) = _; rw [List.length_map]
  by_cases ca : a = 0
  · subst ca
    have e1 : e = if 0 ≤ f ∧ f < M.fns.length then 0 else 1 := by rw [he.out, fitF, if_pos (by rw [hc.out]), hl]
    clear he hc hM hF hb
    by_cases f0 : f < 0
    · have e2 : e = 1 := by rw [e1, if_neg (by omega)]
      subst e2
      have d0 : decide (f < 0) = true := decide_eq_true f0
      clear e1 hl
      go_enter Tryd.func34, Tryd.ntmps34
      go_wp2_with (go_at_call 52; (with_reducible refine hcall.mono ?_); rintro e w2 ⟨rfl, hb2⟩)
      go_ret
      exact ⟨rfl, bthen (bthen hbH.out hb2) (boxed _ _)⟩
    have d0 : decide (f < 0) = false := decide_eq_false f0
    by_cases f1 : (M.fns.length : Int) ≤ f
    · have e2 : e = 1 := by rw [e1, if_neg (by omega)]
      subst e2
      have d1 : decide ((M.fns.length : Int) ≤ f) = true := decide_eq_true f1
      clear e1 hl f0 f1
      go_enter Tryd.func34, Tryd.ntmps34
      go_wp2_with (go_at_call 52; (with_reducible refine hcall.mono ?_); rintro e w2 ⟨rfl, hb2⟩; (have p3 := ((bPH.out.later hb2).later (boxed w2 (Obj.cells #[.int .i64 b, .int .i64 c] 47))).2.2.2))
      go_ret
      exact ⟨rfl, bthen (bthen hbH.out hb2) (boxed _ _)⟩
    · have e2 : e = 0 := by rw [e1, if_pos (by omega)]
      subst e2
      have d1 : decide ((M.fns.length : Int) ≤ f) = false := decide_eq_false f1
      clear e1 hl f0 f1
      go_enter Tryd.func34, Tryd.ntmps34
      go_wp2_with (go_at_call 52; (with_reducible refine hcall.mono ?_); rintro e w2 ⟨rfl, hb2⟩; (have p3 := ((bPH.out.later hb2).later (boxed w2 (Obj.cells #[.int .i64 b, .int .i64 c] 47))).2.2.2))
      go_ret
      exact ⟨rfl, bthen (bthen hbH.out hb2) (boxed _ _)⟩
  · have e3 : e = 3 := by rw [he.out, fitF, if_neg (by rw [hc.out]; exact ca)]
    subst e3
    have d : (a != 0) = true := by simpa using ca
    clear he hc hM hF ca hl hb
    go_enter Tryd.func34, Tryd.ntmps34
    go_wp2_with (go_at_call 52; (with_reducible refine hcall.mono ?_); rintro e w2 ⟨rfl, hb2⟩)
    go_ret
    exact ⟨rfl, bthen (bthen hbH.out hb2) (boxed _ _)⟩
def fnAtF (P : Pr) (n : Int) : Fn := P.fns.getD n.toNat ⟨0, 0, [], []⟩
def fitP (P : Pr) (f pc : Int) : Int := if fitF P f = 0 then (if 0 ≤ pc ∧ pc < (fnAtF P f).code.length then 0 else 1) else fitF P f
theorem fitF_ok {P : Pr} {f : Int} (h : fitF P f = 0) : (chk insP P).1 = 0 ∧ 0 ≤ f ∧ f < P.fns.length := by
  unfold fitF at h
  split at h
  · rename_i h1
    split at h
    · rename_i h2; exact ⟨h1, h2⟩
    · cases h
  · cases h
theorem fn_get {M : MPr} {f : Int} (h : fitF M.pr f = 0) : ∃ F, M.fns[f.toNat]? = some F ∧ F ∈ M.fns ∧ fnAtF M.pr f = F.fn := by
  obtain ⟨_, h1, h2⟩ := fitF_ok h
  have hl : ((M.pr.fns.length : Nat) : Int) = M.fns.length := by show (((M.fns.map MFn.fn).length : Nat) : Int) = _; rw [List.length_map]
  obtain ⟨F, h3, h4⟩ := get_lt M.fns f.toNat (by omega)
  refine ⟨F, h3, h4, ?_⟩
  unfold fnAtF
  rw [List.getD_eq_getElem?_getD]
  show ((M.fns.map MFn.fn)[f.toNat]?).getD _ = _
  rw [List.getElem?_map, h3]
  rfl
set_option maxHeartbeats 1000000 in
theorem fcheckPlace_any (M : MPr) (f pc : Int) (w : World) (hM : M.lies w) (hF : prog.Forms w) (e : Int) (he : Hid (e = fitP M.pr f pc)) : Calls Tryd.prog 25 #[M.val, .int .i64 f, .int .i64 pc] w fun e' w' => e' = .returned (.int .i64 e) ∧ Below w.heap.size w w' := by
  have hb := boxed w (objP M)
  have bP := boxP_new w M
  have bPH : Hid (BoxP (w.alloc (objP M)) w.heap.size M) := bP
  have hbH : Hid (Below w.heap.size w (w.alloc (objP M))) := hb
  obtain ⟨c, hc⟩ : ∃ c, Hid (c = fitF M.pr f) := ⟨_, rfl⟩
  have hcall := fcheckFunc_any M f _ (hM.later hb) (hF.later hb) c hc
  have hMH : Hid (M.lies w) := hM
  by_cases c0 : c = 0
  · have h0 : fitF M.pr f = 0 := by rw [← hc.out]; exact c0
    obtain ⟨F, hFi, hFm, eF⟩ := fn_get h0
    obtain ⟨_, f0, f1⟩ := fitF_ok h0
    have e1 : e = if 0 ≤ pc ∧ pc < F.code.length then 0 else 1 := by rw [he.out, fitP, if_pos h0, eF]; rfl
    obtain ⟨fb, fo, hfix, hfb, fc0, fc1, fc2, fc3⟩ := fn_ix (hM.later hb).2.2.1 f.toNat F hFi
    rw [show ((f.toNat : Nat) : Int) = f by omega] at hfix
    have fc2H : Hid ((w.alloc (objP M)).cell? ⟨fb, fo + 2, none⟩ = some (.slice F.ca F.code.length F.ccap)) := fc2
    subst c0
    clear he hc hM hF hb eF hFi hFm h0 f0 f1 hfb fc0 fc1 fc2 fc3
    by_cases p0 : pc < 0
    · have e2 : e = 1 := by rw [e1, if_neg (by omega)]
      subst e2
      have d0 : decide (pc < 0) = true := decide_eq_true p0
      clear e1
      go_enter Tryd.func25, Tryd.ntmps25
      go_wp2_with (go_at_call 34; (with_reducible refine hcall.mono ?_); rintro e w2 ⟨rfl, hb2⟩)
      go_ret
      exact ⟨rfl, bthen hbH.out hb2⟩
    have d0 : decide (pc < 0) = false := decide_eq_false p0
    by_cases p1 : (F.code.length : Int) ≤ pc
    · have e2 : e = 1 := by rw [e1, if_neg (by omega)]
      subst e2
      have d1 : decide ((F.code.length : Int) ≤ pc) = true := decide_eq_true p1
      clear e1 p0 p1
      go_enter Tryd.func25, Tryd.ntmps25
      go_wp2_with (go_at_call 34; (with_reducible refine hcall.mono ?_); rintro e w2 ⟨rfl, hb2⟩; (have p3 := (bPH.out.later hb2).2.2.2); (have k2 := cell_later hb2 fc2H.out))
      go_ret
      exact ⟨rfl, bthen hbH.out hb2⟩
    · have e2 : e = 0 := by rw [e1, if_pos (by omega)]
      subst e2
      have d1 : decide ((F.code.length : Int) ≤ pc) = false := decide_eq_false p1
      clear e1 p0 p1
      go_enter Tryd.func25, Tryd.ntmps25
      go_wp2_with (go_at_call 34; (with_reducible refine hcall.mono ?_); rintro e w2 ⟨rfl, hb2⟩; (have p3 := (bPH.out.later hb2).2.2.2); (have k2 := cell_later hb2 fc2H.out))
      go_ret
      exact ⟨rfl, bthen hbH.out hb2⟩
  · have e1 : e = c := by rw [he.out, fitP, if_neg (by rw [← hc.out]; exact c0), hc.out]
    subst e1
    have d : (e != 0) = true := by simpa using c0
    clear he hc hM hF hb c0
    go_enter Tryd.func25, Tryd.ntmps25
    go_wp2_with (go_at_call 34; (with_reducible refine hcall.mono ?_); rintro e w2 ⟨rfl, hb2⟩)
    go_ret
    exact ⟨rfl, bthen hbH.out hb2⟩
end Go.Proofs.YtlcljdldhajkiaaDoor.pg
