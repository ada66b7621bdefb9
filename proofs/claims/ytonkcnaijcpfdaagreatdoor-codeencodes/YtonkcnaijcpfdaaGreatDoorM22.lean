/- The contracts of package prog's look at a function, and of Check. -/
import Derived.Test.YtonkcnaijcpfdaaGreatDoorM4
import Derived.Test.YtonkcnaijcpfdaaGreatDoorM21
namespace Go.Proofs.YtonkcnaijcpfdaaGreatDoor.pg
open Go.ChangeShapes Go.WideShapes Go.ChangeAt Go.RowKit
set_option linter.unusedVariables false
set_option linter.unusedSimpArgs false
set_option maxRecDepth 100000
theorem fnE_shape {ins : Pr → Fn → Ins → Int} {P : Pr} {n : Nat} {f : Fn} (h : ¬ (shaped f ∧ (n = 0 → f.params = 0))) : fnE ins P n f = (32, 0) := by unfold fnE; rw [if_neg h]
theorem fnE_sel {ins : Pr → Fn → Ins → Int} {P : Pr} {n : Nat} {f : Fn} {e : Int} (h : shaped f ∧ (n = 0 → f.params = 0)) (h2 : firstE (selE P f) f.sels = e) (he : e ≠ 0) : fnE ins P n f = (e, 0) := by
  unfold fnE; rw [if_pos h, if_neg (by rw [h2]; exact he), h2]
theorem fnE_ins {ins : Pr → Fn → Ins → Int} {P : Pr} {n : Nat} {f : Fn} {e : Int} {k : Nat} (h : shaped f ∧ (n = 0 → f.params = 0)) (h2 : firstE (selE P f) f.sels = 0) (h3 : firstAt (ins P f) f.code 0 = (e, k)) (he : e ≠ 0) : fnE ins P n f = (e, (k : Int)) := by
  have h4 : firstE (ins P f) f.code ≠ 0 := by rw [← firstAt_fst (ins P f) f.code 0, h3]; exact he
  unfold fnE; rw [if_pos h, if_pos h2, if_neg h4, h3]
theorem fnE_fall {ins : Pr → Fn → Ins → Int} {P : Pr} {n : Nat} {f : Fn} (h : shaped f ∧ (n = 0 → f.params = 0)) (h2 : firstE (selE P f) f.sels = 0) (h3 : firstE (ins P f) f.code = 0) (h4 : ¬ ends (lastOp f)) : fnE ins P n f = (39, (f.code.length : Int) - 1) := by
  unfold fnE; rw [if_pos h, if_pos h2, if_pos h3, if_neg h4]
theorem fnE_ok {ins : Pr → Fn → Ins → Int} {P : Pr} {n : Nat} {f : Fn} (h : shaped f ∧ (n = 0 → f.params = 0)) (h2 : firstE (selE P f) f.sels = 0) (h3 : firstE (ins P f) f.code = 0) (h4 : ends (lastOp f)) : fnE ins P n f = (0, 0) := by
  unfold fnE; rw [if_pos h, if_pos h2, if_pos h3, if_pos h4]
theorem ret_ii {a b c d : Int} (h : (a, c) = (b, d)) : Ending.returned (.tuple #[.int .i64 a, .int .i64 c]) = .returned (.tuple #[.int .i64 b, .int .i64 d]) := by
  cases h; rfl
theorem sels_get (f : MFn) (k : Nat) (x : MSel) (hx : f.sels[k]? = some x) : f.fn.sels[k]? = some x.sel := by simp [MFn.fn, hx]
set_option maxHeartbeats 4000000 in
theorem checkFunc_any (M : MPr) (n : Nat) (f : MFn) (w : World) (r q : Int) (hl : M.lies w) (hF : prog.Forms w) (hf : M.fns[n]? = some f) (hr : Hid (fnE insP M.pr n f.fn = (r, q))) :
    Calls Tryz.prog 49 #[M.val, .int .i64 n] w fun e w' => e = .returned (.tuple #[.int .i64 r, .int .i64 q]) ∧ Below w.heap.size w w' := by
  have hb1 := boxed w (objP M)
  have hb2 := boxed (w.alloc (objP M)) (objF f)
  have hb := boxed2 w (objP M) (objF f)
  have bP0 := boxP_new w M
  have bP := bP0.later hb2
  have bF := boxF_new (w.alloc (objP M)) f
  simp only [World.size_alloc] at bF
  have hfm : f ∈ M.fns := List.mem_of_getElem? hf
  have hL := hl.later hb
  have hFW := hF.later hb
  have hfL : f.lies ((w.alloc (objP M)).alloc (objF f)) := hL.2.2.2.2.2.2 f hfm
  have hz : w.heap.size + 1 < ((w.alloc (objP M)).alloc (objF f)).heap.size := by simp only [World.size_alloc]; omega
  have hln := rows_len hfL.1
  have hlns := rows_len hfL.2.1
  obtain ⟨b, o, hix, hbl, c0, c1, c2, c3⟩ := fn_ix (hl.later hb1).2.2.1 n f hf
  obtain ⟨rs, hrs⟩ : ∃ rs, Hid (decide (shaped f.fn) = rs) := ⟨_, rfl⟩
  have hsh := shaped_any f _ hfL rs hrs
  clear hb1 hb2 hl hF bP0 hf hfm
  have hn0 : Hid ((0 : Int) ≤ n) := by show (0 : Int) ≤ n; omega
  go_enter Tryz.func49, Tryz.ntmps49
  cases rs with
  | false =>
    have hv : Hid (fnE insP M.pr n f.fn = (32, 0)) := fnE_shape (fun h => by have := hrs.out; rw [decide_eq_false_iff_not] at this; exact this h.1)
    go_wp2_with (go_at_call 78; (with_reducible refine hsh.mono ?_); rintro e w2 ⟨rfl, hb2⟩)
    go_ret2
    exact ⟨ret_ii (hv.out.symm.trans hr.out), bthen hb hb2⟩
  | true =>
    have hS : Hid (shaped f.fn) := by have := hrs.out; rw [decide_eq_true_iff] at this; exact this
    by_cases h0 : (n : Int) = 0 ∧ ¬ f.params = 0
    · have hv : Hid (fnE insP M.pr n f.fn = (32, 0)) := fnE_shape (fun h => h0.2 (h.2 (by omega)))
      obtain ⟨h00, h01⟩ := h0
      rw [h00] at hix
      go_wp2_with (go_at_call 78; (with_reducible refine hsh.mono ?_); rintro e w2 ⟨rfl, hb2⟩; obtain ⟨f0, f1, f2, f3⟩ := bF.later hb2)
      go_ret2
      exact ⟨ret_ii (hv.out.symm.trans hr.out), bthen hb hb2⟩
    · have hS0 : Hid (shaped f.fn ∧ (n = 0 → f.fn.params = 0)) := ⟨hS.out, fun hn => by
        apply Classical.byContradiction
        intro hp
        exact h0 ⟨by omega, hp⟩⟩
      have hreg : 0 ≤ f.regs ∧ f.regs ≤ 8 := hS.out.1
      have hcl : 1 ≤ f.code.length := hS.out.2.2.1.1
      obtain ⟨xl, hxl, hxm⟩ := get_lt f.code (f.code.length - 1) (by omega)
      have hlast : Hid (lastOp f.fn = xl.op) := by
        show lastOp f.fn = _
        unfold lastOp
        have : f.fn.code.getLast? = some xl := by rw [List.getLast?_eq_getElem?]; exact hxl
        rw [this]
      by_cases hn00 : (n : Int) = 0
      all_goals
        have hp0 : (n : Int) = 0 → f.params = 0 := fun hn => Classical.byContradiction fun hp => h0 ⟨hn, hp⟩
        first | (have hp0h : Hid (f.params = 0) := hp0 hn00; rw [hn00] at hix) | skip
        clear h0 hp0
        go_wp2_with (go_at_call 78; (with_reducible refine hsh.mono ?_); rintro e w2 ⟨rfl, hb2⟩; obtain ⟨f0, f1, f2, f3⟩ := bF.later hb2; first | (have hp00 := hp0h.out) | skip)
        first | clear hp00 | skip
        have hP2 : Hid (BoxP w2 w.heap.size M) := bP.later hb2
        have hF2 : Hid (BoxF w2 (w.heap.size + 1) f) := bF.later hb2
        have hL2 : Hid (M.lies w2) := hL.later hb2
        have hf2 : Hid (f.lies w2) := hfL.later hb2
        have hFo2 : Hid (prog.Forms w2) := hFW.later hb2
        have hbw2 : Below w.heap.size w w2 := bthen hb hb2
        have hz2 : w.heap.size + 1 < w2.heap.size := by have := hb2.size; omega
        clear hb2 hb bP bF hL hfL hFW hz hsh hix c0 c1 c2 c3 hbl f0 f1 f2 f3
        go_loopw [34] (fun u wr => ∃ k : Nat, k ≤ f.sels.length ∧ u = .int .i64 k ∧ (∀ j y, j < k → f.sels[j]? = some y → selE M.pr f.fn y.sel = 0) ∧ Below w2.heap.size w2 wr) (fun u _ => f.sels.length - (intOf u).toNat)
        case atStart => exact ⟨0, Nat.zero_le _, rfl, fun j y hj => by omega, Below.refl _ _⟩
        case round =>
          obtain ⟨k, hk, rfl, hall, hbr⟩ := hrel
          have hPr : Hid (BoxP wr w.heap.size M) := hP2.out.later hbr
          have hFr : Hid (BoxF wr (w.heap.size + 1) f) := hF2.out.later hbr
          obtain ⟨p0, p1, p2, p3⟩ := hPr.out
          obtain ⟨f0, f1, f2, f3⟩ := hFr.out
          have z := hbr.size
          have z0 : w.heap.size < wr.heap.size := by omega
          have z1 : w.heap.size + 1 < wr.heap.size := by omega
          have hbwr : Below w.heap.size w wr := bthen hbw2 hbr
          by_cases hlt : k < f.sels.length
          · obtain ⟨x, hx, hm⟩ := get_lt f.sels k hlt
            have hfr := hf2.out.later hbr
            obtain ⟨b, o, hix, hbl, c0, c1⟩ := sel_ix hfr.2.1 k x hx
            have hLa := (hL2.out.later hbr).later (boxed wr (objS x))
            have hSa := (hfr.2.2.2.1 x hm).later (boxed wr (objS x))
            obtain ⟨e, he⟩ : ∃ e, Hid (selE M.pr f.fn x.sel = e) := ⟨_, rfl⟩
            have hcall := checkSelect_any M f x _ hLa hSa e he
            have hbx : Below w.heap.size w (wr.alloc (objS x)) := bthen hbwr (boxed wr (objS x))
            have hbW : Below w2.heap.size w2 (wr.alloc (objS x)) := bthen hbr (boxed wr (objS x))
            clear hLa hSa hfr
            by_cases h0 : e = 0
            · subst h0
              go_wp2_with (go_at_call 79; (with_reducible refine hcall.mono ?_); rintro e w3 ⟨rfl, hb3⟩)
              go_roundw
              case rel => exact ⟨k + 1, by omega, by go_num, (fun j y hj hy => by
                by_cases hjk : j = k
                · subst hjk; rw [hx] at hy; cases hy; exact he.out
                · exact hall j y (by omega) hy), bthen hbW hb3⟩
              case measure => simp [intOf]; omega
            · have hv : Hid (fnE insP M.pr n f.fn = (e, 0)) := fnE_sel hS0.out ((firstE_hit _ _ k x.sel (sels_get f k x hx) (fun i y hi hy => by
                simp only [MFn.fn, List.getElem?_map, Option.map_eq_some_iff] at hy
                obtain ⟨y', hy', rfl⟩ := hy
                exact hall i y' hi hy') (by rw [he.out]; exact h0)).trans he.out) h0
              go_wp2_with (go_at_call 79; (with_reducible refine hcall.mono ?_); rintro e w3 ⟨rfl, hb3⟩)
              go_ret2
              exact ⟨ret_ii (hv.out.symm.trans hr.out), bthen hbx hb3⟩
          · have hs0 : Hid (firstE (selE M.pr f.fn) f.fn.sels = 0) := firstE_zero _ _ fun s hs => by
              simp only [MFn.fn, List.mem_map] at hs
              obtain ⟨y, hy, rfl⟩ := hs
              obtain ⟨j, hj, rfl⟩ := List.getElem_of_mem hy
              exact hall j _ (by omega) (List.getElem?_eq_getElem hj)
            have hLr : Hid (M.lies wr) := hL2.out.later hbr
            have hfr : Hid (f.lies wr) := hf2.out.later hbr
            have hFor : Hid (prog.Forms wr) := hFo2.out.later hbr
            clear hall hP2 hF2 hL2 hf2 hFo2 hbw2 hbr hz2 z
            go_wp2
            generalize hwq : wr = w4 at *
            go_loopw [49] (fun u wr => ∃ k : Nat, k ≤ f.code.length ∧ u = .int .i64 k ∧ (∀ j y, j < k → f.code[j]? = some y → insP M.pr f.fn y = 0) ∧ Below w4.heap.size w4 wr) (fun u _ => f.code.length - (intOf u).toNat)
            case atStart => exact ⟨0, Nat.zero_le _, rfl, fun j y hj => by omega, Below.refl _ _⟩
            case round =>
              obtain ⟨k, hk, rfl, hall, hbr⟩ := hrel
              have hPr2 : Hid (BoxP wr w.heap.size M) := hPr.out.later hbr
              have hFr2 : Hid (BoxF wr (w.heap.size + 1) f) := hFr.out.later hbr
              clear p0 p1 p2 p3 f0 f1 f2 f3
              obtain ⟨p0, p1, p2, p3⟩ := hPr2.out
              obtain ⟨f0, f1, f2, f3⟩ := hFr2.out
              have z := hbr.size
              have y0 : w.heap.size < wr.heap.size := by omega
              have y1 : w.heap.size + 1 < wr.heap.size := by omega
              have hbwr2 : Below w.heap.size w wr := bthen hbwr hbr
              by_cases hlt : k < f.code.length
              · obtain ⟨x, hx, hm⟩ := get_lt f.code k hlt
                have hfr2 := hfr.out.later hbr
                obtain ⟨b, o, hix, hbl, c0, c1, c2, c3, c4⟩ := ins_ix hfr2.1 k x hx
                have hLa := (hLr.out.later hbr).later (boxed wr (objI x))
                have hFoa := (hFor.out.later hbr).later (boxed wr (objI x))
                obtain ⟨e, he⟩ : ∃ e, Hid (insP M.pr f.fn x = e) := ⟨_, rfl⟩
                have hcall := checkInstr_any M f x _ e hLa (hfr2.2.2.1 x hm) hreg.1 hreg.2 hFoa he
                have hbx : Below w.heap.size w (wr.alloc (objI x)) := bthen hbwr2 (boxed wr (objI x))
                have hbW : Below w4.heap.size w4 (wr.alloc (objI x)) := bthen hbr (boxed wr (objI x))
                clear hLa hFoa hfr2
                by_cases h0 : e = 0
                · subst h0
                  go_wp2_with (go_at_call 80; (with_reducible refine hcall.mono ?_); rintro e w5 ⟨rfl, hb5⟩)
                  go_roundw
                  case rel => exact ⟨k + 1, by omega, by go_num, (fun j y hj hy => by
                    by_cases hjk : j = k
                    · subst hjk; rw [hx] at hy; cases hy; exact he.out
                    · exact hall j y (by omega) hy), bthen hbW hb5⟩
                  case measure => simp [intOf]; omega
                · have hv : Hid (fnE insP M.pr n f.fn = (e, (k : Int))) := fnE_ins hS0.out hs0.out ((firstAt_hit _ _ 0 k x hx hall (by rw [he.out]; exact h0)).trans (by rw [he.out, Nat.zero_add])) h0
                  go_wp2_with (go_at_call 80; (with_reducible refine hcall.mono ?_); rintro e w5 ⟨rfl, hb5⟩)
                  go_ret2
                  exact ⟨ret_ii (hv.out.symm.trans hr.out), bthen hbx hb5⟩
              · have hi0 : Hid (firstE (insP M.pr f.fn) f.fn.code = 0) := firstE_zero _ _ fun s hs => by
                  obtain ⟨j, hj, rfl⟩ := List.getElem_of_mem hs
                  exact hall j _ (by have : j < f.code.length := hj; omega) (List.getElem?_eq_getElem hj)
                have hfr2 := hfr.out.later hbr
                obtain ⟨b, o, hix, hbl, c0, c1, c2, c3, c4⟩ := ins_ix hfr2.1 (f.code.length - 1) xl hxl
                rw [show ((f.code.length - 1 : Nat) : Int) = (f.code.length : Int) - 1 by omega] at hix
                have hclI : (1 : Int) ≤ f.code.length := by omega
                clear hall hfr2
                by_cases e1 : xl.op = 42
                · have hv : Hid (fnE insP M.pr n f.fn = (0, 0)) := fnE_ok hS0.out hs0.out hi0.out (by rw [hlast.out]; exact .inl e1)
                  go_wp2
                  go_ret2
                  exact ⟨ret_ii (hv.out.symm.trans hr.out), hbwr2⟩
                · by_cases e2 : xl.op = 45
                  · have hv : Hid (fnE insP M.pr n f.fn = (0, 0)) := fnE_ok hS0.out hs0.out hi0.out (by rw [hlast.out]; exact .inr (.inl e2))
                    go_wp2
                    go_ret2
                    exact ⟨ret_ii (hv.out.symm.trans hr.out), hbwr2⟩
                  · by_cases e3 : xl.op = 61
                    · have hv : Hid (fnE insP M.pr n f.fn = (0, 0)) := fnE_ok hS0.out hs0.out hi0.out (by rw [hlast.out]; exact .inr (.inr e3))
                      go_wp2
                      go_ret2
                      exact ⟨ret_ii (hv.out.symm.trans hr.out), hbwr2⟩
                    · have hv : Hid (fnE insP M.pr n f.fn = (39, (f.fn.code.length : Int) - 1)) := fnE_fall hS0.out hs0.out hi0.out (by rw [hlast.out]; rintro (h | h | h) <;> omega)
                      go_wp2
                      go_ret2
                      exact ⟨ret_ii (hv.out.symm.trans hr.out), hbwr2⟩
end Go.Proofs.YtonkcnaijcpfdaaGreatDoor.pg
/- The contract of package prog's Check. -/
namespace Go.Proofs.YtonkcnaijcpfdaaGreatDoor.pg
open Go.ChangeShapes Go.WideShapes Go.ChangeAt Go.RowKit
set_option linter.unusedVariables false
set_option linter.unusedSimpArgs false
set_option maxRecDepth 100000
theorem chk_sizes {ins : Pr → Fn → Ins → Int} {P : Pr} {e : Int} (h : sizesE P = e) (he : e ≠ 0) : chk ins P = (e, 0, 0) := by unfold chk; rw [if_neg (by rw [h]; exact he), h]
theorem chk_fns {ins : Pr → Fn → Ins → Int} {P : Pr} (h : sizesE P = 0) : chk ins P = fnsE ins P P.fns 0 := by unfold chk; rw [if_pos h]
theorem ret_chk {a b c a' b' c' : Int} (h : (a, b, c) = (a', b', c')) : Ending.returned (.tuple #[.int .i64 a, .agg #[.int .i64 b, .int .i64 c]]) = .returned (.tuple #[.int .i64 a', .agg #[.int .i64 b', .int .i64 c']]) := by
  cases h; rfl
abbrev objZ : Obj := .cells #[.int .i64 0, .int .i64 0] 49
theorem fns_get (M : MPr) (k : Nat) (x : MFn) (hx : M.fns[k]? = some x) : M.pr.fns[k]? = some x.fn := by simp [MPr.pr, hx]
set_option maxHeartbeats 4000000 in
theorem check_any (M : MPr) (w : World) (hl : M.lies w) (hF : prog.Forms w) (a b c : Int) (hr : Hid (chk insP M.pr = (a, b, c))) :
    Calls Tryz.prog 30 #[M.val] w fun e w' => e = .returned (.tuple #[.int .i64 a, .agg #[.int .i64 b, .int .i64 c]]) ∧ Below w.heap.size w w' := by
  have hb := boxed2 w (objP M) objZ
  have hL := hl.later hb
  have hFW := hF.later hb
  have hln := rows_len hl.2.2.1
  obtain ⟨e, he⟩ : ∃ e, Hid (sizesE M.pr = e) := ⟨_, rfl⟩
  have hcs := checkSizes_any M _ hL e he
  clear hl hF
  go_enter Tryz.func30, Tryz.ntmps30
  by_cases h0 : e = 0
  · subst h0
    have hc0 := chk_fns (ins := insP) he.out
    go_wp2_with (go_at_call 48; (with_reducible refine hcs.mono ?_); rintro e w2 ⟨rfl, hb2⟩; obtain ⟨hbc, hbf⟩ := bcell hb2)
    clear hbc hbf
    go_loopw [17] (fun u wr => ∃ k : Nat, k ≤ M.fns.length ∧ u = .int .i64 k ∧ (∀ j y, j < k → M.fns[j]? = some y → (fnE insP M.pr (0 + j) y.fn).1 = 0) ∧ Below ((w.alloc (objP M)).alloc objZ).heap.size ((w.alloc (objP M)).alloc objZ) wr) (fun u _ => M.fns.length - (intOf u).toNat)
    case atStart => exact ⟨0, Nat.zero_le _, rfl, fun j y hj => by omega, hb2⟩
    case round =>
      obtain ⟨k, hk, rfl, hall, hbr⟩ := hrel
      have hall' : ∀ i f, i < k → M.pr.fns[i]? = some f → (fnE insP M.pr (0 + i) f).1 = 0 := fun i y hi hy => by
        simp only [MPr.pr, List.getElem?_map, Option.map_eq_some_iff] at hy
        obtain ⟨y', hy', rfl⟩ := hy
        exact hall i y' hi hy'
      by_cases hlt : k < M.fns.length
      · obtain ⟨x, hx, hm⟩ := get_lt M.fns k hlt
        obtain ⟨e, q, hE⟩ : ∃ e q, Hid (fnE insP M.pr k x.fn = (e, q)) := ⟨_, _, rfl⟩
        have hcall := checkFunc_any M k x wr e q (hL.later hbr) (hFW.later hbr) hx hE
        by_cases h0 : e = 0
        · subst h0
          obtain ⟨hbc, hbf⟩ := bcell hbr
          go_wp2_with (go_at_call 49; (with_reducible refine hcall.mono ?_); rintro e w3 ⟨rfl, hb3⟩)
          go_roundw
          case rel => exact ⟨k + 1, by omega, by go_num, (fun j y hj hy => by
            by_cases hjk : j = k
            · subst hjk; rw [hx] at hy; cases hy; rw [Nat.zero_add, hE.out]
            · exact hall j y (by omega) hy), bthen hbr hb3⟩
          case measure => simp [intOf]; omega
        · have hv : Hid (chk insP M.pr = (e, (k : Int), q)) := hc0.trans ((fnsE_hit insP M.pr _ 0 k x.fn (fns_get M k x hx) hall' (by rw [Nat.zero_add, hE.out]; exact h0)).trans (by rw [Nat.zero_add, hE.out]))
          have hb4 : Hid (Below w.heap.size w wr) := bthen hb hbr
          obtain ⟨hbc, hbf⟩ := bcell hbr
          go_wp2_with (go_at_call 49; (with_reducible refine hcall.mono ?_); rintro e' w3 ⟨rfl, hb3⟩; (have hb5 := bthen hbr hb3); clear hbc hbf; obtain ⟨hbc, hbf⟩ := bcell hb5)
          exact bodyPost_ret (v := .tuple #[.int .i64 e, .agg #[.int .i64 k, .int .i64 q]]) (by simp [results, Tryz.results30, go_sem, hbc]) rfl ⟨ret_chk (hv.out.symm.trans hr.out), ((bthen hb hb5).setCell (by simp) _).setCell (by simp) _⟩
      · have hv : Hid (chk insP M.pr = (0, 0, 0)) := hc0.trans (fnsE_zero insP M.pr _ 0 fun i f hf => hall' i f (by have := (List.getElem?_eq_some_iff.mp hf).1; simp [MPr.pr] at this; omega) hf)
        obtain ⟨hbc, hbf⟩ := bcell hbr
        go_wp2
        exact bodyPost_ret (v := .tuple #[.int .i64 0, .agg #[.int .i64 0, .int .i64 0]]) (by simp [results, Tryz.results30, go_sem, hbc]) rfl ⟨ret_chk (hv.out.symm.trans hr.out), ((bthen hb hbr).setCell (by simp) _).setCell (by simp) _⟩
  · have hv : Hid (chk insP M.pr = (e, 0, 0)) := chk_sizes he.out h0
    go_wp2_with (go_at_call 48; (with_reducible refine hcs.mono ?_); rintro e w2 ⟨rfl, hb2⟩; obtain ⟨hbc, hbf⟩ := bcell hb2)
    exact bodyPost_ret (v := .tuple #[.int .i64 e, .agg #[.int .i64 0, .int .i64 0]]) (by simp [results, Tryz.results30, go_sem, hbc]) rfl ⟨ret_chk (hv.out.symm.trans hr.out), ((bthen hb hb2).setCell (by simp) _).setCell (by simp) _⟩
end Go.Proofs.YtonkcnaijcpfdaaGreatDoor.pg
/- Decode, as the reader's parts make it. -/
namespace Go.Proofs.YtonkcnaijcpfdaaGreatDoor.pg
open Go.ChangeShapes Go.WideShapes Go.ChangeAt Go.RowKit
set_option linter.unusedVariables false
set_option linter.unusedSimpArgs false
set_option maxRecDepth 100000
def dPr (f : Nat → Nat) (n : Nat) : Pr × RS := rdPr f n (rdMag f n)
def dS (f : Nat → Nat) (n : Nat) : RS := rdEnd n (rdSum f n (dPr f n).2)
abbrev zeroP : MPr := ⟨none, 0, [], 0, none, 0, [], none, 0, []⟩
/-- A reader that has just been made. -/
def Fresh (w : World) (q : Nat) (ba : Option Addr) (bc n : Nat) (f : Nat → Nat) (w1 : World) : Prop :=
  octet.Rd w1 q 129 (.slice ba n bc) 0 ∧ octet.Row w1 ba n f ∧ Below w.heap.size w w1 ∧ w.heap.size ≤ q ∧ (n = 0 ∧ ba = none ∨ ∃ g, ba = some ⟨g, 0, none⟩ ∧ octet.Owns w1 w.heap.size g n bc f ∧ w.heap.size ≤ g ∧ g < w1.heap.size ∧ g ≠ q ∧ n ≤ bc ∧ (bc : Int) ≤ 9223372036854775807)
theorem newreader_any (a : Option Addr) (n c : Nat) (f : Nat → Nat) (w : World) (hr : octet.Row w a n f) (ha : a = none → n = 0 ∧ c = 0) (hl : n ≤ 65536) :
    Calls Tryz.prog 40 #[.slice a n c] w fun e w' => ∃ q ba bc, e = .returned (.pointer (some ⟨q, 0, none⟩)) ∧ Fresh w q ba bc n f w' := by
  cases a with
  | none =>
    obtain ⟨rfl, rfl⟩ := ha rfl
    exact (octet.newreader_nil f hr.2.1 w).mono fun e w' ⟨r, ba, bc, h1, h2⟩ => ⟨r, ba, bc, h1, h2⟩
  | some ad => exact (octet.newreader_some ad n c f w hr (by omega)).mono fun e w' ⟨r, ba, bc, h1, h2⟩ => ⟨r, ba, bc, h1, h2⟩
theorem owns_keep {w w' : World} {B g n c : Nat} {f : Nat → Nat} (h : octet.Owns w B g n c f) (hk : w'.heap[g]? = w.heap[g]?) : octet.Owns w' B g n c f := by
  refine ⟨h.1, ?_⟩
  rcases h.2 with q | ⟨g', cap', cur, q, hb, hh, hrest⟩
  · exact .inl q
  · refine .inr ⟨g', cap', cur, q, hb, ?_, hrest⟩
    have e2 : g = g' := by simp only [Value.slice.injEq, Option.some.injEq, Addr.mk.injEq] at q; exact q.1.1
    subst e2
    exact hk.trans hh
abbrev objR (q : Nat) : Obj := .cells #[.pointer (some ⟨q, 0, none⟩), .int .i64 0, .int .i64 0] 106
/-- The code's reader over it. -/
theorem fresh_rds {w w1 : World} {q bc n : Nat} {ba : Option Addr} {f : Nat → Nat} (h : Fresh w q ba bc n f w1) (hn : n ≤ 65536) :
    RdS (w1.alloc (objR q)) w1.heap.size q ba bc n f ⟨0, 0, 0⟩ ∧ Below w.heap.size w (w1.alloc (objR q)) ∧ w.heap.size ≤ w1.heap.size ∧ w.heap.size ≤ q := by
  obtain ⟨h1, h2, h3, h4, h5⟩ := h
  have hb := boxed w1 (objR q)
  refine ⟨⟨heap_alloc_new _ _, (hb.block q h1.lt).trans h1, h2.later hb, fun b hbb => ?_, Nat.zero_le _, hn⟩, h3.trans (hb.mono h3.size), h3.size, h4⟩
  rcases h5 with ⟨_, rfl⟩ | ⟨g, rfl, ho, g1, g2, g3, _⟩
  · simp [blk] at hbb
  · simp only [blk, List.mem_singleton] at hbb
    subst hbb
    exact ⟨by omega, g3, by rw [World.size_alloc]; omega⟩
theorem fresh_own {w w1 w2 : World} {q bc n r : Nat} {ba : Option Addr} {f : Nat → Nat} (h : Fresh w q ba bc n f w1) (hk : ∀ b, b ∈ blk ba → w2.heap[b]? = w1.heap[b]?) : n = 0 ∧ ba = none ∨ ∃ g, ba = some ⟨g, 0, none⟩ ∧ n ≤ bc ∧ (bc : Int) ≤ 9223372036854775807 ∧ ∃ B, octet.Owns w2 B g n bc f := by
  rcases h.2.2.2.2 with h5 | ⟨g, rfl, ho, g1, g2, g3, g4, g5⟩
  · exact .inl h5
  · exact .inr ⟨g, rfl, g4, g5, _, owns_keep ho (hk g (by simp [blk]))⟩
theorem fresh_keep {w w1 w2 : World} {q bc n r : Nat} {ba : Option Addr} {f : Nat → Nat} {s : RS} (h : RdS w1 r q ba bc n f s) (hf : Fr r q w1 w2) : ∀ b, b ∈ blk ba → w2.heap[b]? = w1.heap[b]? := fun b hb => hf.block b (h.bl b hb).2.2 (h.bl b hb).1 (h.bl b hb).2.1
theorem disj_keep {w1 w2 : World} {bc n : Nat} {ba : Option Addr} {f : Nat → Nat} (h : n = 0 ∧ ba = none ∨ ∃ g, ba = some ⟨g, 0, none⟩ ∧ n ≤ bc ∧ (bc : Int) ≤ 9223372036854775807 ∧ ∃ B, octet.Owns w1 B g n bc f) (hk : ∀ b ∈ blk ba, w2.heap[b]? = w1.heap[b]?) :
    n = 0 ∧ ba = none ∨ ∃ g, ba = some ⟨g, 0, none⟩ ∧ n ≤ bc ∧ (bc : Int) ≤ 9223372036854775807 ∧ ∃ B, octet.Owns w2 B g n bc f := by
  rcases h with h | ⟨g, rfl, h1, h2, B, ho⟩
  · exact .inl h
  · exact .inr ⟨g, rfl, h1, h2, B, owns_keep ho (hk g (by simp [blk]))⟩
theorem MPr.own.bd {w : World} {lo : Nat} {p : MPr} (h : p.own w lo) (b : Nat) (hb : b ∈ p.blocks) : lo ≤ b ∧ b < w.heap.size := by
  unfold MPr.blocks MPr.rest at hb
  simp only [List.mem_append, List.mem_flatMap] at hb
  rcases hb with hb | hb | hb | ⟨x, hx, hb⟩
  · exact blk_lt h.2.2.1 b hb
  · exact blk_lt h.1 b hb
  · exact blk_lt h.2.1 b hb
  · obtain ⟨cur, t, hc, _, hlo⟩ := (h.2.2.2 x hx).tag b hb
    exact ⟨hlo, (Array.getElem?_eq_some_iff.mp hc).1⟩
theorem bel5 {w w8 : World} (h : Below w.heap.size w w8) (v0 v1 v2 v3 : Value) (o : Obj) : Below w.heap.size w (((((w8.setCell ⟨w.heap.size, 0, none⟩ v0).setCell ⟨w.heap.size, 1, none⟩ v1).setCell ⟨w.heap.size, 2, none⟩ v2).setCell ⟨w.heap.size, 3, none⟩ v3).alloc o) := by
  have h4 : Below w.heap.size w ((((w8.setCell ⟨w.heap.size, 0, none⟩ v0).setCell ⟨w.heap.size, 1, none⟩ v1).setCell ⟨w.heap.size, 2, none⟩ v2).setCell ⟨w.heap.size, 3, none⟩ v3) := (((h.setCell (p := ⟨w.heap.size, 0, none⟩) (Nat.le_refl _) _).setCell (p := ⟨w.heap.size, 1, none⟩) (Nat.le_refl _) _).setCell (p := ⟨w.heap.size, 2, none⟩) (Nat.le_refl _) _).setCell (p := ⟨w.heap.size, 3, none⟩) (Nat.le_refl _) _
  exact h4.trans ((boxed _ o).mono h4.size)
theorem cells5 {w8 : World} {b : Nat} (h : w8.heap[b]? = some objP0) (v0 v1 v2 v3 : Value) (o : Obj) : (((((w8.setCell ⟨b, 0, none⟩ v0).setCell ⟨b, 1, none⟩ v1).setCell ⟨b, 2, none⟩ v2).setCell ⟨b, 3, none⟩ v3).alloc o).heap[b]? = some (.cells #[v0, v1, v2, v3] 26 (0, 0)) := by
  have h4 := set_to (set_to (set_to (set_to h 0 v0 rfl) 1 v1 rfl) 2 v2 rfl) 3 v3 (cs' := #[v0, v1, v2, v3]) rfl
  exact ((boxed _ o).block b (Array.getElem?_eq_some_iff.mp h4).1).trans h4
theorem MPr.own.mono {w : World} {lo lo' : Nat} {p : MPr} (h : p.own w lo) (hl : lo' ≤ lo) : p.own w lo' := ⟨own_mono h.1 hl, own_mono h.2.1 hl, own_mono h.2.2.1 hl, fun x hx => (h.2.2.2 x hx).mono hl⟩
section
variable {w : World} {n c : Nat} {a : Option Addr} {f : Nat → Nat}
theorem decode_long (hn : 65536 < n) (hn2 : (n : Int) ≤ 9223372036854775807) : Calls Tryz.prog 27 #[.slice a n c] w fun e w' => e = .returned (.tuple #[zeroP.val, .int .i64 2, .int .i64 0]) ∧ Below w.heap.size w w' := by
  have a0 : (w.alloc objP0).heap[w.heap.size]? = some objP0 := heap_alloc_new _ _
  have e0 := whole_cell a0 0 _ rfl
  have e1 := whole_cell a0 1 _ rfl
  have e2 := whole_cell a0 2 _ rfl
  have e3 := whole_cell a0 3 _ rfl
  have ez := fun o => whole_frozen a0 o
  have hI : (65536 : Int) < n := by omega
  have hb := boxed w objP0
  go_enter Tryz.func27, Tryz.ntmps27
  go_wp2
  refine bodyPost_ret (v := .tuple #[zeroP.val, .int .i64 2, .int .i64 0]) ?_ rfl ⟨rfl, ?_⟩
  · simp [results, Tryz.results27, go_sem, e0, e1, e2, e3]
  · go_grown
set_option maxHeartbeats 4000000 in
theorem decode_wrong (hr : octet.Row w a n f) (ha : a = none → n = 0 ∧ c = 0) (hbl : n = 0 ∨ ∀ b ∈ blk a, b < w.heap.size) (hn : n ≤ 65536) (hnc : n ≤ c) (hc : (c : Int) ≤ 9223372036854775807) (hF : ∀ wx, Below w.heap.size w wx → prog.Forms wx) (he : (dS f n).e ≠ 0) :
    Calls Tryz.prog 27 #[.slice a n c] w fun e w' => e = .returned (.tuple #[zeroP.val, .int .i64 (dS f n).e, .int .i64 ((dS f n).at_ : Int)]) ∧ Below w.heap.size w w' := by
  have a0 : (w.alloc objP0).heap[w.heap.size]? = some objP0 := heap_alloc_new _ _
  have hb0 := boxed w objP0
  have hI : ¬ (65536 : Int) < n := by omega
  have hbI : Hid (n = 0 ∨ ∀ b ∈ blk a, b < w.heap.size) := hbl
  have hrI : Hid (octet.Row w a n f) := hr
  have hnI : Hid (n ≤ 65536) := hn
  have dn : Hid (∀ wx, Below (w.heap.size + 1) (w.alloc objP0) wx → Below w.heap.size w wx) := fun wx hx => hb0.trans (hx.mono (by omega))
  have hFI : Hid (∀ wx, Below (w.heap.size + 1) (w.alloc objP0) wx → prog.Forms wx) := fun wx hx => hF wx (dn.out wx hx)
  have c1 : Calls Tryz.prog 40 #[.slice a n c] (w.alloc objP0) _ := newreader_any a n c f _ (hr.later hb0) ha hn
  have c2 : ∀ wx r q ba bc, RdS wx r q ba bc n f ⟨0, 0, 0⟩ → (n = 0 ∧ ba = none ∨ ∃ g, ba = some ⟨g, 0, none⟩ ∧ ∃ B, octet.Owns wx B g n bc f ∧ n ≤ bc ∧ (bc : Int) ≤ 9223372036854775807) → Calls Tryz.prog 41 #[.pointer (some ⟨r, 0, none⟩)] wx _ := fun wx r q ba bc h h2 => magic_r h h2
  have c3 : ∀ wx r q ba bc, RdS wx r q ba bc n f (rdMag f n) → (∀ wy, Fr r q wx wy → prog.Forms wy) → Calls Tryz.prog 42 #[.pointer (some ⟨r, 0, none⟩)] wx fun e w' => ∃ m : MPr, e = .returned m.val ∧ m.pr = (dPr f n).1 ∧ m.own w' wx.heap.size ∧ RdS w' r q ba bc n f (dPr f n).2 ∧ Fr r q wx w' := fun wx r q ba bc h h2 => program_r h h2
  have c4 : ∀ wx r q ba bc, RdS wx r q ba bc n f (dPr f n).2 → (n = 0 ∧ ba = none ∨ ∃ g, ba = some ⟨g, 0, none⟩ ∧ n ≤ bc ∧ (bc : Int) ≤ 9223372036854775807 ∧ ∃ B, octet.Owns wx B g n bc f) → octet.Row wx a n f → (n = 0 ∨ ∀ b ∈ blk a, b ≠ r ∧ b ≠ q ∧ b < wx.heap.size) → Calls Tryz.prog 43 #[.pointer (some ⟨r, 0, none⟩), .slice a n c] wx _ := fun wx r q ba bc h h2 h3 h4 => sum_r h h2 a c h3 h4 hnc hc (fun e => (ha e).2)
  have c5 : ∀ wx r q ba bc, RdS wx r q ba bc n f (rdSum f n (dPr f n).2) → Calls Tryz.prog 44 #[.pointer (some ⟨r, 0, none⟩)] wx fun e w' => e = .returned (.tuple #[]) ∧ RdS w' r q ba bc n f (dS f n) ∧ Fr r q wx w' := fun wx r q ba bc h => end_r h
  have hfb := hr.2.1
  have hwf : Hid (prWf (dPr f n).1) := wf_pr hfb _
  have he2 : ((dS f n).e != 0) = true := by simpa using he
  clear hr hbl hF ha hn
  generalize dS f n = D at *
  go_enter Tryz.func27, Tryz.ntmps27
  go_wp2_with (first
    | (go_at_call 40; (with_reducible refine c1.mono ?_); rintro e w1 ⟨q, ba, bc, rfl, hFr⟩; obtain ⟨h2, D2, z1, z2⟩ := fresh_rds hFr hnI.out; rw [World.size_alloc] at z1 z2 D2; (have o2 := fresh_own (r := 0) hFr (w2 := w1.alloc (objR q)) (fun b hb => (boxed w1 (objR q)).block b (by have := (h2.bl b hb); rw [World.size_alloc] at this; omega))); clear hFr)
    | (go_at_call 41; (with_reducible refine (c2 _ _ _ _ _ h2 (by rcases o2 with o | ⟨g, o1, o3, o4, B, o5⟩; exact .inl o; exact .inr ⟨g, o1, B, o5, o3, o4⟩)).mono ?_); rintro e w3 ⟨rfl, h3, f3⟩; (have o3 := disj_keep o2 (fresh_keep h2 f3 (w := w))); (have D3 : Hid (Below (w.heap.size + 1) (w.alloc objP0) w3) := D2.trans (f3.below z1 z2 (by rw [World.size_alloc]; omega))); (have z3 : Hid (w.heap.size + 1 ≤ w3.heap.size) := by have := f3.size; rw [World.size_alloc] at this; show _ ≤ _; omega); clear h2 D2 o2 f3)
    | (go_at_call 42; (with_reducible refine (c3 _ _ _ _ _ h3 (fun wy hy => hFI.out wy (D3.out.trans (hy.below z1 z2 z3.out)))).mono ?_); rintro e w4 ⟨m, rfl, hm, hmo, h4, f4⟩; (have hmH : Hid (m.pr = (dPr f n).1) := hm); clear hm; (have hmoH : Hid (m.own w4 w3.heap.size) := hmo); clear hmo; (have o4 := disj_keep o3 (fresh_keep h3 f4 (w := w))); (have D4 : Hid (Below (w.heap.size + 1) (w.alloc objP0) w4) := D3.out.trans (f4.below z1 z2 z3.out)); (have z4 : Hid (w3.heap.size ≤ w4.heap.size) := f4.size); (have h5 : RdS (w4.alloc (objP m)) w1.heap.size q ba bc n f (dPr f n).2 := h4.later (boxed _ _)); (have o5 := disj_keep o4 (w2 := w4.alloc (objP m)) (fun b hb => (boxed _ _).block b (h4.bl b hb).2.2)); (have D5 : Hid (Below (w.heap.size + 1) (w.alloc objP0) (w4.alloc (objP m))) := D4.out.trans ((boxed _ _).mono (by have := z3.out; have := z4.out; omega))); (have n4 : Hid (w4.heap.size ≠ w1.heap.size ∧ w4.heap.size ≠ q ∧ w4.heap.size ∉ blk ba) := h4.far _ (Nat.le_refl _)); (have r4 : Hid (w1.heap.size < w3.heap.size ∧ q < w3.heap.size) := ⟨h3.ltr, h3.ltq⟩); clear h3 h4 o3 o4 f4)
    | (go_at_call 43; (with_reducible refine (c4 _ _ _ _ _ h5 o5 (hrI.out.later (dn.out _ D5.out)) (hbI.out.imp_right fun hh b hb => by have := hh b hb; have := z3.out; have := z4.out; rw [World.size_alloc]; omega)).mono ?_); rintro e w6 ⟨rfl, h6, f6⟩; (have p6 : Hid (w6.heap[w4.heap.size]? = some (objP m)) := f6.held (heap_alloc_new w4 (objP m)) n4.out); (have D6 : Hid (Below (w.heap.size + 1) (w.alloc objP0) w6) := D5.out.trans (f6.below z1 z2 (by have := z3.out; have := z4.out; rw [World.size_alloc]; omega))); (have m6 : Hid (m.own w6 w3.heap.size) := hmoH.out.keep fun b hb => by (have hbd := hmoH.out.bd b hb); have := r4.out; exact (f6.block b (by rw [World.size_alloc]; omega) (by omega) (by omega)).trans ((boxed w4 _).block b hbd.2)); (have z6 : Hid (w4.heap.size + 1 ≤ w6.heap.size) := by have := f6.size; rw [World.size_alloc] at this; exact this); clear h5 o5 f6)
    | (go_at_call 44; (with_reducible refine (c5 _ _ _ _ _ h6).mono ?_); rintro e w7 ⟨rfl, h7, f7⟩; (have p7 := f7.held p6.out n4.out); (have D7 : Below (w.heap.size + 1) (w.alloc objP0) w7 := D6.out.trans (f7.below z1 z2 (by have := z3.out; have := z4.out; have := z6.out; omega))); (have m7 : Hid (m.own w7 w3.heap.size) := m6.out.keep fun b hb => by (have hbd := m6.out.bd b hb); have := r4.out; exact f7.block b hbd.2 (by omega) (by omega)); (have k1 := whole_cell h7.bx 1 _ rfl); (have k2 := whole_cell h7.bx 2 _ rfl); (have kl := h7.ltr); (have a7 := (D7.block w.heap.size (by omega)).trans a0); (have e0 := whole_cell a7 0 _ rfl); (have e1 := whole_cell a7 1 _ rfl); (have e2 := whole_cell a7 2 _ rfl); (have e3 := whole_cell a7 3 _ rfl); (have ez := fun o => whole_frozen a7 o); (have el := (Array.getElem?_eq_some_iff.mp a7).1); (have p0 := whole_cell p7 0 _ rfl); (have p1 := whole_cell p7 1 _ rfl); (have p2 := whole_cell p7 2 _ rfl); (have p3 := whole_cell p7 3 _ rfl); (have pl := (Array.getElem?_eq_some_iff.mp p7).1); clear h6 f7))
  go_region
  go_wp2
  refine bodyPost_ret (v := .tuple #[zeroP.val, .int .i64 D.e, .int .i64 (D.at_ : Int)]) ?_ rfl ⟨rfl, ?_⟩
  · simp [results, Tryz.results27, go_sem, e0, e1, e2, e3]
  · exact (((((dn.out w7 D7).setCell (p := ⟨w.heap.size, 0, none⟩) (Nat.le_refl _) _).setCell (p := ⟨w.heap.size, 1, none⟩) (Nat.le_refl _) _).setCell (p := ⟨w.heap.size, 2, none⟩) (Nat.le_refl _) _).setCell (p := ⟨w.heap.size, 3, none⟩) (Nat.le_refl _) _).drew
set_option maxHeartbeats 4000000 in
theorem decode_unright (hr : octet.Row w a n f) (ha : a = none → n = 0 ∧ c = 0) (hbl : n = 0 ∨ ∀ b ∈ blk a, b < w.heap.size) (hn : n ≤ 65536) (hnc : n ≤ c) (hc : (c : Int) ≤ 9223372036854775807) (hF : ∀ wx, Below w.heap.size w wx → prog.Forms wx) (he : (dS f n).e = 0) (A B C : Int) (hA : chk insP (dPr f n).1 = (A, B, C)) (hA0 : A ≠ 0) :
    Calls Tryz.prog 27 #[.slice a n c] w fun e w' => e = .returned (.tuple #[zeroP.val, .int .i64 A, .int .i64 0]) ∧ Below w.heap.size w w' := by
  have a0 : (w.alloc objP0).heap[w.heap.size]? = some objP0 := heap_alloc_new _ _
  have hb0 := boxed w objP0
  have hI : ¬ (65536 : Int) < n := by omega
  have hbI : Hid (n = 0 ∨ ∀ b ∈ blk a, b < w.heap.size) := hbl
  have hrI : Hid (octet.Row w a n f) := hr
  have hnI : Hid (n ≤ 65536) := hn
  have dn : Hid (∀ wx, Below (w.heap.size + 1) (w.alloc objP0) wx → Below w.heap.size w wx) := fun wx hx => hb0.trans (hx.mono (by omega))
  have hFI : Hid (∀ wx, Below (w.heap.size + 1) (w.alloc objP0) wx → prog.Forms wx) := fun wx hx => hF wx (dn.out wx hx)
  have c1 : Calls Tryz.prog 40 #[.slice a n c] (w.alloc objP0) _ := newreader_any a n c f _ (hr.later hb0) ha hn
  have c2 : ∀ wx r q ba bc, RdS wx r q ba bc n f ⟨0, 0, 0⟩ → (n = 0 ∧ ba = none ∨ ∃ g, ba = some ⟨g, 0, none⟩ ∧ ∃ B, octet.Owns wx B g n bc f ∧ n ≤ bc ∧ (bc : Int) ≤ 9223372036854775807) → Calls Tryz.prog 41 #[.pointer (some ⟨r, 0, none⟩)] wx _ := fun wx r q ba bc h h2 => magic_r h h2
  have c3 : ∀ wx r q ba bc, RdS wx r q ba bc n f (rdMag f n) → (∀ wy, Fr r q wx wy → prog.Forms wy) → Calls Tryz.prog 42 #[.pointer (some ⟨r, 0, none⟩)] wx fun e w' => ∃ m : MPr, e = .returned m.val ∧ m.pr = (dPr f n).1 ∧ m.own w' wx.heap.size ∧ RdS w' r q ba bc n f (dPr f n).2 ∧ Fr r q wx w' := fun wx r q ba bc h h2 => program_r h h2
  have c4 : ∀ wx r q ba bc, RdS wx r q ba bc n f (dPr f n).2 → (n = 0 ∧ ba = none ∨ ∃ g, ba = some ⟨g, 0, none⟩ ∧ n ≤ bc ∧ (bc : Int) ≤ 9223372036854775807 ∧ ∃ B, octet.Owns wx B g n bc f) → octet.Row wx a n f → (n = 0 ∨ ∀ b ∈ blk a, b ≠ r ∧ b ≠ q ∧ b < wx.heap.size) → Calls Tryz.prog 43 #[.pointer (some ⟨r, 0, none⟩), .slice a n c] wx _ := fun wx r q ba bc h h2 h3 h4 => sum_r h h2 a c h3 h4 hnc hc (fun e => (ha e).2)
  have c5 : ∀ wx r q ba bc, RdS wx r q ba bc n f (rdSum f n (dPr f n).2) → Calls Tryz.prog 44 #[.pointer (some ⟨r, 0, none⟩)] wx fun e w' => e = .returned (.tuple #[]) ∧ RdS w' r q ba bc n f (dS f n) ∧ Fr r q wx w' := fun wx r q ba bc h => end_r h
  have hfb := hr.2.1
  have hwf : Hid (prWf (dPr f n).1) := wf_pr hfb _
  have he2 : ((dS f n).e != 0) = false := by simpa using he
  have hck : Hid (chk insP (dPr f n).1 = (A, B, C)) := hA
  have hA2 : (A != 0) = true := by simpa using hA0
  clear hA he
  clear hr hbl hF ha hn
  generalize dS f n = D at *
  go_enter Tryz.func27, Tryz.ntmps27
  go_wp2_with (first
    | (go_at_call 40; (with_reducible refine c1.mono ?_); rintro e w1 ⟨q, ba, bc, rfl, hFr⟩; obtain ⟨h2, D2, z1, z2⟩ := fresh_rds hFr hnI.out; rw [World.size_alloc] at z1 z2 D2; (have o2 := fresh_own (r := 0) hFr (w2 := w1.alloc (objR q)) (fun b hb => (boxed w1 (objR q)).block b (by have := (h2.bl b hb); rw [World.size_alloc] at this; omega))); clear hFr)
    | (go_at_call 41; (with_reducible refine (c2 _ _ _ _ _ h2 (by rcases o2 with o | ⟨g, o1, o3, o4, B, o5⟩; exact .inl o; exact .inr ⟨g, o1, B, o5, o3, o4⟩)).mono ?_); rintro e w3 ⟨rfl, h3, f3⟩; (have o3 := disj_keep o2 (fresh_keep h2 f3 (w := w))); (have D3 : Hid (Below (w.heap.size + 1) (w.alloc objP0) w3) := D2.trans (f3.below z1 z2 (by rw [World.size_alloc]; omega))); (have z3 : Hid (w.heap.size + 1 ≤ w3.heap.size) := by have := f3.size; rw [World.size_alloc] at this; show _ ≤ _; omega); clear h2 D2 o2 f3)
    | (go_at_call 42; (with_reducible refine (c3 _ _ _ _ _ h3 (fun wy hy => hFI.out wy (D3.out.trans (hy.below z1 z2 z3.out)))).mono ?_); rintro e w4 ⟨m, rfl, hm, hmo, h4, f4⟩; (have hmH : Hid (m.pr = (dPr f n).1) := hm); clear hm; (have hmoH : Hid (m.own w4 w3.heap.size) := hmo); clear hmo; (have o4 := disj_keep o3 (fresh_keep h3 f4 (w := w))); (have D4 : Hid (Below (w.heap.size + 1) (w.alloc objP0) w4) := D3.out.trans (f4.below z1 z2 z3.out)); (have z4 : Hid (w3.heap.size ≤ w4.heap.size) := f4.size); (have h5 : RdS (w4.alloc (objP m)) w1.heap.size q ba bc n f (dPr f n).2 := h4.later (boxed _ _)); (have o5 := disj_keep o4 (w2 := w4.alloc (objP m)) (fun b hb => (boxed _ _).block b (h4.bl b hb).2.2)); (have D5 : Hid (Below (w.heap.size + 1) (w.alloc objP0) (w4.alloc (objP m))) := D4.out.trans ((boxed _ _).mono (by have := z3.out; have := z4.out; omega))); (have n4 : Hid (w4.heap.size ≠ w1.heap.size ∧ w4.heap.size ≠ q ∧ w4.heap.size ∉ blk ba) := h4.far _ (Nat.le_refl _)); (have r4 : Hid (w1.heap.size < w3.heap.size ∧ q < w3.heap.size) := ⟨h3.ltr, h3.ltq⟩); clear h3 h4 o3 o4 f4)
    | (go_at_call 43; (with_reducible refine (c4 _ _ _ _ _ h5 o5 (hrI.out.later (dn.out _ D5.out)) (hbI.out.imp_right fun hh b hb => by have := hh b hb; have := z3.out; have := z4.out; rw [World.size_alloc]; omega)).mono ?_); rintro e w6 ⟨rfl, h6, f6⟩; (have p6 : Hid (w6.heap[w4.heap.size]? = some (objP m)) := f6.held (heap_alloc_new w4 (objP m)) n4.out); (have D6 : Hid (Below (w.heap.size + 1) (w.alloc objP0) w6) := D5.out.trans (f6.below z1 z2 (by have := z3.out; have := z4.out; rw [World.size_alloc]; omega))); (have m6 : Hid (m.own w6 w3.heap.size) := hmoH.out.keep fun b hb => by (have hbd := hmoH.out.bd b hb); have := r4.out; exact (f6.block b (by rw [World.size_alloc]; omega) (by omega) (by omega)).trans ((boxed w4 _).block b hbd.2)); (have z6 : Hid (w4.heap.size + 1 ≤ w6.heap.size) := by have := f6.size; rw [World.size_alloc] at this; exact this); clear h5 o5 f6)
    | (go_at_call 44; (with_reducible refine (c5 _ _ _ _ _ h6).mono ?_); rintro e w7 ⟨rfl, h7, f7⟩; (have p7 := f7.held p6.out n4.out); (have D7 : Below (w.heap.size + 1) (w.alloc objP0) w7 := D6.out.trans (f7.below z1 z2 (by have := z3.out; have := z4.out; have := z6.out; omega))); (have m7 : Hid (m.own w7 w3.heap.size) := m6.out.keep fun b hb => by (have hbd := m6.out.bd b hb); have := r4.out; exact f7.block b hbd.2 (by omega) (by omega)); (have k1 := whole_cell h7.bx 1 _ rfl); (have k2 := whole_cell h7.bx 2 _ rfl); (have kl := h7.ltr); (have a7 := (D7.block w.heap.size (by omega)).trans a0); (have e0 := whole_cell a7 0 _ rfl); (have e1 := whole_cell a7 1 _ rfl); (have e2 := whole_cell a7 2 _ rfl); (have e3 := whole_cell a7 3 _ rfl); (have ez := fun o => whole_frozen a7 o); (have el := (Array.getElem?_eq_some_iff.mp a7).1); (have p0 := whole_cell p7 0 _ rfl); (have p1 := whole_cell p7 1 _ rfl); (have p2 := whole_cell p7 2 _ rfl); (have p3 := whole_cell p7 3 _ rfl); (have pl := (Array.getElem?_eq_some_iff.mp p7).1); clear h6 f7)
    | (go_at_call 30; (have hck2 : Hid (chk insP m.pr = (A, B, C)) := by (show _ = _); rw [hmH.out]; exact hck.out); (have hls := own_lies m7.out (by rw [hmH.out]; exact hwf.out)); (with_reducible refine (check_any m _ hls (hFI.out _ D7) A B C hck2).mono ?_); rintro e w8 ⟨rfl, hb8⟩; clear e0 e1 e2 e3 ez el p0 p1 p2 p3 pl; (have D8 : Hid (Below (w.heap.size + 1) (w.alloc objP0) w8) := D7.trans (hb8.mono (by have := D7.size; rw [World.size_alloc] at this; omega))); (have a8 := (D8.out.block w.heap.size (by omega)).trans a0); (have e0 := whole_cell a8 0 _ rfl); (have e1 := whole_cell a8 1 _ rfl); (have e2 := whole_cell a8 2 _ rfl); (have e3 := whole_cell a8 3 _ rfl); (have ez := fun o => whole_frozen a8 o); (have el := (Array.getElem?_eq_some_iff.mp a8).1); (have p8 := (hb8.block w4.heap.size (Array.getElem?_eq_some_iff.mp p7).1).trans p7); (have p0 := whole_cell p8 0 _ rfl); (have p1 := whole_cell p8 1 _ rfl); (have p2 := whole_cell p8 2 _ rfl); (have p3 := whole_cell p8 3 _ rfl); (have pl := (Array.getElem?_eq_some_iff.mp p8).1); (have m8 : Hid (m.own w8 w3.heap.size) := m7.out.keep fun b hb => hb8.block b (m7.out.bd b hb).2)))
  refine bodyPost_ret (v := .tuple #[zeroP.val, .int .i64 A, .int .i64 0]) ?_ rfl ⟨rfl, bel5 (dn.out w8 D8.out) _ _ _ _ _⟩
  have r4 := cells5 a8 (.slice none 0 0) (.int .i64 0) (.slice none 0 0) (.slice none 0 0) (.cells #[.int .i64 B, .int .i64 C] 49)
  simp [results, Tryz.results27, go_sem, whole_cell r4 0 _ rfl, whole_cell r4 1 _ rfl, whole_cell r4 2 _ rfl, whole_cell r4 3 _ rfl]
set_option maxHeartbeats 4000000 in
theorem decode_ok (hr : octet.Row w a n f) (ha : a = none → n = 0 ∧ c = 0) (hbl : n = 0 ∨ ∀ b ∈ blk a, b < w.heap.size) (hn : n ≤ 65536) (hnc : n ≤ c) (hc : (c : Int) ≤ 9223372036854775807) (hF : ∀ wx, Below w.heap.size w wx → prog.Forms wx) (he : (dS f n).e = 0) (A B C : Int) (hA : chk insP (dPr f n).1 = (A, B, C)) (hA0 : A = 0) :
    Calls Tryz.prog 27 #[.slice a n c] w fun e w' => ∃ m : MPr, e = .returned (.tuple #[m.val, .int .i64 0, .int .i64 0]) ∧ m.pr = (dPr f n).1 ∧ m.own w' (w.heap.size + 1) ∧ Below w.heap.size w w' := by
  have a0 : (w.alloc objP0).heap[w.heap.size]? = some objP0 := heap_alloc_new _ _
  have hb0 := boxed w objP0
  have hI : ¬ (65536 : Int) < n := by omega
  have hbI : Hid (n = 0 ∨ ∀ b ∈ blk a, b < w.heap.size) := hbl
  have hrI : Hid (octet.Row w a n f) := hr
  have hnI : Hid (n ≤ 65536) := hn
  have dn : Hid (∀ wx, Below (w.heap.size + 1) (w.alloc objP0) wx → Below w.heap.size w wx) := fun wx hx => hb0.trans (hx.mono (by omega))
  have hFI : Hid (∀ wx, Below (w.heap.size + 1) (w.alloc objP0) wx → prog.Forms wx) := fun wx hx => hF wx (dn.out wx hx)
  have c1 : Calls Tryz.prog 40 #[.slice a n c] (w.alloc objP0) _ := newreader_any a n c f _ (hr.later hb0) ha hn
  have c2 : ∀ wx r q ba bc, RdS wx r q ba bc n f ⟨0, 0, 0⟩ → (n = 0 ∧ ba = none ∨ ∃ g, ba = some ⟨g, 0, none⟩ ∧ ∃ B, octet.Owns wx B g n bc f ∧ n ≤ bc ∧ (bc : Int) ≤ 9223372036854775807) → Calls Tryz.prog 41 #[.pointer (some ⟨r, 0, none⟩)] wx _ := fun wx r q ba bc h h2 => magic_r h h2
  have c3 : ∀ wx r q ba bc, RdS wx r q ba bc n f (rdMag f n) → (∀ wy, Fr r q wx wy → prog.Forms wy) → Calls Tryz.prog 42 #[.pointer (some ⟨r, 0, none⟩)] wx fun e w' => ∃ m : MPr, e = .returned m.val ∧ m.pr = (dPr f n).1 ∧ m.own w' wx.heap.size ∧ RdS w' r q ba bc n f (dPr f n).2 ∧ Fr r q wx w' := fun wx r q ba bc h h2 => program_r h h2
  have c4 : ∀ wx r q ba bc, RdS wx r q ba bc n f (dPr f n).2 → (n = 0 ∧ ba = none ∨ ∃ g, ba = some ⟨g, 0, none⟩ ∧ n ≤ bc ∧ (bc : Int) ≤ 9223372036854775807 ∧ ∃ B, octet.Owns wx B g n bc f) → octet.Row wx a n f → (n = 0 ∨ ∀ b ∈ blk a, b ≠ r ∧ b ≠ q ∧ b < wx.heap.size) → Calls Tryz.prog 43 #[.pointer (some ⟨r, 0, none⟩), .slice a n c] wx _ := fun wx r q ba bc h h2 h3 h4 => sum_r h h2 a c h3 h4 hnc hc (fun e => (ha e).2)
  have c5 : ∀ wx r q ba bc, RdS wx r q ba bc n f (rdSum f n (dPr f n).2) → Calls Tryz.prog 44 #[.pointer (some ⟨r, 0, none⟩)] wx fun e w' => e = .returned (.tuple #[]) ∧ RdS w' r q ba bc n f (dS f n) ∧ Fr r q wx w' := fun wx r q ba bc h => end_r h
  have hfb := hr.2.1
  have hwf : Hid (prWf (dPr f n).1) := wf_pr hfb _
  have he2 : ((dS f n).e != 0) = false := by simpa using he
  have hck : Hid (chk insP (dPr f n).1 = (0, B, C)) := hA0 ▸ hA
  clear hA he
  clear hr hbl hF ha hn
  generalize dS f n = D at *
  go_enter Tryz.func27, Tryz.ntmps27
  go_wp2_with (first
    | (go_at_call 40; (with_reducible refine c1.mono ?_); rintro e w1 ⟨q, ba, bc, rfl, hFr⟩; obtain ⟨h2, D2, z1, z2⟩ := fresh_rds hFr hnI.out; rw [World.size_alloc] at z1 z2 D2; (have o2 := fresh_own (r := 0) hFr (w2 := w1.alloc (objR q)) (fun b hb => (boxed w1 (objR q)).block b (by have := (h2.bl b hb); rw [World.size_alloc] at this; omega))); clear hFr)
    | (go_at_call 41; (with_reducible refine (c2 _ _ _ _ _ h2 (by rcases o2 with o | ⟨g, o1, o3, o4, B, o5⟩; exact .inl o; exact .inr ⟨g, o1, B, o5, o3, o4⟩)).mono ?_); rintro e w3 ⟨rfl, h3, f3⟩; (have o3 := disj_keep o2 (fresh_keep h2 f3 (w := w))); (have D3 : Hid (Below (w.heap.size + 1) (w.alloc objP0) w3) := D2.trans (f3.below z1 z2 (by rw [World.size_alloc]; omega))); (have z3 : Hid (w.heap.size + 1 ≤ w3.heap.size) := by have := f3.size; rw [World.size_alloc] at this; show _ ≤ _; omega); clear h2 D2 o2 f3)
    | (go_at_call 42; (with_reducible refine (c3 _ _ _ _ _ h3 (fun wy hy => hFI.out wy (D3.out.trans (hy.below z1 z2 z3.out)))).mono ?_); rintro e w4 ⟨m, rfl, hm, hmo, h4, f4⟩; (have hmH : Hid (m.pr = (dPr f n).1) := hm); clear hm; (have hmoH : Hid (m.own w4 w3.heap.size) := hmo); clear hmo; (have o4 := disj_keep o3 (fresh_keep h3 f4 (w := w))); (have D4 : Hid (Below (w.heap.size + 1) (w.alloc objP0) w4) := D3.out.trans (f4.below z1 z2 z3.out)); (have z4 : Hid (w3.heap.size ≤ w4.heap.size) := f4.size); (have h5 : RdS (w4.alloc (objP m)) w1.heap.size q ba bc n f (dPr f n).2 := h4.later (boxed _ _)); (have o5 := disj_keep o4 (w2 := w4.alloc (objP m)) (fun b hb => (boxed _ _).block b (h4.bl b hb).2.2)); (have D5 : Hid (Below (w.heap.size + 1) (w.alloc objP0) (w4.alloc (objP m))) := D4.out.trans ((boxed _ _).mono (by have := z3.out; have := z4.out; omega))); (have n4 : Hid (w4.heap.size ≠ w1.heap.size ∧ w4.heap.size ≠ q ∧ w4.heap.size ∉ blk ba) := h4.far _ (Nat.le_refl _)); (have r4 : Hid (w1.heap.size < w3.heap.size ∧ q < w3.heap.size) := ⟨h3.ltr, h3.ltq⟩); clear h3 h4 o3 o4 f4)
    | (go_at_call 43; (with_reducible refine (c4 _ _ _ _ _ h5 o5 (hrI.out.later (dn.out _ D5.out)) (hbI.out.imp_right fun hh b hb => by have := hh b hb; have := z3.out; have := z4.out; rw [World.size_alloc]; omega)).mono ?_); rintro e w6 ⟨rfl, h6, f6⟩; (have p6 : Hid (w6.heap[w4.heap.size]? = some (objP m)) := f6.held (heap_alloc_new w4 (objP m)) n4.out); (have D6 : Hid (Below (w.heap.size + 1) (w.alloc objP0) w6) := D5.out.trans (f6.below z1 z2 (by have := z3.out; have := z4.out; rw [World.size_alloc]; omega))); (have m6 : Hid (m.own w6 w3.heap.size) := hmoH.out.keep fun b hb => by (have hbd := hmoH.out.bd b hb); have := r4.out; exact (f6.block b (by rw [World.size_alloc]; omega) (by omega) (by omega)).trans ((boxed w4 _).block b hbd.2)); (have z6 : Hid (w4.heap.size + 1 ≤ w6.heap.size) := by have := f6.size; rw [World.size_alloc] at this; exact this); clear h5 o5 f6)
    | (go_at_call 44; (with_reducible refine (c5 _ _ _ _ _ h6).mono ?_); rintro e w7 ⟨rfl, h7, f7⟩; (have p7 := f7.held p6.out n4.out); (have D7 : Below (w.heap.size + 1) (w.alloc objP0) w7 := D6.out.trans (f7.below z1 z2 (by have := z3.out; have := z4.out; have := z6.out; omega))); (have m7 : Hid (m.own w7 w3.heap.size) := m6.out.keep fun b hb => by (have hbd := m6.out.bd b hb); have := r4.out; exact f7.block b hbd.2 (by omega) (by omega)); (have k1 := whole_cell h7.bx 1 _ rfl); (have k2 := whole_cell h7.bx 2 _ rfl); (have kl := h7.ltr); (have a7 := (D7.block w.heap.size (by omega)).trans a0); (have e0 := whole_cell a7 0 _ rfl); (have e1 := whole_cell a7 1 _ rfl); (have e2 := whole_cell a7 2 _ rfl); (have e3 := whole_cell a7 3 _ rfl); (have ez := fun o => whole_frozen a7 o); (have el := (Array.getElem?_eq_some_iff.mp a7).1); (have p0 := whole_cell p7 0 _ rfl); (have p1 := whole_cell p7 1 _ rfl); (have p2 := whole_cell p7 2 _ rfl); (have p3 := whole_cell p7 3 _ rfl); (have pl := (Array.getElem?_eq_some_iff.mp p7).1); clear h6 f7)
    | (go_at_call 30; (have hck2 : Hid (chk insP m.pr = (0, B, C)) := by (show _ = _); rw [hmH.out]; exact hck.out); (have hls := own_lies m7.out (by rw [hmH.out]; exact hwf.out)); (with_reducible refine (check_any m _ hls (hFI.out _ D7) 0 B C hck2).mono ?_); rintro e w8 ⟨rfl, hb8⟩; clear e0 e1 e2 e3 ez el p0 p1 p2 p3 pl; (have D8 : Hid (Below (w.heap.size + 1) (w.alloc objP0) w8) := D7.trans (hb8.mono (by have := D7.size; rw [World.size_alloc] at this; omega))); (have a8 := (D8.out.block w.heap.size (by omega)).trans a0); (have e0 := whole_cell a8 0 _ rfl); (have e1 := whole_cell a8 1 _ rfl); (have e2 := whole_cell a8 2 _ rfl); (have e3 := whole_cell a8 3 _ rfl); (have ez := fun o => whole_frozen a8 o); (have el := (Array.getElem?_eq_some_iff.mp a8).1); (have p8 := (hb8.block w4.heap.size (Array.getElem?_eq_some_iff.mp p7).1).trans p7); (have p0 := whole_cell p8 0 _ rfl); (have p1 := whole_cell p8 1 _ rfl); (have p2 := whole_cell p8 2 _ rfl); (have p3 := whole_cell p8 3 _ rfl); (have pl := (Array.getElem?_eq_some_iff.mp p8).1); (have m8 : Hid (m.own w8 w3.heap.size) := m7.out.keep fun b hb => hb8.block b (m7.out.bd b hb).2)))
  refine bodyPost_ret (v := .tuple #[m.val, .int .i64 0, .int .i64 0]) ?_ rfl ⟨m, rfl, hmH.out, ?_, bel5 (dn.out w8 D8.out) _ _ _ _ _⟩
  · have r4 := cells5 a8 (.slice m.va m.vars.length m.vcap) (.int .i64 m.locks) (.slice m.cha m.chans.length m.chcap) (.slice m.fa m.fns.length m.fcap) (.cells #[.int .i64 B, .int .i64 C] 49)
    simp [results, Tryz.results27, go_sem, whole_cell r4 0 _ rfl, whole_cell r4 1 _ rfl, whole_cell r4 2 _ rfl, whole_cell r4 3 _ rfl]
  · refine MPr.own.mono (m8.out.keep fun b hb => ?_) z3.out
    have hbd := m8.out.bd b hb
    have hne : b ≠ w.heap.size := by have := z3.out; omega
    exact ((boxed _ _).block b (by simp only [World.size_setCell]; exact hbd.2)).trans ((heap_setCell_other _ _ _ _ hne).trans ((heap_setCell_other _ _ _ _ hne).trans ((heap_setCell_other _ _ _ _ hne).trans (heap_setCell_other _ _ _ _ hne))))
end
end Go.Proofs.YtonkcnaijcpfdaaGreatDoor.pg
