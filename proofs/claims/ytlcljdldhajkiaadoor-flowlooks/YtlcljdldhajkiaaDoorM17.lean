/- The contracts of the document's own look at a function's sizes, of its Check and Right. -/
import Derived.Test.YtlcljdldhajkiaaDoorM16
import Derived.Test.YtlcljdldhajkiaaDoorM13
namespace Go.Proofs.YtlcljdldhajkiaaDoor.pg
open Go.ChangeShapes Go.WideShapes Go.ChangeAt Go.RowKit
set_option linter.unusedVariables false
set_option linter.unusedSimpArgs false
set_option maxRecDepth 100000
set_option maxHeartbeats 4000000 in
theorem rformed_any (n : Nat) (f : MFn) (w : World) (hf : f.lies w) (r : Bool) (hr : Hid (decide (shaped f.fn ∧ (n = 0 → f.fn.params = 0)) = r)) :
    Calls Tryd.prog 56 #[.int .i64 n, f.val] w fun e w' => e = .returned (.bool r) ∧ Below w.heap.size w w' := by
  have no : ¬ ((0 ≤ f.regs ∧ f.regs ≤ 8) ∧ (0 ≤ f.params ∧ f.params ≤ f.regs) ∧ ((n : Int) = 0 → f.params = 0) ∧ ((1 : Int) ≤ f.code.length ∧ (f.code.length : Int) ≤ 64) ∧ (f.sels.length : Int) ≤ 4) → Hid (r = false) := fun hn => by
    show r = false
    rw [← hr.out, decide_eq_false_iff_not]
    intro ⟨⟨a, b, c, d, e⟩, g⟩
    simp only [MFn.fn, List.length_map] at a b c d g
    exact hn ⟨a, b, fun h => g (by omega), by omega, by omega⟩
  have hln := rows_len hf.2.1
  by_cases h1 : 0 ≤ f.regs
  · by_cases h1' : f.regs ≤ 8
    · by_cases h2 : 0 ≤ f.params
      · by_cases h2' : f.params ≤ f.regs
        · by_cases hp : (n : Int) = 0 ∧ ¬ f.params = 0
          · have hv := no (fun h => hp.2 (h.2.2.1 hp.1))
            obtain ⟨hp1, hp2⟩ := hp
            have hpb : (f.params != 0) = true := by simp [hp2]
            go_enter Tryd.func56, Tryd.ntmps56
            go_wp2
            go_ret
            exact ⟨ret_b hv.out.symm, boxed _ _⟩
          · obtain ⟨params, regs, ca, ccap, code, sa, scap, sels⟩ := f
            simp only at h1 h1' h2 h2' hp no hln hr hf
            by_cases hn0 : (n : Int) = 0
            all_goals
              first | (have hp0 : params = 0 := Classical.byContradiction fun q => hp ⟨hn0, q⟩; subst hp0) | skip
              by_cases h3 : (1 : Int) ≤ code.length
              · by_cases h3' : (code.length : Int) ≤ 64
                · by_cases h4 : (sels.length : Int) ≤ 4
                  · clear hp
                    go_enter Tryd.func56, Tryd.ntmps56
                    go_wp2
                    go_loopw [55] (fun i wr => ∃ k : Nat, k ≤ sels.length ∧ i = .int .i64 k ∧ (∀ j y, j < k → sels[j]? = some y → 1 ≤ y.cases.length ∧ y.cases.length ≤ 4) ∧ Below w.heap.size w wr) (fun i _ => sels.length - (intOf i).toNat)
                    case atStart => exact ⟨0, Nat.zero_le _, rfl, fun j y hj => by omega, boxed _ _⟩
                    case round =>
                      obtain ⟨k, hk, rfl, hall, hbr⟩ := hrel
                      by_cases hlt : k < sels.length
                      · obtain ⟨x, hx, hm⟩ := get_lt sels k hlt
                        have hLr := hf.later hbr
                        obtain ⟨b, o, hix, hbl, hc0, hc1⟩ := sel_ix hLr.2.1 k x hx
                        have hr0 := hr
                        clear hLr hr no
                        by_cases hx1 : (1 : Int) ≤ x.cases.length
                        · by_cases hx4 : (x.cases.length : Int) ≤ 4
                          · go_wp2
                            go_roundw
                            case rel => exact ⟨k + 1, by omega, by go_num, (fun j y hj hy => by
                              by_cases hjk : j = k
                              · subst hjk; rw [hx] at hy; cases hy; omega
                              · exact hall j y (by omega) hy), bthen hbr (boxed _ _)⟩
                            case measure => simp [intOf]; omega
                          · have hv : Hid (r = false) := by
                              show r = false
                              rw [← hr0.out, decide_eq_false_iff_not]
                              intro ⟨⟨_, _, _, _, e⟩, _⟩
                              have := e x.sel (by simp only [MFn.fn, List.mem_map]; exact ⟨x, hm, rfl⟩)
                              simp only [MSel.sel] at this
                              omega
                            go_wp2
                            go_ret
                            exact ⟨ret_b hv.out.symm, bthen hbr (boxed _ _)⟩
                        · have hv : Hid (r = false) := by
                            show r = false
                            rw [← hr0.out, decide_eq_false_iff_not]
                            intro ⟨⟨_, _, _, _, e⟩, _⟩
                            have := e x.sel (by simp only [MFn.fn, List.mem_map]; exact ⟨x, hm, rfl⟩)
                            simp only [MSel.sel] at this
                            omega
                          go_wp2
                          go_ret
                          exact ⟨ret_b hv.out.symm, bthen hbr (boxed _ _)⟩
                      · have hv : Hid (r = true) := by
                          show r = true
                          rw [← hr.out, decide_eq_true_iff]
                          refine ⟨⟨⟨h1, h1'⟩, ⟨h2, h2'⟩, by simp only [MFn.fn]; omega, by simp only [MFn.fn, List.length_map]; omega, fun s hs => ?_⟩, fun q => ?_⟩
                          · simp only [MFn.fn, List.mem_map] at hs
                            obtain ⟨y, hy, rfl⟩ := hs
                            obtain ⟨j, hj, rfl⟩ := List.getElem_of_mem hy
                            exact hall j _ (by omega) (List.getElem?_eq_getElem hj)
                          · first | rfl | (exfalso; omega)
                        clear no hr
                        go_wp2
                        go_ret
                        exact ⟨ret_b hv.out.symm, hbr⟩
                  · have hv := no (by intro h; omega)
                    go_enter Tryd.func56, Tryd.ntmps56
                    go_wp2
                    go_ret
                    exact ⟨ret_b hv.out.symm, boxed _ _⟩
                · have hv := no (by intro h; omega)
                  go_enter Tryd.func56, Tryd.ntmps56
                  go_wp2
                  go_ret
                  exact ⟨ret_b hv.out.symm, boxed _ _⟩
              · have hv := no (by intro h; omega)
                go_enter Tryd.func56, Tryd.ntmps56
                go_wp2
                go_ret
                exact ⟨ret_b hv.out.symm, boxed _ _⟩
        · have hv := no (by intro h; omega)
          go_enter Tryd.func56, Tryd.ntmps56
          go_wp2
          go_ret
          exact ⟨ret_b hv.out.symm, boxed _ _⟩
      · have hv := no (by intro h; omega)
        go_enter Tryd.func56, Tryd.ntmps56
        go_wp2
        go_ret
        exact ⟨ret_b hv.out.symm, boxed _ _⟩
    · have hv := no (by intro h; omega)
      go_enter Tryd.func56, Tryd.ntmps56
      go_wp2
      go_ret
      exact ⟨ret_b hv.out.symm, boxed _ _⟩
  · have hv := no (by intro h; omega)
    go_enter Tryd.func56, Tryd.ntmps56
    go_wp2
    go_ret
    exact ⟨ret_b hv.out.symm, boxed _ _⟩
end Go.Proofs.YtlcljdldhajkiaaDoor.pg
/- The contracts of the document's own Check and Right. -/
namespace Go.Proofs.YtlcljdldhajkiaaDoor.pg
open Go.ChangeShapes Go.WideShapes Go.ChangeAt Go.RowKit
set_option linter.unusedVariables false
set_option linter.unusedSimpArgs false
set_option maxRecDepth 100000
set_option maxHeartbeats 8000000 in
theorem rcheck_any (M : MPr) (w : World) (hl : M.lies w) (a b c : Int) (hr : Hid (chk insR M.pr = (a, b, c))) :
    Calls Tryd.prog 38 #[M.val] w fun e w' => e = .returned (.tuple #[.int .i64 a, .agg #[.int .i64 b, .int .i64 c]]) ∧ Below w.heap.size w w' := by
  have hb := boxed2 w (objP M) objZ
  have hL := hl.later hb
  have hln := rows_len hl.2.2.1
  have hlnc := rows_len hl.2.1
  have no : ¬ ((M.vars.length : Int) ≤ 8 ∧ (0 ≤ M.locks ∧ M.locks ≤ 4) ∧ (M.chans.length : Int) ≤ 4 ∧ ((1 : Int) ≤ M.fns.length ∧ (M.fns.length : Int) ≤ 8)) → Hid (chk insR M.pr = (30, 0, 0)) := fun hn => by
    refine chk_sizes ?_ (by decide)
    unfold sizesE; rw [if_neg]
    intro q
    simp only [MPr.pr, List.length_map] at q
    omega
  have h30 : ∀ w2, (w2 = ((w.alloc (objP M)).alloc objZ)) → True := fun _ _ => trivial
  clear hl h30
  by_cases h1 : (M.vars.length : Int) ≤ 8
  · by_cases h2 : 0 ≤ M.locks
    · by_cases h2' : M.locks ≤ 4
      · by_cases h3 : (M.chans.length : Int) ≤ 4
        · by_cases h4 : (1 : Int) ≤ M.fns.length
          · by_cases h4' : (M.fns.length : Int) ≤ 8
            · clear no
              have hsz : Hid (sizesE M.pr = firstE (fun c => if 0 ≤ c ∧ c ≤ 4 then 0 else 31) M.chans) := by
                show sizesE M.pr = _
                unfold sizesE; rw [if_pos]; rfl; simp [MPr.pr]; omega
              go_enter Tryd.func38, Tryd.ntmps38
              go_wp2
              go_loop [48] (fun i => ∃ k : Nat, k ≤ M.chans.length ∧ i = .int .i64 k ∧ ∀ j y, j < k → M.chans[j]? = some y → 0 ≤ y ∧ y ≤ 4) (fun i => M.chans.length - (intOf i).toNat)
              case atStart => exact ⟨0, Nat.zero_le _, rfl, fun j y hj => by omega⟩
              case round =>
                obtain ⟨k, hk, rfl, hall⟩ := hrel
                by_cases hlt : k < M.chans.length
                · obtain ⟨x, hx, hm⟩ := get_lt M.chans k hlt
                  obtain ⟨bb, o, hix, hbl, hc⟩ := ch_ix hL.2.1 k x hx
                  by_cases hx0 : 0 ≤ x
                  · by_cases hx4 : x ≤ 4
                    · go_wp2
                      go_round
                      case rel => exact ⟨k + 1, by omega, by go_num, fun j y hj hy => by
                        by_cases hjk : j = k
                        · subst hjk; rw [hx] at hy; cases hy; exact ⟨hx0, hx4⟩
                        · exact hall j y (by omega) hy⟩
                      case measure => simp [intOf]; omega
                    · have hv : Hid (chk insR M.pr = (31, 0, 0)) := chk_sizes (by rw [hsz.out, firstE_hit _ _ k x hx (fun i y hi hy => if_pos (hall i y hi hy)) (by rw [if_neg (by omega)]; decide)]; exact if_neg (by omega)) (by decide)
                      go_wp2
                      exact bodyPost_ret (v := .tuple #[.int .i64 31, .agg #[.int .i64 0, .int .i64 0]]) (by simp [results, Tryd.results38, go_sem]) rfl ⟨ret_chk (hv.out.symm.trans hr.out), hb⟩
                  · have hv : Hid (chk insR M.pr = (31, 0, 0)) := chk_sizes (by rw [hsz.out, firstE_hit _ _ k x hx (fun i y hi hy => if_pos (hall i y hi hy)) (by rw [if_neg (by omega)]; decide)]; exact if_neg (by omega)) (by decide)
                    go_wp2
                    exact bodyPost_ret (v := .tuple #[.int .i64 31, .agg #[.int .i64 0, .int .i64 0]]) (by simp [results, Tryd.results38, go_sem]) rfl ⟨ret_chk (hv.out.symm.trans hr.out), hb⟩
                · have hs0 : sizesE M.pr = 0 := by
                    rw [hsz.out]
                    refine firstE_zero _ _ fun x hx => ?_
                    obtain ⟨j, hj, rfl⟩ := List.getElem_of_mem hx
                    exact if_pos (hall j _ (by omega) (List.getElem?_eq_getElem hj))
                  have hc0 : Hid (chk insR M.pr = fnsE insR M.pr M.pr.fns 0) := chk_fns hs0
                  clear hs0 hall hsz
                  go_wp2
                  go_loopw [63] (fun u wr => ∃ k : Nat, k ≤ M.fns.length ∧ u = .int .i64 k ∧ (∀ j y, j < k → M.fns[j]? = some y → (fnE insR M.pr (0 + j) y.fn).1 = 0) ∧ Below ((w.alloc (objP M)).alloc objZ).heap.size ((w.alloc (objP M)).alloc objZ) wr) (fun u _ => M.fns.length - (intOf u).toNat)
                  case atStart => exact ⟨0, Nat.zero_le _, rfl, fun j y hj => by omega, Below.refl _ _⟩
                  case round =>
                    obtain ⟨k, hk, rfl, hall, hbr⟩ := hrel
                    have hall' : ∀ i f, i < k → M.pr.fns[i]? = some f → (fnE insR M.pr (0 + i) f).1 = 0 := fun i y hi hy => by
                      simp only [MPr.pr, List.getElem?_map, Option.map_eq_some_iff] at hy
                      obtain ⟨y', hy', rfl⟩ := hy
                      exact hall i y' hi hy'
                    by_cases hlt : k < M.fns.length
                    · obtain ⟨x, hx, hm⟩ := get_lt M.fns k hlt
                      have hLr := hL.later hbr
                      have hit : ∀ e q : Int, e ≠ 0 → fnE insR M.pr k x.fn = (e, q) → Hid (chk insR M.pr = (e, (k : Int), q)) := fun e q he hE =>
                        hc0.out.trans ((fnsE_hit insR M.pr _ 0 k x.fn (fns_get M k x hx) hall' (by rw [Nat.zero_add, hE]; exact he)).trans (by rw [Nat.zero_add, hE]))
                      have go_on : ∀ q : Int, fnE insR M.pr k x.fn = (0, q) → ∀ j y, j < k + 1 → M.fns[j]? = some y → (fnE insR M.pr (0 + j) y.fn).1 = 0 := fun q hE j y hj hy => by
                        by_cases hjk : j = k
                        · subst hjk; rw [hx] at hy; cases hy; rw [Nat.zero_add, hE]
                        · exact hall j y (by omega) hy
                      obtain ⟨bb, o, hix, hbl, c0, c1, c2, c3⟩ := fn_ix hLr.2.2.1 k x hx
                      have hW1 : Below ((w.alloc (objP M)).alloc objZ).heap.size ((w.alloc (objP M)).alloc objZ) (wr.alloc (objF x)) := bthen hbr (boxed wr (objF x))
                      have hxl := (hLr.2.2.2.2.2.2 x hm).later (boxed wr (objF x))
                      have bX := boxF_new wr x
                      have hlx := rows_len hxl.1
                      obtain ⟨rs, hrs⟩ : ∃ rs, Hid (decide (shaped x.fn ∧ (k = 0 → x.fn.params = 0)) = rs) := ⟨_, rfl⟩
                      have hcf := rformed_any k x _ hxl rs hrs
                      clear hLr hall hall'
                      obtain ⟨hbc, hbf⟩ := bcell hbr
                      cases rs with
                      | false =>
                        have hv := hit 32 0 (by decide) (fnE_shape (fun q => by have := hrs.out; rw [decide_eq_false_iff_not] at this; exact this q))
                        go_wp2_with (go_at_call 56; (with_reducible refine hcf.mono ?_); rintro e w2 ⟨rfl, hb2⟩; (have hb5 := bthen hW1 hb2); clear hbc hbf; obtain ⟨hbc, hbf⟩ := bcell hb5)
                        exact bodyPost_ret (v := .tuple #[.int .i64 32, .agg #[.int .i64 k, .int .i64 0]]) (by simp [results, Tryd.results38, go_sem, hbc]) rfl ⟨ret_chk (hv.out.symm.trans hr.out), ((bthen hb hb5).setCell (by simp) _).setCell (by simp) _⟩
                      | true =>
                        have hS0 : Hid (shaped x.fn ∧ (k = 0 → x.fn.params = 0)) := by have := hrs.out; rw [decide_eq_true_iff] at this; exact this
                        have hreg : 0 ≤ x.regs ∧ x.regs ≤ 8 := hS0.out.1.1
                        have hcl : 1 ≤ x.code.length := hS0.out.1.2.2.1.1
                        obtain ⟨es, hes⟩ : ∃ es, Hid (firstE (selE M.pr x.fn) x.fn.sels = es) := ⟨_, rfl⟩
                        have hcs : ∀ w2, Below (wr.alloc (objF x)).heap.size (wr.alloc (objF x)) w2 → Calls Tryd.prog 57 #[M.val, x.val] w2 _ := fun w2 h2 => rselects_any M x w2 (hL.later (bthen hW1 h2)) (hxl.later h2) es hes
                        by_cases he0 : es = 0
                        · subst he0
                          go_wp2_with (first | (go_at_call 56; (with_reducible refine hcf.mono ?_); rintro e w2 ⟨rfl, hb2⟩; (have hb5 := bthen hW1 hb2); (have hcs2 := hcs _ hb2); clear hbc hbf; obtain ⟨hbc, hbf⟩ := bcell hb5; obtain ⟨d0, d1, d2, d3⟩ := bX.later hb2) | (go_at_call 57; (with_reducible refine hcs2.mono ?_); rintro e w3 ⟨rfl, hb3⟩; (have hb6 := bthen hb5 hb3); (have hb7 := bthen hb2 hb3); clear hbc hbf d0 d1 d2 d3; obtain ⟨hbc, hbf⟩ := bcell hb6; obtain ⟨d0, d1, d2, d3⟩ := bX.later hb7))
                          obtain ⟨xl, hxlast, hxm⟩ := get_lt x.code (x.code.length - 1) (by omega)
                          have hlast : Hid (lastOp x.fn = xl.op) := by
                            show lastOp x.fn = _
                            unfold lastOp
                            have : x.fn.code.getLast? = some xl := by rw [List.getLast?_eq_getElem?]; exact hxlast
                            rw [this]
                          have dF : Hid (BoxF w3 wr.heap.size x) := bX.later hb7
                          have hM3 : Hid (M.lies w3) := hL.later hb6
                          have hx3 : Hid (x.lies w3) := hxl.later hb7
                          have bP3 : Hid (BoxP w3 w.heap.size M) := ((boxP_new w M).later (boxed (w.alloc (objP M)) objZ)).later hb6
                          have hzz : wr.heap.size < w3.heap.size := by have := hb7.size; simp only [World.size_alloc] at this; omega
                          have hzw : w.heap.size + 1 < w3.heap.size := by have := hb6.size; simp only [World.size_alloc] at this; omega
                          have hbr0 : Hid (((w.alloc (objP M)).alloc objZ).heap.size ≤ wr.heap.size) := hbr.size
                          clear hb7 hb2 hb3 hb5 bX hxl hW1 hbc hbf d0 d1 d2 d3 hcs hcs2 hcf hix c0 c1 c2 c3 hbl hbr hL
                          have hBY : w.heap.size + 1 < wr.heap.size := by have := hbr0.out; simp only [World.size_alloc] at this; omega
                          clear hbr0
                          generalize wr.heap.size = BY at *
                          go_loopw [85] (fun u wr => ∃ q : Nat, q ≤ x.code.length ∧ u = .int .i64 q ∧ (∀ j y, j < q → x.code[j]? = some y → insR M.pr x.fn y = 0) ∧ Below w3.heap.size w3 wr) (fun u _ => x.code.length - (intOf u).toNat)
                          case atStart => exact ⟨0, Nat.zero_le _, rfl, fun j y hj => by omega, Below.refl _ _⟩
                          case round =>
                            obtain ⟨q, hq, rfl, halli, hbr⟩ := hrel
                            have hb8 := bthen hb6 hbr
                            have z := hbr.size
                            have y0 : w.heap.size < wr.heap.size := by omega
                            have y1 : w.heap.size + 1 < wr.heap.size := by omega
                            have y2 : BY < wr.heap.size := by omega
                            obtain ⟨p0, p1, p2, p3⟩ := bP3.out.later hbr
                            obtain ⟨d0, d1, d2, d3⟩ := dF.out.later hbr
                            have hxr := hx3.out.later hbr
                            by_cases hlq : q < x.code.length
                            · obtain ⟨y, hy, hym⟩ := get_lt x.code q hlq
                              obtain ⟨bb, o, hix, hbl, c0, c1, c2, c3, c4⟩ := ins_ix hxr.1 q y hy
                              obtain ⟨e, he⟩ : ∃ e, Hid (insR M.pr x.fn y = e) := ⟨_, rfl⟩
                              have hcall := rinstr_any M x y _ e ((hM3.out.later hbr).later (boxed wr (objI y))) (hxr.2.2.1 y hym) hreg.1 hreg.2 he
                              have hb9 : Below ((w.alloc (objP M)).alloc objZ).heap.size ((w.alloc (objP M)).alloc objZ) (wr.alloc (objI y)) := bthen hb8 (boxed wr (objI y))
                              have hbW : Below w3.heap.size w3 (wr.alloc (objI y)) := bthen hbr (boxed wr (objI y))
                              by_cases h0 : e = 0
                              · subst h0
                                go_wp2_with (go_at_call 58; (with_reducible refine hcall.mono ?_); rintro e w5 ⟨rfl, hbi⟩)
                                go_roundw
                                case rel => exact ⟨q + 1, by omega, by go_num, (fun j z hj hz => by
                                  by_cases hjk : j = q
                                  · subst hjk; rw [hy] at hz; cases hz; exact he.out
                                  · exact halli j z (by omega) hz), bthen hbW hbi⟩
                                case measure => simp [intOf]; omega
                              · have hv := hit e q h0 (fnE_ins hS0.out hes.out ((firstAt_hit _ _ 0 q y hy halli (by rw [he.out]; exact h0)).trans (by rw [he.out, Nat.zero_add])) h0)
                                go_wp2_with (go_at_call 58; (with_reducible refine hcall.mono ?_); rintro e' w5 ⟨rfl, hbi⟩; (have hb10 := bthen hb9 hbi); obtain ⟨hbc, hbf⟩ := bcell hb10)
                                exact bodyPost_ret (v := .tuple #[.int .i64 e, .agg #[.int .i64 k, .int .i64 q]]) (by simp [results, Tryd.results38, go_sem, hbc]) rfl ⟨ret_chk (hv.out.symm.trans hr.out), ((bthen hb hb10).setCell (by simp) _).setCell (by simp) _⟩
                            · have hi0 : Hid (firstE (insR M.pr x.fn) x.fn.code = 0) := firstE_zero _ _ fun s hs => by
                                obtain ⟨j, hj, rfl⟩ := List.getElem_of_mem hs
                                exact halli j _ (by have : j < x.code.length := hj; omega) (List.getElem?_eq_getElem hj)
                              obtain ⟨bb, o, hix, hbl, c0, c1, c2, c3, c4⟩ := ins_ix hxr.1 (x.code.length - 1) xl hxlast
                              rw [show ((x.code.length - 1 : Nat) : Int) = (x.code.length : Int) - 1 by omega] at hix
                              have hclI : (1 : Int) ≤ x.code.length := by omega
                              clear halli hxr
                              by_cases e1 : xl.op = 42
                              · have hv := go_on 0 (fnE_ok hS0.out hes.out hi0.out (by rw [hlast.out]; exact .inl e1))
                                go_wp2
                                go_roundw
                                case rel => exact ⟨k + 1, by omega, by go_num, hv, hb8⟩
                                case measure => simp [intOf]; omega
                              · by_cases e2 : xl.op = 45
                                · have hv := go_on 0 (fnE_ok hS0.out hes.out hi0.out (by rw [hlast.out]; exact .inr (.inl e2)))
                                  go_wp2
                                  go_roundw
                                  case rel => exact ⟨k + 1, by omega, by go_num, hv, hb8⟩
                                  case measure => simp [intOf]; omega
                                · by_cases e3 : xl.op = 61
                                  · have hv := go_on 0 (fnE_ok hS0.out hes.out hi0.out (by rw [hlast.out]; exact .inr (.inr e3)))
                                    go_wp2
                                    go_roundw
                                    case rel => exact ⟨k + 1, by omega, by go_num, hv, hb8⟩
                                    case measure => simp [intOf]; omega
                                  · have hv := hit 39 ((x.code.length : Int) - 1) (by decide) (fnE_fall hS0.out hes.out hi0.out (by rw [hlast.out]; rintro (h | h | h) <;> omega))
                                    obtain ⟨hbc, hbf⟩ := bcell hb8
                                    have hneB : ¬ w.heap.size + 1 = BY := by omega
                                    have hwr : IntKind.i64.wrap ((x.code.length : Int) - 1) = (x.code.length : Int) - 1 := by rw [IntKind.wrap_i64]; omega
                                    have e1b : (xl.op != 42) = true := by simp [e1]
                                    have e2b : (xl.op != 45) = true := by simp [e2]
                                    have e3b : (xl.op != 61) = true := by simp [e3]
                                    go_wp2_with fail
                                    go_region_held3 (fun w' => w'.cell? ⟨BY, 2, none⟩ = some (.slice x.ca x.code.length x.ccap)) (go_keep) (fail)
                                    go_wp2
                                    exact bodyPost_ret (v := .tuple #[.int .i64 39, .agg #[.int .i64 k, .int .i64 ((x.code.length : Int) - 1)]]) (by simp [results, Tryd.results38, go_sem, hbc, hwr]) rfl ⟨ret_chk (hv.out.symm.trans hr.out), ((bthen hb hb8.drew).setCell (by simp) _).setCell (by simp) _⟩
                        · have hv := hit es 0 he0 (fnE_sel hS0.out hes.out he0)
                          go_wp2_with (first | (go_at_call 56; (with_reducible refine hcf.mono ?_); rintro e w2 ⟨rfl, hb2⟩; (have hb5 := bthen hW1 hb2); (have hcs2 := hcs _ hb2); clear hbc hbf; obtain ⟨hbc, hbf⟩ := bcell hb5; obtain ⟨d0, d1, d2, d3⟩ := bX.later hb2) | (go_at_call 57; (with_reducible refine hcs2.mono ?_); rintro e w3 ⟨rfl, hb3⟩; (have hb6 := bthen hb5 hb3); clear hbc hbf; obtain ⟨hbc, hbf⟩ := bcell hb6))
                          exact bodyPost_ret (v := .tuple #[.int .i64 es, .agg #[.int .i64 k, .int .i64 0]]) (by simp [results, Tryd.results38, go_sem, hbc]) rfl ⟨ret_chk (hv.out.symm.trans hr.out), ((bthen hb hb6).setCell (by simp) _).setCell (by simp) _⟩
                    · have hv : Hid (chk insR M.pr = (0, 0, 0)) := hc0.out.trans (fnsE_zero insR M.pr _ 0 fun i f hf => hall' i f (by have := (List.getElem?_eq_some_iff.mp hf).1; simp [MPr.pr] at this; omega) hf)
                      obtain ⟨hbc, hbf⟩ := bcell hbr
                      go_wp2
                      exact bodyPost_ret (v := .tuple #[.int .i64 0, .agg #[.int .i64 0, .int .i64 0]]) (by simp [results, Tryd.results38, go_sem, hbc]) rfl ⟨ret_chk (hv.out.symm.trans hr.out), ((bthen hb hbr).setCell (by simp) _).setCell (by simp) _⟩
            · have hv := no (by omega)
              go_enter Tryd.func38, Tryd.ntmps38
              go_wp2
              exact bodyPost_ret (v := .tuple #[.int .i64 30, .agg #[.int .i64 0, .int .i64 0]]) (by simp [results, Tryd.results38, go_sem]) rfl ⟨ret_chk (hv.out.symm.trans hr.out), hb⟩
          · have hv := no (by omega)
            go_enter Tryd.func38, Tryd.ntmps38
            go_wp2
            exact bodyPost_ret (v := .tuple #[.int .i64 30, .agg #[.int .i64 0, .int .i64 0]]) (by simp [results, Tryd.results38, go_sem]) rfl ⟨ret_chk (hv.out.symm.trans hr.out), hb⟩
        · have hv := no (by omega)
          go_enter Tryd.func38, Tryd.ntmps38
          go_wp2
          exact bodyPost_ret (v := .tuple #[.int .i64 30, .agg #[.int .i64 0, .int .i64 0]]) (by simp [results, Tryd.results38, go_sem]) rfl ⟨ret_chk (hv.out.symm.trans hr.out), hb⟩
      · have hv := no (by omega)
        go_enter Tryd.func38, Tryd.ntmps38
        go_wp2
        exact bodyPost_ret (v := .tuple #[.int .i64 30, .agg #[.int .i64 0, .int .i64 0]]) (by simp [results, Tryd.results38, go_sem]) rfl ⟨ret_chk (hv.out.symm.trans hr.out), hb⟩
    · have hv := no (by omega)
      go_enter Tryd.func38, Tryd.ntmps38
      go_wp2
      exact bodyPost_ret (v := .tuple #[.int .i64 30, .agg #[.int .i64 0, .int .i64 0]]) (by simp [results, Tryd.results38, go_sem]) rfl ⟨ret_chk (hv.out.symm.trans hr.out), hb⟩
  · have hv := no (by omega)
    go_enter Tryd.func38, Tryd.ntmps38
    go_wp2
    exact bodyPost_ret (v := .tuple #[.int .i64 30, .agg #[.int .i64 0, .int .i64 0]]) (by simp [results, Tryd.results38, go_sem]) rfl ⟨ret_chk (hv.out.symm.trans hr.out), hb⟩
end Go.Proofs.YtlcljdldhajkiaaDoor.pg
/- The contract of the document's own Right. -/
namespace Go.Proofs.YtlcljdldhajkiaaDoor.pg
open Go.ChangeShapes Go.WideShapes Go.ChangeAt Go.RowKit
set_option linter.unusedVariables false
set_option linter.unusedSimpArgs false
set_option maxRecDepth 100000
theorem rright_any (M : MPr) (w : World) (hl : M.lies w) (r : Bool) (hr : Hid (decide ((chk insR M.pr).1 = 0) = r)) :
    Calls Tryd.prog 17 #[M.val] w fun e w' => e = .returned (.bool r) ∧ Below w.heap.size w w' := by
  obtain ⟨a, b, c, hc⟩ : ∃ a b c, Hid (chk insR M.pr = (a, b, c)) := ⟨_, _, _, rfl⟩
  have hb := boxed w (objP M)
  have hcall := rcheck_any M _ (hl.later hb) a b c hc
  have hv : Hid (decide (a = 0) = r) := by rw [← hr.out, hc.out]; rfl
  clear hl hr hc
  go_enter Tryd.func17, Tryd.ntmps17
  by_cases h0 : a = 0
  · have hv2 : Hid (r = true) := hv.out.symm.trans (decide_eq_true h0)
    go_wp2_with (go_at_call 38; (with_reducible refine hcall.mono ?_); rintro e w2 ⟨rfl, hb2⟩)
    go_ret
    exact ⟨ret_b (by rw [hv2.out]), bthen (bthen hb hb2) (boxed _ _)⟩
  · have hv2 : Hid (r = false) := hv.out.symm.trans (decide_eq_false h0)
    go_wp2_with (go_at_call 38; (with_reducible refine hcall.mono ?_); rintro e w2 ⟨rfl, hb2⟩)
    go_ret
    exact ⟨ret_b (by rw [hv2.out]; simp [h0]), bthen (bthen hb hb2) (boxed _ _)⟩
end Go.Proofs.YtlcljdldhajkiaaDoor.pg
