/- The contracts of the document's own look at a function's sizes, of its Check and Right. -/
import Derived.Test.YtaghfahhfockkaaDoorRef3
import Derived.Test.YtaghfahhfockkaaDoorChk7
namespace Go.Proofs.YtaghfahhfockkaaDoor.pg
open Go.ChangeShapes Go.WideShapes Go.ChangeAt Go.RowKit
set_option linter.unusedVariables false
set_option linter.unusedSimpArgs false
set_option maxRecDepth 100000
set_option maxHeartbeats 4000000 in
theorem rformed_any (n : Nat) (f : MFn) (w : World) (hf : f.lies w) (r : Bool) (hr : Hid (decide (shaped f.fn ∧ (n = 0 → f.fn.params = 0)) = r)) :
    Calls Tryd.prog 42 #[.int .i64 n, f.val] w fun e w' => e = .returned (.bool r) ∧ Below w.heap.size w w' := by
  have no : ¬ ((0 ≤ f.regs ∧ f.regs ≤ 8) ∧ (0 ≤ f.params ∧ f.params ≤ f.regs) ∧ ((n : Int) = 0 → f.params = 0) ∧ ((1 : Int) ≤ f.code.length ∧ (f.code.length : Int) ≤ 64) ∧ (f.sels.length : Int) ≤ 4) → Hid (r = false) := fun hn => by
    show r = false
    rw [← hr.out, decide_eq_false_iff_not]
    intro ⟨⟨a, b, c, d, e⟩, g⟩
    simp only [MFn.fn, List.length_map] at a b c d g
    exact hn ⟨a, b, fun h => g (by omega), by omega, by omega⟩
  have hln := rows_len hf.2.1
  by_cases h1 : 0 ≤ f.regs
  · by_cases h1' : f.regs ≤ 8
    · by_cases h2 : 0 ≤ f.params
      · by_cases h2' : f.params ≤ f.regs
        · by_cases hp : (n : Int) = 0 ∧ ¬ f.params = 0
          · have hv := no (fun h => hp.2 (h.2.2.1 hp.1))
            obtain ⟨hp1, hp2⟩ := hp
            have hpb : (f.params != 0) = true := by simp [hp2]
            go_enter Tryd.func42, Tryd.ntmps42
            go_wp2
            go_ret
            exact ⟨ret_b hv.out.symm, boxed _ _⟩
          · obtain ⟨params, regs, ca, ccap, code, sa, scap, sels⟩ := f
            simp only at h1 h1' h2 h2' hp no hln hr hf
            by_cases hn0 : (n : Int) = 0
            all_goals
              first | (have hp0 : params = 0 := Classical.byContradiction fun q => hp ⟨hn0, q⟩; subst hp0) | skip
              by_cases h3 : (1 : Int) ≤ code.length
              · by_cases h3' : (code.length : Int) ≤ 64
                · by_cases h4 : (sels.length : Int) ≤ 4
                  · clear hp
                    go_enter Tryd.func42, Tryd.ntmps42
                    go_wp2
                    go_loopw [55] (fun i wr => ∃ k : Nat, k ≤ sels.length ∧ i = .int .i64 k ∧ (∀ j y, j < k → sels[j]? = some y → 1 ≤ y.cases.length ∧ y.cases.length ≤ 4) ∧ Below w.heap.size w wr) (fun i _ => sels.length - (intOf i).toNat)
                    case atStart => exact ⟨0, Nat.zero_le _, rfl, fun j y hj => by omega, boxed _ _⟩
                    case round =>
                      obtain ⟨k, hk, rfl, hall, hbr⟩ := hrel
                      by_cases hlt : k < sels.length
                      · obtain ⟨x, hx, hm⟩ := get_lt sels k hlt
                        have hLr := hf.later hbr
                        obtain ⟨b, o, hix, hbl, hc0, hc1⟩ := sel_ix hLr.2.1 k x hx
                        have hr0 := hr
                        clear hLr hr no
                        by_cases hx1 : (1 : Int) ≤ x.cases.length
                        · by_cases hx4 : (x.cases.length : Int) ≤ 4
                          · go_wp2
                            go_roundw
                            case rel => exact ⟨k + 1, by omega, by go_num, (fun j y hj hy => by
                              by_cases hjk : j = k
                              · subst hjk; rw [hx] at hy; cases hy; omega
                              · exact hall j y (by omega) hy), bthen hbr (boxed _ _)⟩
                            case measure => simp [intOf]; omega
                          · have hv : Hid (r = false) := by
                              show r = false
                              rw [← hr0.out, decide_eq_false_iff_not]
                              intro ⟨⟨_, _, _, _, e⟩, _⟩
                              have := e x.sel (by simp only [MFn.fn, List.mem_map]; exact ⟨x, hm, rfl⟩)
                              simp only [MSel.sel] at this
                              omega
                            go_wp2
                            go_ret
                            exact ⟨ret_b hv.out.symm, bthen hbr (boxed _ _)⟩
                        · have hv : Hid (r = false) := by
                            show r = false
                            rw [← hr0.out, decide_eq_false_iff_not]
                            intro ⟨⟨_, _, _, _, e⟩, _⟩
                            have := e x.sel (by simp only [MFn.fn, List.mem_map]; exact ⟨x, hm, rfl⟩)
                            simp only [MSel.sel] at this
                            omega
                          go_wp2
                          go_ret
                          exact ⟨ret_b hv.out.symm, bthen hbr (boxed _ _)⟩
                      · have hv : Hid (r = true) := by
                          show r = true
                          rw [← hr.out, decide_eq_true_iff]
                          refine ⟨⟨⟨h1, h1'⟩, ⟨h2, h2'⟩, by simp only [MFn.fn]; omega, by simp only [MFn.fn, List.length_map]; omega, fun s hs => ?_⟩, fun q => ?_⟩
                          · simp only [MFn.fn, List.mem_map] at hs
                            obtain ⟨y, hy, rfl⟩ := hs
                            obtain ⟨j, hj, rfl⟩ := List.getElem_of_mem hy
                            exact hall j _ (by omega) (List.getElem?_eq_getElem hj)
                          · first | rfl | (exfalso; omega)
                        clear no hr
                        go_wp2
                        go_ret
                        exact ⟨ret_b hv.out.symm, hbr⟩
                  · have hv := no (by intro h; omega)
                    go_enter Tryd.func42, Tryd.ntmps42
                    go_wp2
                    go_ret
                    exact ⟨ret_b hv.out.symm, boxed _ _⟩
                · have hv := no (by intro h; omega)
                  go_enter Tryd.func42, Tryd.ntmps42
                  go_wp2
                  go_ret
                  exact ⟨ret_b hv.out.symm, boxed _ _⟩
              · have hv := no (by intro h; omega)
                go_enter Tryd.func42, Tryd.ntmps42
                go_wp2
                go_ret
                exact ⟨ret_b hv.out.symm, boxed _ _⟩
        · have hv := no (by intro h; omega)
          go_enter Tryd.func42, Tryd.ntmps42
          go_wp2
          go_ret
          exact ⟨ret_b hv.out.symm, boxed _ _⟩
      · have hv := no (by intro h; omega)
        go_enter Tryd.func42, Tryd.ntmps42
        go_wp2
        go_ret
        exact ⟨ret_b hv.out.symm, boxed _ _⟩
    · have hv := no (by intro h; omega)
      go_enter Tryd.func42, Tryd.ntmps42
      go_wp2
      go_ret
      exact ⟨ret_b hv.out.symm, boxed _ _⟩
  · have hv := no (by intro h; omega)
    go_enter Tryd.func42, Tryd.ntmps42
    go_wp2
    go_ret
    exact ⟨ret_b hv.out.symm, boxed _ _⟩
end Go.Proofs.YtaghfahhfockkaaDoor.pg
