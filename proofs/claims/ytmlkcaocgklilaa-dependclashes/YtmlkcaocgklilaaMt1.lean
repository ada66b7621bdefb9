/- Clash of long lists, by a map. -/
import Derived.Test.YtmlkcaocgklilaaMt0
import Derived.Lib.MinMax
import Derived.Deep.DeepCutAuto
namespace Go.Proofs.Ytmlkcaocgklilaa.pg
open Go.ChangeShapes Go.WideShapes Go.ChangeAt Go.RowKit
set_option linter.unusedVariables false
set_option linter.unusedSimpArgs false
set_option maxRecDepth 100000
attribute [local go_sem ↓] Go.wp_at_zero Go.wp_at_succ
theorem how_any (x : Acc) (w : World) : Calls Try.prog 19 #[x.val] w fun e w' => e = .returned (.int .i64 (hw x)) ∧ Below w.heap.size w w' := by
  obtain ⟨k, n, r⟩ := x
  cases r
  all_goals
    go_enter Try.func19, Try.ntmps19
    go_wp2
    go_ret
    exact ⟨rfl, boxed _ _⟩
theorem BoxA.range {w : World} {B : Nat} {x : Acc} (h : BoxA w B x) : w.rangeAt B 0 x.cells := fun j v hv => by
  rw [Nat.zero_add]
  match j with
  | 0 => simp [Acc.cells] at hv; subst hv; exact h.1
  | 1 => simp [Acc.cells] at hv; subst hv; exact h.2.1
  | 2 => simp [Acc.cells] at hv; subst hv; exact h.2.2
  | j + 3 => simp [Acc.cells] at hv
theorem range_later {w w' : World} {B : Nat} {cs : List Value} (h : w.rangeAt B 0 cs) (hB : B < w.heap.size) (hb : Below w.heap.size w w') : w'.rangeAt B 0 cs := fun j v hv => by
  rw [hb.cell (p := ⟨B, 0 + j, none⟩) hB]
  exact h j v hv
theorem range_grown {w w' : World} {B b : Nat} {cs : List Value} (h : w.rangeAt B 0 cs) (hB : B < w.heap.size) (hne : B ≠ b) (hg : w.grownBy w' (some b)) : w'.rangeAt B 0 cs := fun j v hv => by
  have := h j v hv
  unfold World.cell? at this ⊢
  rw [hg.block B hB (by simp [hne])]
  exact this
theorem below_grown {lo : Nat} {a w w' : World} {b : Nat} (h : Below lo a w) (hb : lo ≤ b) (hl : lo ≤ w.heap.size) (hg : w.grownBy w' (some b)) : Below lo a w' :=
  h.trans ⟨hg.os, hg.tape, hg.output, hg.size, fun i hi => hg.block i (by omega) (by simp; omega)⟩
theorem none_two {a b : List Acc} {k : Nat} {y : Acc} (hy : b[k]? = some y) (h : ∀ y ∈ b.take k, ∀ x ∈ a, meets x y = false) (h2 : ∀ x ∈ a, meets x y = false) : ∀ y ∈ b.take (k + 1), ∀ x ∈ a, meets x y = false := by
  intro z hz
  rw [take_one b k y hy, List.mem_append, List.mem_singleton] at hz
  rcases hz with hz | rfl
  · exact h z hz
  · exact h2
theorem run_max_op {P : Program} {o : Oper} {a : Act} {x y : Int} (w : World) (u v : Operand) {ts : Array TypeId} (ho : o.op = .call { callee := .builtin .max, args := #[u, v], argTypes := ts }) (hu : a.eval u = .int .i64 x) (hv : a.eval v = .int .i64 y) :
    (execOp a.eval o).run P w = .ok (.value (.int .i64 (max x y))) w := by
  simp [execOp, ho, resolve, invoke, builtin, hu, hv, Go.Lib.run_max_ints, Result.andThen]
theorem run_lookup_op {P : Program} {o : Oper} {a : Act} {w : World} {t : TypeId} {m k r : Value} (x : Operand) {y : Operand} (ho : o.op = .lookup t x y false) (hx : a.eval x = m) (hy : a.eval y = k) (h : (Instr.lookup t m k false).run P w = .ok r w) : (execOp a.eval o).run P w = .ok (.value r) w := by
  simp [execOp, ho, hx, hy, h, Result.andThen]
theorem run_update_op {P : Program} {o : Oper} {a : Act} {w w' : World} {t : TypeId} {m k r : Value} (x : Operand) {y z : Operand} (ho : o.op = .mapUpdate t x y z) (hx : a.eval x = m) (hy : a.eval y = k) (hz : a.eval z = r) (h : (Instr.mapUpdate t m k r).run P w = .ok () w') : (execOp a.eval o).run P w = .ok .skip w' := by
  simp [execOp, ho, hx, hy, hz, h, Result.andThen]
set_option maxHeartbeats 2000000 in
theorem meet_any (a b : List Acc) (aa ba : Option Addr) (ac bc : Nat) (w : World) (ha : Rows w 3 aa ac (a.map Acc.cells)) (hb : Rows w 3 ba bc (b.map Acc.cells)) (wa : ∀ x ∈ a, x.wf) (wb : ∀ x ∈ b, x.wf) (hs : a.length < maxLen) (R : Bool) (hR : Hid (R = clash a b)) :
    Calls Try.prog 14 #[.slice aa a.length ac, .slice ba b.length bc] w fun e w' => e = .returned (.bool R) ∧ Below w.heap.size w w' := by
  have la := rows_len ha
  have lb := rows_len hb
  have haH : Hid (Rows w 3 aa ac (a.map Acc.cells)) := ha
  have hbH : Hid (Rows w 3 ba bc (b.map Acc.cells)) := hb
  have waH : Hid (∀ x ∈ a, x.wf) := wa
  have wbH : Hid (∀ x ∈ b, x.wf) := wb
  have hsH : Hid (a.length < maxLen) := hs
  clear ha hb wa wb hs
  have hmm := @run_makeMap Try.prog
  have m0 : Hid (MapSt (w.alloc (.map #[] 0)) w.heap.size 0 (mark [])) := mapst_new w
  go_enter Try.func14, Try.ntmps14
  go_wp2
  go_loopw [14] (fun u wr => ∃ j : Nat, j ≤ a.length ∧ u = .int .i64 j ∧ Below w.heap.size w wr ∧ Hid (MapSt wr w.heap.size j (mark (a.take j)))) (fun u _ => a.length - (intOf u).toNat)
  case atStart => exact ⟨0, Nat.zero_le _, rfl, boxed _ _, m0.out⟩
  case round =>
    obtain ⟨j, hj, rfl, hb2, hms⟩ := hrel
    by_cases hlt : j < a.length
    · obtain ⟨x, hx, hxm⟩ := get_lt a j hlt
      obtain ⟨b0, o0, hix, hbl, k0, k1, k2⟩ := acc_ix (haH.out.later hb2) j x hx
      have hjI : (j : Int) < a.length := by omega
      have hwf := waH.out x hxm
      have hvI : Hid (I64 (max (mark (a.take j) x.kind x.num) (hw x))) := by
        have h1 := mark_bd (a.take j) x.kind x.num
        have h2 : 1 ≤ hw x ∧ hw x ≤ 2 := by unfold hw; split <;> omega
        show _ ∧ _
        omega
      have hsn : Hid (mark (a.take (j + 1)) = fun k m => if x.kind = k ∧ x.num = m then max (mark (a.take j) x.kind x.num) (hw x) else mark (a.take j) k m) := by
        show _ = _
        funext k m
        rw [take_one a j x hx, mark_snoc]
        by_cases e : x.kind = k ∧ x.num = m
        · rw [if_pos e, if_pos e, e.1, e.2]
        · rw [if_neg e, if_neg e]
      go_wp2_with fail
      generalize hWW : wr.alloc (objA x) = W at *
      have hBw : Hid (Below w.heap.size w W) := by rw [← hWW]; exact bthen hb2 (boxed _ _)
      have hmW : Hid (MapSt W w.heap.size j (mark (a.take j))) := by rw [← hWW]; exact hms.out.kept (boxed _ _)
      have bA : Hid (W.rangeAt wr.heap.size 0 x.cells) := by rw [← hWW]; exact (boxA_new wr x).range
      have hAW : Hid (wr.heap.size < W.heap.size) := by rw [← hWW]; simp only [Hid, World.size_alloc]; omega
      have hneq : Hid (wr.heap.size ≠ w.heap.size) := by have := hms.out.lt; simp only [Hid]; omega
      clear hWW k0 k1 k2 hix hbl
      have hu := Try.underlying44
      have hi : (Try.prog.info? 44).map (·.size) = some x.cells.length := by kernel_rfl
      have cO : ∀ wx, Calls Try.prog 15 #[.agg x.cells.toArray] wx _ := fun wx => object_any x wx
      have cH : ∀ wx, Calls Try.prog 19 #[.agg x.cells.toArray] wx _ := fun wx => how_any x wx
      generalize wr.heap.size = A0 at *
      refine wp_region_held_drew (S := fun w' => w'.rangeAt A0 0 x.cells) (by kernel_rfl) bA.out (fun hH => ?_)
      refine reg_move (i := 0) rfl (by kernel_rfl) (by kernel_rfl) (by kernel_rfl) (fun _ _ _ _ h => h) rfl _ (fun _ => rfl) hH ?_
      simp only [Act.put, List.getElem_toArray, List.getElem_cons_succ, List.getElem_cons_zero, List.setIfInBounds_toArray, List.set_cons_zero, List.set_cons_succ]
      refine reg_load (i := 1) rfl (by kernel_rfl) (by kernel_rfl) (by kernel_rfl) (fun _ _ _ _ h => h) rfl 44 _ rfl A0 0 rfl x.cells _ (fun w' h' => h') hu rfl hi hH ?_
      simp only [Act.put, List.getElem_toArray, List.getElem_cons_succ, List.getElem_cons_zero, List.setIfInBounds_toArray, List.set_cons_zero, List.set_cons_succ]
      refine reg_move (i := 3) rfl (by kernel_rfl) (by kernel_rfl) (by kernel_rfl) (fun _ _ _ _ h => h) rfl _ (fun _ => rfl) hH ?_
      simp only [Act.put, List.getElem_toArray, List.getElem_cons_succ, List.getElem_cons_zero, List.setIfInBounds_toArray, List.set_cons_zero, List.set_cons_succ]
      refine reg_load (i := 4) rfl (by kernel_rfl) (by kernel_rfl) (by kernel_rfl) (fun _ _ _ _ h => h) rfl 44 _ rfl A0 0 rfl x.cells _ (fun w' h' => h') hu rfl hi hH ?_
      simp only [Act.put, List.getElem_toArray, List.getElem_cons_succ, List.getElem_cons_zero, List.setIfInBounds_toArray, List.set_cons_zero, List.set_cons_succ]
      refine reg_load (i := 7) rfl (by kernel_rfl) (by kernel_rfl) (by kernel_rfl) (fun _ _ _ _ h => h) rfl 44 _ rfl A0 0 rfl x.cells _ (fun w' h' => h') hu rfl hi hH ?_
      simp only [Act.put, List.getElem_toArray, List.getElem_cons_succ, List.getElem_cons_zero, List.setIfInBounds_toArray, List.set_cons_zero, List.set_cons_succ]
      refine reg_call1 (i := 2) (by kernel_rfl) rfl rfl 15 _ _ rfl (.agg x.cells.toArray) rfl (cf_fn Try.func15 (by kernel_rfl) (by kernel_rfl) _ _) _ (cO _) ?_
      rintro e w1 ⟨rfl, hb1⟩
      have g1 : Below W.heap.size W w1 := bthen (bey_drew W) hb1
      refine ⟨_, rfl, range_later bA.out hAW.out g1, fun hH1 => ?_⟩
      simp only [Act.put, List.getElem_toArray, List.getElem_cons_succ, List.getElem_cons_zero, List.setIfInBounds_toArray, List.set_cons_zero, List.set_cons_succ]
      refine reg_call1 (i := 5) (by kernel_rfl) rfl rfl 15 _ _ rfl (.agg x.cells.toArray) rfl (cf_fn Try.func15 (by kernel_rfl) (by kernel_rfl) _ _) _ (cO _) ?_
      rintro e w2 ⟨rfl, hb2'⟩
      have g2 : Below W.heap.size W w2 := bthen g1 hb2'
      refine ⟨_, rfl, range_later bA.out hAW.out g2, fun hH2 => ?_⟩
      simp only [Act.put, List.getElem_toArray, List.getElem_cons_succ, List.getElem_cons_zero, List.setIfInBounds_toArray, List.set_cons_zero, List.set_cons_succ]
      refine wpAnyH_ready (rs := [6, 8]) (by kernel_rfl) (by simp) (AllReadyH.cons rfl (arm_value rfl _ (run_lookup_op _ rfl rfl rfl ((hmW.out.kept g2).look x.kind x.num hwf.1 hwf.2)) hH2 ?_) (AllReadyH.cons rfl (arm_call1 rfl 19 _ _ rfl (.agg x.cells.toArray) rfl (cf_fn Try.func19 (by kernel_rfl) (by kernel_rfl) _ _) _ (cH _) ?_) AllReadyH.nil))
      · simp only [Act.put, List.getElem_toArray, List.getElem_cons_succ, List.getElem_cons_zero, List.setIfInBounds_toArray, List.set_cons_zero, List.set_cons_succ]
        refine reg_call1 (i := 8) (by kernel_rfl) rfl rfl 19 _ _ rfl (.agg x.cells.toArray) rfl (cf_fn Try.func19 (by kernel_rfl) (by kernel_rfl) _ _) _ (cH _) ?_
        rintro e w3 ⟨rfl, hb3⟩
        have g3 : Below W.heap.size W w3 := bthen g2 hb3
        refine ⟨_, rfl, range_later bA.out hAW.out g3, fun hH3 => ?_⟩
        simp only [Act.put, List.getElem_toArray, List.getElem_cons_succ, List.getElem_cons_zero, List.setIfInBounds_toArray, List.set_cons_zero, List.set_cons_succ]
        refine reg_move (i := 9) rfl (by kernel_rfl) (by kernel_rfl) (by kernel_rfl) (fun _ _ _ _ h => h) rfl (.int .i64 (max (mark (a.take j) x.kind x.num) (hw x))) (fun wx => run_max_op wx _ _ rfl rfl rfl) hH3 ?_
        simp only [Act.put, List.getElem_toArray, List.getElem_cons_succ, List.getElem_cons_zero, List.setIfInBounds_toArray, List.set_cons_zero, List.set_cons_succ]
        obtain ⟨w5, hr5, hm5, hg5⟩ := (hmW.out.kept g3).put (by have := hsH.out; omega) x.kind x.num (max (mark (a.take j) x.kind x.num) (hw x)) hwf.1 hwf.2 hvI.out
        have hA5 : w5.rangeAt A0 0 x.cells := range_grown hH3 (by have := g3.size; have := hAW.out; omega) hneq.out hg5
        refine wpAnyH_ready (rs := [10]) (by kernel_rfl) (by simp) (AllReadyH.cons rfl (arm_skip rfl w5 (run_update_op _ rfl rfl rfl rfl hr5) hA5 ?_) AllReadyH.nil)
        simp only [Act.put, List.getElem_toArray, List.getElem_cons_succ, List.getElem_cons_zero, List.setIfInBounds_toArray, List.set_cons_zero, List.set_cons_succ]
        refine wpAnyH_done (by kernel_rfl) ?_ _
        go_wp2
        go_roundw
        case rel => exact ⟨j + 1, by omega, by go_num, below_grown (bthen hBw.out g3) (Nat.le_refl _) (by have := (bthen hBw.out g3).size; omega) hg5, by rw [hsn.out]; exact hm5⟩
        case measure => simp [intOf]; omega
      · rintro e w3 ⟨rfl, hb3⟩
        have g3 : Below W.heap.size W w3 := bthen g2 hb3
        refine ⟨_, rfl, range_later bA.out hAW.out g3, fun hH3 => ?_⟩
        simp only [Act.put, List.getElem_toArray, List.getElem_cons_succ, List.getElem_cons_zero, List.setIfInBounds_toArray, List.set_cons_zero, List.set_cons_succ]
        refine wpAnyH_ready (rs := [6]) (by kernel_rfl) (by simp) (AllReadyH.cons rfl (arm_value rfl _ (run_lookup_op _ rfl rfl rfl ((hmW.out.kept g3).look x.kind x.num hwf.1 hwf.2)) hH3 ?_) AllReadyH.nil)
        simp only [Act.put, List.getElem_toArray, List.getElem_cons_succ, List.getElem_cons_zero, List.setIfInBounds_toArray, List.set_cons_zero, List.set_cons_succ]
        refine reg_move (i := 9) rfl (by kernel_rfl) (by kernel_rfl) (by kernel_rfl) (fun _ _ _ _ h => h) rfl (.int .i64 (max (mark (a.take j) x.kind x.num) (hw x))) (fun wx => run_max_op wx _ _ rfl rfl rfl) hH3 ?_
        simp only [Act.put, List.getElem_toArray, List.getElem_cons_succ, List.getElem_cons_zero, List.setIfInBounds_toArray, List.set_cons_zero, List.set_cons_succ]
        obtain ⟨w5, hr5, hm5, hg5⟩ := (hmW.out.kept g3).put (by have := hsH.out; omega) x.kind x.num (max (mark (a.take j) x.kind x.num) (hw x)) hwf.1 hwf.2 hvI.out
        have hA5 : w5.rangeAt A0 0 x.cells := range_grown hH3 (by have := g3.size; have := hAW.out; omega) hneq.out hg5
        refine wpAnyH_ready (rs := [10]) (by kernel_rfl) (by simp) (AllReadyH.cons rfl (arm_skip rfl w5 (run_update_op _ rfl rfl rfl rfl hr5) hA5 ?_) AllReadyH.nil)
        simp only [Act.put, List.getElem_toArray, List.getElem_cons_succ, List.getElem_cons_zero, List.setIfInBounds_toArray, List.set_cons_zero, List.set_cons_succ]
        refine wpAnyH_done (by kernel_rfl) ?_ _
        go_wp2
        go_roundw
        case rel => exact ⟨j + 1, by omega, by go_num, below_grown (bthen hBw.out g3) (Nat.le_refl _) (by have := (bthen hBw.out g3).size; omega) hg5, by rw [hsn.out]; exact hm5⟩
        case measure => simp [intOf]; omega
    · have hj2 : j = a.length := by omega
      subst hj2
      rw [List.take_length] at hms
      clear m0 hmm hsH waH
      go_wp2
      go_loopw [31] (fun u wq => ∃ k : Nat, k ≤ b.length ∧ u = .int .i64 k ∧ Below wr.heap.size wr wq ∧ Hid (∀ y ∈ b.take k, ∀ x ∈ a, meets x y = false)) (fun u _ => b.length - (intOf u).toNat)
      case atStart => exact ⟨0, Nat.zero_le _, rfl, Below.refl _ _, fun s hs => by simp at hs⟩
      case round =>
        rename World => wq
        obtain ⟨k, hk, rfl, hb3, hno⟩ := hrel
        by_cases hlt2 : k < b.length
        · obtain ⟨y, hy, hym⟩ := get_lt b k hlt2
          obtain ⟨b1, o1, hix1, hbl1, k0, k1, k2⟩ := acc_ix (hbH.out.later (bthen hb2 hb3)) k y hy
          have hkI : (k : Int) < b.length := by omega
          have hwf := wbH.out y hym
          have hmm := mark_meets a y
          have hlook : ∀ wx, Below wq.heap.size wq wx → _ := fun wx h => (hms.out.kept (bthen hb3 h)).look y.kind y.num hwf.1 hwf.2
          have hlH : Hid (∀ wx, Below wq.heap.size wq wx → _) := hlook
          have cO : ∀ wx, Calls Try.prog 15 #[y.val] wx _ := fun wx => object_any y wx
          have cH : ∀ wx, Calls Try.prog 19 #[y.val] wx _ := fun wx => how_any y wx
          have hb3H : Hid (Below _ _ wq) := hb3
          clear hlook hb3
          generalize mark a y.kind y.num = c at *
          generalize hw y = h at *
          by_cases h1 : 0 < c
          · by_cases h2 : max c h = 2
            · have hm : Hid (R = true) := by
                obtain ⟨x, hx, q⟩ := hmm.mp ⟨h1, h2⟩
                exact hR.out.trans (clash_true hx hym q)
              have h3 : (max c h == 2) = true := by simpa using h2
              clear hmm h2
              go_wp2_with (first
                | (go_at_call 15; (with_reducible refine (cO _).mono ?_); rintro e w1 ⟨rfl, hb4⟩; (have hB1 : Hid (Below wq.heap.size wq w1) := bthen (boxed _ _) hb4); (have hl := hlH.out _ hB1.out); (have hd := cell_later hb4 (boxA_new wq y).1); (have hd1 := cell_later hb4 (boxA_new wq y).2.1); (have hd2 := cell_later hb4 (boxA_new wq y).2.2))
                | (go_at_call 19; (with_reducible refine (cH _).mono ?_); rintro e w2 ⟨rfl, hb5⟩; (have hB2 : Hid (Below wq.heap.size wq w2) := bthen hB1.out hb5)))
              go_ret
              exact ⟨by rw [hm.out]; rfl, bthen hb2 (bthen hb3H.out hB2.out)⟩
            · have hm : Hid (∀ x ∈ a, meets x y = false) := fun x hx => by
                rw [Bool.eq_false_iff]
                exact fun q => h2 (hmm.mpr ⟨x, hx, q⟩).2
              have h3 : (max c h == 2) = false := by simpa using h2
              clear hmm h2
              go_wp2_with (first
                | (go_at_call 15; (with_reducible refine (cO _).mono ?_); rintro e w1 ⟨rfl, hb4⟩; (have hB1 : Hid (Below wq.heap.size wq w1) := bthen (boxed _ _) hb4); (have hl := hlH.out _ hB1.out); (have hd := cell_later hb4 (boxA_new wq y).1); (have hd1 := cell_later hb4 (boxA_new wq y).2.1); (have hd2 := cell_later hb4 (boxA_new wq y).2.2))
                | (go_at_call 19; (with_reducible refine (cH _).mono ?_); rintro e w2 ⟨rfl, hb5⟩; (have hB2 : Hid (Below wq.heap.size wq w2) := bthen hB1.out hb5)))
              go_roundw
              case rel => exact ⟨k + 1, by omega, by go_num, bthen hb3H.out hB2.out, none_two hy hno.out hm.out⟩
              case measure => simp [intOf]; omega
          · have hm : Hid (∀ x ∈ a, meets x y = false) := fun x hx => by
              rw [Bool.eq_false_iff]
              exact fun q => h1 (hmm.mpr ⟨x, hx, q⟩).1
            clear hmm
            go_wp2_with (first
              | (go_at_call 15; (with_reducible refine (cO _).mono ?_); rintro e w1 ⟨rfl, hb4⟩; (have hB1 : Hid (Below wq.heap.size wq w1) := bthen (boxed _ _) hb4); (have hl := hlH.out _ hB1.out); (have hd := cell_later hb4 (boxA_new wq y).1); (have hd1 := cell_later hb4 (boxA_new wq y).2.1); (have hd2 := cell_later hb4 (boxA_new wq y).2.2))
              | (go_at_call 19; (with_reducible refine (cH _).mono ?_); rintro e w2 ⟨rfl, hb5⟩; (have hB2 : Hid (Below wq.heap.size wq w2) := bthen hB1.out hb5)))
            go_roundw
            case rel => exact ⟨k + 1, by omega, by go_num, bthen hb3H.out hB1.out, none_two hy hno.out hm.out⟩
            case measure => simp [intOf]; omega
        · have hk2 : k = b.length := by omega
          subst hk2
          rw [List.take_length] at hno
          go_wp2
          go_ret
          exact ⟨by rw [hR.out, clash_false fun x hx y hy => hno.out y hy x hx]; rfl, bthen hb2 hb3⟩
end Go.Proofs.Ytmlkcaocgklilaa.pg
