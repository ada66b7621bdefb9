/- A trace of one goroutine has no rings: plain. -/
import Derived.Test.YtdfnmlcpimiboaaM33
namespace Go.Proofs.Ytdfnmlcpimiboaa.pg
open Go.RowKit
set_option linter.unusedVariables false
theorem tkF_mem (hf : Nat → Bool) (E : List Ed) (k : Nat) : ∀ j, ∀ t ∈ tkF hf (E.take j) k, ∃ e ∈ E, t = tkE hf e
  | 0, t, h => by simp [tkF] at h
  | j + 1, t, h => by
    cases he : E[j]? with
    | none =>
      have hj : E.length ≤ j := List.getElem?_eq_none_iff.mp he
      rw [List.take_of_length_le (by omega)] at h
      refine tkF_mem hf E k j t ?_
      rw [List.take_of_length_le hj]
      exact h
    | some e =>
      rw [tkF_step he] at h
      unfold stepT at h
      split at h
      · unfold addT at h
        split at h
        · exact tkF_mem hf E k j t h
        · rw [List.mem_append, List.mem_singleton] at h
          rcases h with h | rfl
          · exact tkF_mem hf E k j t h
          · exact ⟨e, List.mem_of_getElem? he, rfl⟩
      · exact tkF_mem hf E k j t h
theorem edges_go {l : List Ev} {e : Ed} (h : e ∈ edgesL l l.length) : ∃ x ∈ l, e.go = x.go := by
  unfold edgesL at h
  obtain ⟨i, hi, he⟩ := List.mem_flatMap.mp h
  rw [List.mem_range] at hi
  obtain ⟨x, hx, hm⟩ := get_lt l i hi
  unfold edgeAt at he
  rw [evA_at hx] at he
  split at he
  · obtain ⟨f, _, rfl⟩ := List.mem_map.mp he
    exact ⟨x, hm, rfl⟩
  · simp at he
theorem tks_go {l : List Ev} {k : Nat} {t : Tk} (h : t ∈ tksL l k) : ∃ x ∈ l, t.by_ = x.go := by
  unfold tksL at h
  obtain ⟨e, he, rfl⟩ := tkF_mem (heldF l l.length) (edgesL l l.length) k (edgesL l l.length).length t (by rw [List.take_length]; exact h)
  exact edges_go he
theorem growL_ok {ok : List Nat → Bool} : ∀ (m : Nat) (b : List Nat), ∀ r ∈ growL ok m b, ok r = true
  | 0, b, r, h => by
    unfold growL at h
    split at h
    · rename_i q
      rw [List.mem_singleton] at h
      subst h
      exact q.2
    · simp at h
  | m + 1, b, r, h => by
    unfold growL at h
    rw [List.mem_append, List.mem_flatMap] at h
    rcases h with h | ⟨x, _, h⟩
    · split at h
      · rename_i q
        rw [List.mem_singleton] at h
        subst h
        exact q.2
      · simp at h
    · split at h
      · exact growL_ok m (b ++ [x]) r h
      · simp at h
theorem ringsL_ok {ok : List Nat → Bool} {k : Nat} {r : List Nat} (h : r ∈ ringsL ok k) : ok r = true := by
  unfold ringsL at h
  obtain ⟨x, _, hr⟩ := List.mem_flatMap.mp h
  exact growL_ok 3 [x] r hr
theorem cho_one {F : Nat → List Tk} {g : Int} (hF : ∀ k, ∀ t ∈ F k, t.by_ = g) (r : List Nat) (m : Nat) (y : Tk) (ch : List Tk) (hy : y.by_ = g) : choB unB F r (m + 1) (y :: ch) = false := by
  rw [choB_step, Bool.eq_false_iff]
  intro q
  obtain ⟨x, hx, q⟩ := List.any_eq_true.mp q
  unfold stpB at q
  rw [Bool.and_eq_true, Bool.not_eq_true'] at q
  have q1 := q.1
  rw [List.any_cons, Bool.or_eq_false_iff] at q1
  have : unB x y = false := by
    unfold unB
    rw [hF _ x hx, hy]
    simp
  rw [this] at q1
  exact absurd q1.1 (by decide)
theorem cho_none {F : Nat → List Tk} {g : Int} (hF : ∀ k, ∀ t ∈ F k, t.by_ = g) (r : List Nat) (m : Nat) : choB unB F r (m + 2) [] = false := by
  rw [choB_step, Bool.eq_false_iff]
  intro q
  obtain ⟨x, hx, q⟩ := List.any_eq_true.mp q
  unfold stpB at q
  rw [Bool.and_eq_true] at q
  have := cho_one hF r m x [] (hF _ x hx)
  rw [List.nil_append, this] at q
  exact absurd q.2 (by decide)
/-- A trace of one goroutine has no rings. -/
theorem alone_nil {l : List Ev} {g : Int} (h : ∀ x ∈ l, x.go = g) (c : Int) : rngR l c = [] := by
  unfold rngR
  split
  · rw [List.eq_nil_iff_forall_not_mem]
    intro r hr
    obtain ⟨_, h1, _⟩ := ringsL_mem hr
    have ho := ringsL_ok hr
    obtain ⟨m, hm⟩ : ∃ m, r.length = m + 2 := ⟨r.length - 2, by omega⟩
    unfold okL at ho
    rw [hm, cho_none (F := tksL l) (g := g) (fun k t ht => by
      obtain ⟨x, hx, e⟩ := tks_go ht
      rw [e, h x hx])] at ho
    cases ho
  · rfl
end Go.Proofs.Ytdfnmlcpimiboaa.pg
/- GoodlockAlone, walked. -/
namespace Go.Proofs.Ytdfnmlcpimiboaa.pg
open Go.ChangeShapes Go.WideShapes Go.ChangeAt Go.RowKit Go.Shelf
set_option linter.unusedVariables false
set_option linter.unusedSimpArgs false
set_option maxRecDepth 100000
attribute [local go_sem ↓] Go.wp_at_zero Go.wp_at_succ
theorem run_lenEv {o : Oper} {ρ : Operand → Value} (x : Operand) (ho : o.op = .call { callee := .builtin .len, args := #[x], argTypes := #[22] }) (g : Option Addr) (n c : Nat) (hx : ρ x = .slice g n c) (w : World) : (execOp ρ o).run Try.prog w = .ok (.value (.int .i64 (n : Int))) w := by
  have u := Try.underlying22
  simp [execOp, ho, resolve, invoke, builtin, hx, Builtin.len_, run_underlying u, go_sem]
theorem filt_step {l : List Ev} {j : Nat} {y : Ev} {g : Int} (h : l[j]? = some y) : (l.take (j + 1)).filter (fun x => x.go == g) = (l.take j).filter (fun x => x.go == g) ++ (if y.go = g then [y] else []) := by
  rw [take_one l j y h, List.filter_append]
  congr 1
  by_cases e : y.go = g
  · rw [if_pos e]; simp [e]
  · rw [if_neg e]; simp [e]
theorem filt_len (l : List Ev) (g : Int) (j : Nat) : ((l.take j).filter (fun x => x.go == g)).length ≤ j := by
  refine Nat.le_trans (List.length_filter_le _ _) ?_
  rw [List.length_take]
  omega
/-- Events that a call keeps. -/
structure EvO (w X : World) (C : List Ev) (a : Option Addr) (c : Nat) : Prop where
  o : OwnL X w.heap.size 55 26 a c (C.map Ev.cells)
  b : Below w.heap.size w X
theorem EvO.later {w X X' : World} {C : List Ev} {a : Option Addr} {c : Nat} (h : EvO w X C a c) (hb : Below X.heap.size X X') : EvO w X' C a c := ⟨own_keep h.o fun b hbb => hb.block b (blk_lt h.o b hbb).2, bthen h.b hb⟩
theorem EvO.grow {w X Z : World} {C : List Ev} {a va : Option Addr} {c vc : Nat} {y : Ev} (h : EvO w X C a c) (hgr : Grown X w.heap.size 55 26 a (C.map Ev.cells) y.cells va vc Z) : EvO w Z (C ++ [y]) va vc := by
  refine ⟨by rw [List.map_append]; exact hgr.ow, ?_⟩
  have := hgr.be
  rw [Nat.min_eq_left h.b.size] at this
  exact h.b.trans this
theorem EvO.rows {w X : World} {C : List Ev} {a : Option Addr} {c : Nat} (h : EvO w X C a c) : Rows X 26 a c (C.map Ev.cells) := own_rows h.o (evs_rowsG C).1
set_option maxHeartbeats 4000000 in
theorem alone_row (l : List Ev) (la : Option Addr) (lc : Nat) (w : World) (hz : EvsZ w la lc l) : Calls Try.prog 5 #[.slice la l.length lc] w fun e w' => e = .returned (.bool true) ∧ Below w.heap.size w w' := by
  have hlH : Hid (Rows w 26 la lc (l.map Ev.cells)) := hz.1.1
  have hsz : Hid (l.length ≤ maxLen ∧ l.length * 208 ≤ 140737488355328) := by
    have h1 := rows_len hz.1.1
    have h2 := hz.2
    unfold reachBytes at h2
    exact ⟨by unfold maxLen; omega, by omega⟩
  have hlI := rows_len hz.1.1
  obtain ⟨iE, hiE, hzE, hsE, hbE⟩ := info_q infoEvG
  have hiH : Hid (Try.prog.info? 55 = some iE ∧ iE.zero = some (.agg evZG.cells.toArray) ∧ iE.size = 26 ∧ iE.bytes = 208) := ⟨hiE, hzE, hsE, hbE⟩
  have huE : Hid (Try.prog.underlying 55 = _) := Try.underlying55
  have hiE6 : Hid ((Try.prog.info? 55).map (·.size) = some 26) := infoE26
  have cS : ∀ wx, Calls Try.prog 15 #[] wx _ := fun wx => smallG_any wx
  obtain ⟨g0, hg0⟩ : ∃ g0 : Int, ∀ x, l[0]? = some x → x.go = g0 := by
    cases h : l[0]? with
    | none => exact ⟨0, fun x q => by cases q⟩
    | some x => exact ⟨x.go, fun y q => by cases q; rfl⟩
  have hgH : Hid (∀ x, l[0]? = some x → x.go = g0) := hg0
  have h0 : Hid (EvO w w [] none 0) := ⟨own_nil_q _ _ _ _, Below.refl _ _⟩
  clear hz hiE hzE hsE hbE hg0
  go_enter Try.func5, Try.ntmps5
  go_wp2_with fail
  go_loopw [3, 10] (fun u3 u wr => ∃ (j : Nat) (a : Option Addr) (C : List Ev) (c : Nat), j ≤ l.length ∧ u = .int .i64 (j : Int) ∧ u3 = .slice a C.length c ∧ Hid (EvO w wr C a c) ∧ Hid (C = (l.take j).filter (fun x => x.go == g0))) (fun _ u _ => l.length - (intOf u).toNat)
  case atStart => exact ⟨0, none, [], 0, Nat.zero_le _, rfl, rfl, h0.out, rfl⟩
  case round =>
    obtain ⟨j, a, C, c, hj, rfl, rfl, hq, hC⟩ := hrel
    clear h0
    by_cases hlj : j < l.length
    · have hjI : (j : Int) < l.length := by omega
      obtain ⟨y, hy⟩ : ∃ y, l[j]? = some y := ⟨_, List.getElem?_eq_getElem hlj⟩
      obtain ⟨x0, hx0⟩ : ∃ x0, l[0]? = some x0 := ⟨_, List.getElem?_eq_getElem (by omega)⟩
      have e0 : x0.go = g0 := hgH.out x0 hx0
      obtain ⟨b1, o1, x1, l1, r1⟩ := ev_row (hlH.out.later hq.out.b) j y hy
      obtain ⟨b9, o9, x9, l9, r9⟩ := ev_row (hlH.out.later hq.out.b) 0 x0 hx0
      have x9 : ∀ wx, (Instr.indexAt 22 (.slice la l.length lc) (.int .i64 0)).run Try.prog wx = .ok (.pointer (some ⟨b9, o9, none⟩)) wx := x9
      have k9 : Hid (wr.cell? ⟨b9, o9 + 0, none⟩ = some (.int .i64 g0) ∧ b9 < wr.heap.size) := ⟨by (rw [← e0]; exact r9 0 _ rfl), l9⟩
      have hrg : Hid (wr.rangeAt b1 o1 y.cells) := r1
      have hstp : Hid ((l.take (j + 1)).filter (fun x => x.go == g0) = C ++ (if y.go = g0 then [y] else [])) := by (show _ = _; rw [hC.out]; exact filt_step hy)
      have hCl : Hid (C.length + 1 ≤ l.length) := by (show _ ≤ _; rw [hC.out]; have := filt_len l g0 j; omega)
      have hst1 : Hid (EvO w (wr.alloc (objE y)) C a c ∧ (wr.alloc (objE y)).heap[wr.heap.size]? = some (.cells y.cells.toArray 55) ∧ (wr.alloc (objE y)).cell? ⟨b9, o9 + 0, none⟩ = some (.int .i64 g0) ∧ b9 < (wr.alloc (objE y)).heap.size) := ⟨hq.out.later (boxed _ _), heap_alloc_new _ _, cell_keepG k9.out.1 ((boxed _ _).block _ k9.out.2), Nat.lt_of_lt_of_le k9.out.2 (boxed wr (objE y)).size⟩
      have hd : decide ((l.length : Int) > 0) = true := decide_eq_true (by omega)
      clear r1 l1 r9 l9 hq hy hx0 e0 k9 hC
      go_upto_region 5 with (first
        | (refine wpList_load_mid rfl 55 _ rfl b1 o1 rfl y.cells _ hrg.out huE.out rfl hiE6.out ?_)
        | (refine wpList_store_new rfl 55 _ _ rfl rfl _ y.cells.toArray rfl (by kernel_rfl) rfl (ev_one y) ?_))
      change Code.wp _ _ _ _ (wr.alloc (objE y))
      generalize wr.alloc (objE y) = X1 at *
      generalize wr.heap.size = B at *
      clear hrg x1
      have hRd : Hid (∀ w', Below X1.heap.size X1 w' → w'.cell? ⟨B, 0, none⟩ = some (.int .i64 y.go) ∧ w'.cell? ⟨b9, o9 + 0, none⟩ = some (.int .i64 g0)) := fun w' z => ⟨cell_lcG (blk_onG hst1.out.2.1 z) rfl, cell_keepG hst1.out.2.2.1 (z.block _ hst1.out.2.2.2)⟩
      have hS : Hid (Below X1.heap.size X1 X1.drew) := bey_drew X1
      refine wp_region_noPanic ?_
      refine wp_region_held_drew (S := fun w' => Below X1.heap.size X1 w') (by kernel_rfl) hS.out (fun _ => ?_)
      refine reg_move (i := 0) rfl (by kernel_rfl) (by kernel_rfl) (by kernel_rfl) (fun _ _ _ _ h => h) rfl (.slice la l.length lc) (fun _ => rfl) hS.out ?_
      simp only [Act.put, List.getElem_toArray, List.getElem_cons_succ, List.getElem_cons_zero, List.setIfInBounds_toArray, List.set_cons_zero, List.set_cons_succ]
      refine reg_move (i := 1) rfl (by kernel_rfl) (by kernel_rfl) (by kernel_rfl) (fun _ _ _ _ h => h) rfl (.int .i64 (l.length : Int)) (fun wx => run_lenEv _ rfl _ _ _ rfl wx) hS.out ?_
      simp only [Act.put, List.getElem_toArray, List.getElem_cons_succ, List.getElem_cons_zero, List.setIfInBounds_toArray, List.set_cons_zero, List.set_cons_succ]
      refine reg_move (i := 2) rfl (by kernel_rfl) (by kernel_rfl) (by kernel_rfl) (fun _ _ _ _ h => h) rfl (.bool (decide ((l.length : Int) > 0))) (fun _ => rfl) hS.out ?_
      simp only [Act.put, List.getElem_toArray, List.getElem_cons_succ, List.getElem_cons_zero, List.setIfInBounds_toArray, List.set_cons_zero, List.set_cons_succ]
      rw [hd]
      refine reg_move (i := 3) rfl (by kernel_rfl) (by kernel_rfl) (by kernel_rfl) (fun _ _ _ _ h => h) rfl (.bool true) (fun _ => rfl) hS.out ?_
      simp only [Act.put, List.getElem_toArray, List.getElem_cons_succ, List.getElem_cons_zero, List.setIfInBounds_toArray, List.set_cons_zero, List.set_cons_succ]
      refine reg_move (i := 4) rfl (by kernel_rfl) (by kernel_rfl) (by kernel_rfl) (fun _ _ _ _ h => h) rfl (.pointer (some ⟨B, 0, none⟩)) (fun _ => rfl) hS.out ?_
      simp only [Act.put, List.getElem_toArray, List.getElem_cons_succ, List.getElem_cons_zero, List.setIfInBounds_toArray, List.set_cons_zero, List.set_cons_succ]
      refine reg_load1 (i := 5) rfl (by kernel_rfl) (by kernel_rfl) (by kernel_rfl) (fun _ _ _ _ h => h) rfl 3 _ rfl ⟨B, 0, none⟩ rfl _ Try.underlying3 rfl (.int .i64 y.go) (fun w' z => (hRd.out w' z).1) hS.out ?_
      simp only [Act.put, List.getElem_toArray, List.getElem_cons_succ, List.getElem_cons_zero, List.setIfInBounds_toArray, List.set_cons_zero, List.set_cons_succ]
      refine reg_move (i := 6) rfl (by kernel_rfl) (by kernel_rfl) (by kernel_rfl) (fun _ _ _ _ h => h) rfl (.slice la l.length lc) (fun _ => rfl) hS.out ?_
      simp only [Act.put, List.getElem_toArray, List.getElem_cons_succ, List.getElem_cons_zero, List.setIfInBounds_toArray, List.set_cons_zero, List.set_cons_succ]
      refine reg_move (i := 7) rfl (by kernel_rfl) (by kernel_rfl) (by kernel_rfl) (fun _ _ _ _ h => h) rfl (.pointer (some ⟨b9, o9, none⟩)) (fun wx => by unfold execOp; exact run_value_of (x9 wx)) hS.out ?_
      simp only [Act.put, List.getElem_toArray, List.getElem_cons_succ, List.getElem_cons_zero, List.setIfInBounds_toArray, List.set_cons_zero, List.set_cons_succ]
      refine reg_move (i := 8) rfl (by kernel_rfl) (by kernel_rfl) (by kernel_rfl) (fun _ _ _ _ h => h) rfl (.pointer (some ⟨b9, o9 + 0, none⟩)) (fun _ => rfl) hS.out ?_
      simp only [Act.put, List.getElem_toArray, List.getElem_cons_succ, List.getElem_cons_zero, List.setIfInBounds_toArray, List.set_cons_zero, List.set_cons_succ]
      refine reg_load1 (i := 9) rfl (by kernel_rfl) (by kernel_rfl) (by kernel_rfl) (fun _ _ _ _ h => h) rfl 3 _ rfl ⟨b9, o9 + 0, none⟩ rfl _ Try.underlying3 rfl (.int .i64 g0) (fun w' z => (hRd.out w' z).2) hS.out ?_
      simp only [Act.put, List.getElem_toArray, List.getElem_cons_succ, List.getElem_cons_zero, List.setIfInBounds_toArray, List.set_cons_zero, List.set_cons_succ]
      refine reg_move (i := 10) rfl (by kernel_rfl) (by kernel_rfl) (by kernel_rfl) (fun _ _ _ _ h => h) rfl (.bool (y.go == g0)) (fun _ => rfl) hS.out ?_
      simp only [Act.put, List.getElem_toArray, List.getElem_cons_succ, List.getElem_cons_zero, List.setIfInBounds_toArray, List.set_cons_zero, List.set_cons_succ]
      refine reg_move (i := 11) rfl (by kernel_rfl) (by kernel_rfl) (by kernel_rfl) (fun _ _ _ _ h => h) rfl (.bool (y.go == g0)) (fun _ => rfl) hS.out ?_
      simp only [Act.put, List.getElem_toArray, List.getElem_cons_succ, List.getElem_cons_zero, List.setIfInBounds_toArray, List.set_cons_zero, List.set_cons_succ]
      refine wpAnyH_done (by kernel_rfl) (NoPanic.normal ?_) _
      have hst2 : Hid (EvO w X1.drew C a c ∧ X1.drew.heap[B]? = some (.cells y.cells.toArray 55)) := ⟨hst1.out.1.later hS.out, blk_onG hst1.out.2.1 hS.out⟩
      generalize X1.drew = X2 at *
      clear hS hRd hst1 x9 hd
      cases e : (y.go == g0) with
      | false =>
        have hne : ¬ y.go = g0 := beq_eq_false_iff_ne.mp e
        have hC2 : Hid ((l.take (j + 1)).filter (fun x => x.go == g0) = C) := by (show _ = _; rw [hstp.out, if_neg hne, List.append_nil])
        clear hne e
        go_wp2
        go_roundw
        case rel => exact ⟨j + 1, a, C, c, by omega, by go_num, rfl, hst2.out.1, hC2.out.symm⟩
        case measure => simp [intOf]; omega
      | true =>
        have hC2 : Hid ((l.take (j + 1)).filter (fun x => x.go == g0) = C ++ [y]) := by (show _ = _; rw [hstp.out, if_pos (beq_iff_eq.mp e)])
        have ro : Hid (X2.rangeAt B 0 y.cells) := rng_blkG hst2.out.2
        clear e
        go_wp2_with (first
          | ((with_reducible refine at_loadG 55 (.tmp 5) rfl ?_); refine stopG_out ?_; refine wpList_load_mid rfl 55 _ rfl B 0 rfl y.cells _ ro.out huE.out rfl hiE6.out ?_)
          | (refine wpList_buildSlice rfl 22 55 1 _ rfl y.cells.toArray iE _ Try.underlying22 hiH.out.1 hiH.out.2.1 (by rw [hiH.out.2.2.1]; omega) (by rw [hiH.out.2.2.1]; omega) (by simp only [hiH.out.2.2.1]; kernel_rfl) ?_)
          | (at_builtin; (refine wpList_app1 rfl (.tmp 26) (.tmp 28) 22 rfl w.heap.size 55 iE _ 26 208 Try.underlying22 hiH.out.1 hiH.out.2.1 hiH.out.2.2.1 hiH.out.2.2.2 rfl (by decide) a c (C.map Ev.cells) (by rw [List.length_map]; rfl) hst2.out.1.o y.cells rfl rfl ((evs_rowsG [y]).2 _ (by simp)) (by rw [List.length_map]; have h1 := hCl.out; have h2 := hsz.out.1; omega) (by rw [List.length_map]; have h1 := hCl.out; have h2 := hsz.out.2; omega) hst2.out.1.b.size ?_); intro va vc Z3 hgr; rw [List.length_map]))
        have hF : Hid (EvO w Z3 (C ++ [y]) va vc) := hst2.out.1.grow hgr
        clear hgr
        go_roundw
        case rel => exact ⟨j + 1, va, C ++ [y], vc, by omega, by go_num, by rw [List.length_append, List.length_singleton], hF.out, hC2.out.symm⟩
        case measure => simp [intOf]; omega
    · have hje : j = l.length := by omega
      have hjI : ¬ (j : Int) < l.length := by omega
      have hgo : ∀ x ∈ C, x.go = g0 := fun x hx => by
        rw [hC.out] at hx
        exact beq_iff_eq.mp (List.mem_filter.mp hx).2
      obtain ⟨d, hd⟩ := check_ex C
      have c1 : Calls Try.prog 16 #[.slice a C.length c] wr _ := gRings_any hq.out.rows d hd
      have c2 : ∀ wx, Below wr.heap.size wr wx → Calls Try.prog 21 #[.slice a C.length c] wx _ := fun wx q => rcheck_any C a c wx (hq.out.rows.later q) d hd
      rw [alone_nil hgo d] at c1
      have edd : (d == d) = true := by simp
      clear hgo hd hC
      go_wp2_with (first
        | (go_at_call 16; (with_reducible refine c1.mono ?_); rintro e w1 ⟨pa, pc, P, rfl, hm, hM⟩; (have hP : P = [] := List.map_eq_nil_iff.mp hm); subst hP; (have k1 : Hid (Below wr.heap.size wr w1) := hM.b); clear hm hM c1; (try simp only [List.length_nil]))
        | (go_at_call 21; (with_reducible refine (c2 _ k1.out).mono ?_); rintro e w2 ⟨rfl, hb⟩; (have k2 : Hid (Below w.heap.size w w2) := bthen hq.out.b (bthen k1.out hb)); clear hb c2)
        | (go_at_call 15; (with_reducible refine (cS _).mono ?_); rintro e wA ⟨rfl, hb⟩; (have kA : Hid (Below w.heap.size w wA) := bthen k2.out hb); clear hb cS))
      go_ret
      exact ⟨rfl, kA.out⟩
end Go.Proofs.Ytdfnmlcpimiboaa.pg
