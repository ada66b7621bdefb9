/- slices.Compact of what is found: the walk. -/
import Derived.Test.YtafefnkgdnmjbaaGreatDoorM35
import Derived.Test.YtafefnkgdnmjbaaGreatDoorM33
namespace Go.Proofs.YtafefnkgdnmjbaaGreatDoor.pg
open Go.ChangeShapes Go.WideShapes Go.ChangeAt Go.RowKit Go.Shelf
set_option linter.unusedVariables false
set_option linter.unusedSimpArgs false
set_option maxRecDepth 100000
attribute [local go_sem ↓] Go.wp_at_zero Go.wp_at_succ
theorem eqR_fd {x y : Fd} (hx : x.wf) (hy : y.wf) (R : Bool) (hR : R = true ↔ x = y) (p q : Operand) (wx : World) : ((do
    eqGuard .eql 84 p q (.agg x.cells.toArray) (.agg y.cells.toArray)
    binOp .eql 84 (.agg x.cells.toArray) (.agg y.cells.toArray)) : Sem Value).run Tryz.prog wx = .ok (.bool R) wx := by
  have hm : Tryz.prog.eqGuardType Tryz.prog.depth 84 = false := by kernel_rfl
  simp only [Sem.run_bind, run_eqGuard_agg (P := Tryz.prog) wx .eql 84 p q _ _ hm, Result.andThen_ok]
  exact eq_fd hx hy R hR wx
theorem neR_fd {x y : Fd} (hx : x.wf) (hy : y.wf) (R : Bool) (hR : R = true ↔ ¬ x = y) (p q : Operand) (wx : World) : ((do
    eqGuard .neq 84 p q (.agg x.cells.toArray) (.agg y.cells.toArray)
    binOp .neq 84 (.agg x.cells.toArray) (.agg y.cells.toArray)) : Sem Value).run Tryz.prog wx = .ok (.bool R) wx := by
  have hm : Tryz.prog.eqGuardType Tryz.prog.depth 84 = false := by kernel_rfl
  simp only [Sem.run_bind, run_eqGuard_agg (P := Tryz.prog) wx .neq 84 p q _ _ hm, Result.andThen_ok]
  exact ne_fd hx hy R hR wx
theorem subR (k j : Nat) (h : k = j + 1) (hk : k ≤ 1000000) (p q : Operand) (wx : World) : ((do
    eqGuard .sub 3 p q (.int .i64 (k : Int)) (.int .i64 1)
    binOp .sub 3 (.int .i64 (k : Int)) (.int .i64 1)) : Sem Value).run Tryz.prog wx = .ok (.int .i64 (j : Int)) wx := by
  have u := Tryz.underlying3
  simp [eqGuard, binOp, go_sem, u]
  rw [IntKind.wrap_i64]
  omega
theorem short_cpt : ∀ (E : List Fd), E.length < 2 → cpt E = E
  | [], _ => rfl
  | [x], _ => rfl
  | _ :: _ :: _, h => by simp at h; omega
/-- How the second loop stands. -/
structure Cm2 (w W : World) (lo g cap : Nat) (E u : List Fd) (kk r : Nat) : Prop where
  f : FuS w W lo g cap u
  len : u.length = E.length
  t : u.take kk = cpt (E.take r)
  k : kk < r
  kl : (cpt (E.take r)).length = kk
  s : ∀ i, r ≤ i + 1 → u[i]? = E[i]?
theorem Cm2.drew {w W : World} {lo g cap : Nat} {E u : List Fd} {kk r : Nat} (h : Cm2 w W lo g cap E u kk r) : Cm2 w W.drew lo g cap E u kk r := ⟨h.f.drew, h.len, h.t, h.k, h.kl, h.s⟩
theorem Cm2.skip {w W : World} {lo g cap : Nat} {E u : List Fd} {kk j : Nat} {x y : Fd} (h : Cm2 w W lo g cap E u kk (j + 1)) (hx : E[j]? = some x) (hy : E[j + 1]? = some y) (he : y = x) : Cm2 w W lo g cap E u kk (j + 2) := by
  have := cpt_more hx hy
  rw [if_pos he, List.append_nil] at this
  exact ⟨h.f, h.len, by rw [this]; exact h.t, by have := h.k; omega, by rw [this]; exact h.kl, fun i hi => h.s i (by omega)⟩
theorem Cm2.put {w W : World} {lo g cap : Nat} {E u : List Fd} {kk j : Nat} {x y : Fd} (h : Cm2 w W lo g cap E u kk (j + 1)) (hx : E[j]? = some x) (hy : E[j + 1]? = some y) (he : ¬ y = x) : Cm2 w (W.setCells g (kk * 7) y.cells) lo g cap E (u.set kk y) (kk + 1) (j + 2) := by
  have hjl := (List.getElem?_eq_some_iff.mp hy).1
  have hk := h.k
  have hln := h.len
  have := cpt_more hx hy
  rw [if_neg he] at this
  have hkl : kk < u.length := by omega
  refine ⟨h.f.put hkl y, by rw [List.length_set]; exact hln, ?_, by omega, by rw [this, List.length_append, h.kl]; rfl, fun i hi => ?_⟩
  · rw [this, ← h.t, List.take_add_one, List.getElem?_set, if_pos rfl, if_pos hkl, List.take_set_of_le (Nat.le_refl _)]
    rfl
  · rw [List.getElem?_set, if_neg (by omega)]
    exact h.s i (by omega)
set_option maxHeartbeats 4000000 in
theorem compact_any (E : List Fd) (g cap lo : Nat) (w : World) (hE : FuS w w lo g cap E) (hwf : ∀ x ∈ E, x.wf) (hn : E.length ≤ 1000000) :
    Calls Tryz.prog 54 #[.slice (some ⟨g, 0, none⟩) E.length cap] w fun e w' => e = .returned (.slice (some ⟨g, 0, none⟩) (cpt E).length cap) ∧ FuS w w' lo g cap (cpt E) := by
  have hcap : E.length ≤ cap := by have := hE.r.1; rwa [List.length_map] at this
  by_cases h2 : E.length < 2
  · have h2I : (E.length : Int) < 2 := by omega
    have hH : Hid (cpt E = E ∧ FuS w w lo g cap E) := ⟨short_cpt E h2, hE⟩
    clear hE h2 hwf
    go_enter Tryz.func54, Tryz.ntmps54
    go_wp2
    go_ret
    exact ⟨by rw [hH.out.1]; rfl, by rw [hH.out.1]; exact hH.out.2⟩
  · have h2I : ¬ (E.length : Int) < 2 := by omega
    obtain ⟨n, hnE⟩ : ∃ n, E.length = n := ⟨_, rfl⟩
    have hnH : Hid (E.length = n ∧ n ≤ cap ∧ n ≤ 1000000) := ⟨hnE, by omega, by omega⟩
    rw [hnE] at h2I ⊢
    have hn0 : 2 ≤ n := by omega
    have hnI : (n : Int) ≤ 1000000 := by omega
    have h0 : Hid (FuS w w lo g cap E ∧ cpt (E.take 1) = E.take 1) := ⟨hE, cpt_one (List.getElem?_eq_getElem (by omega))⟩
    have hwH : Hid (∀ x ∈ E, x.wf) := hwf
    have huF : Hid (Tryz.prog.underlying 84 = _) := Tryz.underlying84
    clear hE hwf hn hcap hnE h2
    go_enter Tryz.func54, Tryz.ntmps54
    go_wp2
    go_loopw [3] (fun u wr => ∃ k : Nat, 1 ≤ k ∧ k ≤ n ∧ u = .int .i64 (k : Int) ∧ Hid (FuS w wr lo g cap E ∧ cpt (E.take k) = E.take k)) (fun u _ => n - (intOf u).toNat)
    case atStart => exact ⟨1, Nat.le_refl _, by omega, rfl, h0⟩
    case round =>
      clear h0
      obtain ⟨k, hk1, hk, rfl, hs⟩ := hrel
      by_cases hlt : k < n
      · have hkI : (k : Int) < n := by omega
        obtain ⟨j, hj⟩ : ∃ j, k = j + 1 := ⟨k - 1, by omega⟩
        have hkw : wrap64 ((k : Int) + 1) = (k : Int) + 1 := by unfold wrap64; omega
        obtain ⟨x, hx⟩ : ∃ x, E[j]? = some x := ⟨_, List.getElem?_eq_getElem (by have := hnH.out; omega)⟩
        obtain ⟨y, hy⟩ : ∃ y, E[k]? = some y := ⟨_, List.getElem?_eq_getElem (by have := hnH.out; omega)⟩
        have hxw := hwH.out x (List.mem_of_getElem? hx)
        have hyw := hwH.out y (List.mem_of_getElem? hy)
        have iK := ix_off g 0 n cap k hlt
        have iJ := ix_off g 0 n cap j (by omega)
        rw [Nat.zero_add] at iK iJ
        have hS : Hid (wr.drew.rangeAt g (k * 7) y.cells ∧ wr.drew.rangeAt g (j * 7) x.cells) := ⟨hs.out.1.drew.range hy, hs.out.1.drew.range hx⟩
        have hsb := fun p q wx => subR k j hj (by have := hnH.out; omega) p q wx
        have hjH : Hid (k = j + 1 ∧ E[j]? = some x ∧ E[k]? = some y) := ⟨hj, hx, hy⟩
        have hsH : Hid (FuS w wr.drew lo g cap E ∧ cpt (E.take k) = E.take k) := ⟨hs.out.1.drew, hs.out.2⟩
        clear hj hx hy hs
        go_wp2_with fail
        refine wp_region_noPanic ?_
        refine wp_region_held_drew (S := fun w' => w'.rangeAt g (k * 7) y.cells ∧ w'.rangeAt g (j * 7) x.cells) (by kernel_rfl) hS.out (fun _ => ?_)
        refine reg_move (i := 0) rfl (by kernel_rfl) (by kernel_rfl) (by kernel_rfl) (fun _ _ _ _ h => h) rfl (.slice (some ⟨g, 0, none⟩) n cap) (fun _ => rfl) hS.out ?_
        simp only [Act.put, List.getElem_toArray, List.getElem_cons_succ, List.getElem_cons_zero, List.setIfInBounds_toArray, List.set_cons_zero, List.set_cons_succ]
        refine reg_move (i := 1) rfl (by kernel_rfl) (by kernel_rfl) (by kernel_rfl) (fun _ _ _ _ h => h) rfl (.int .i64 (k : Int)) (fun _ => rfl) hS.out ?_
        simp only [Act.put, List.getElem_toArray, List.getElem_cons_succ, List.getElem_cons_zero, List.setIfInBounds_toArray, List.set_cons_zero, List.set_cons_succ]
        refine reg_move (i := 2) rfl (by kernel_rfl) (by kernel_rfl) (by kernel_rfl) (fun _ _ _ _ h => h) rfl (.pointer (some ⟨g, k * 7, none⟩)) (fun wx => by unfold execOp; exact run_value_of (iK wx)) hS.out ?_
        simp only [Act.put, List.getElem_toArray, List.getElem_cons_succ, List.getElem_cons_zero, List.setIfInBounds_toArray, List.set_cons_zero, List.set_cons_succ]
        refine reg_load (i := 3) rfl (by kernel_rfl) (by kernel_rfl) (by kernel_rfl) (fun _ _ _ _ h => h) rfl 84 _ rfl g (k * 7) rfl y.cells _ (fun w' h' => h'.1) Tryz.underlying84 rfl infoFd hS.out ?_
        simp only [Act.put, List.getElem_toArray, List.getElem_cons_succ, List.getElem_cons_zero, List.setIfInBounds_toArray, List.set_cons_zero, List.set_cons_succ]
        refine reg_move (i := 4) rfl (by kernel_rfl) (by kernel_rfl) (by kernel_rfl) (fun _ _ _ _ h => h) rfl (.slice (some ⟨g, 0, none⟩) n cap) (fun _ => rfl) hS.out ?_
        simp only [Act.put, List.getElem_toArray, List.getElem_cons_succ, List.getElem_cons_zero, List.setIfInBounds_toArray, List.set_cons_zero, List.set_cons_succ]
        refine reg_move (i := 5) rfl (by kernel_rfl) (by kernel_rfl) (by kernel_rfl) (fun _ _ _ _ h => h) rfl (.int .i64 (k : Int)) (fun _ => rfl) hS.out ?_
        simp only [Act.put, List.getElem_toArray, List.getElem_cons_succ, List.getElem_cons_zero, List.setIfInBounds_toArray, List.set_cons_zero, List.set_cons_succ]
        refine reg_move (i := 6) rfl (by kernel_rfl) (by kernel_rfl) (by kernel_rfl) (fun _ _ _ _ h => h) rfl (.int .i64 (j : Int)) (fun wx => by unfold execOp; exact run_value_of (hsb _ _ wx)) hS.out ?_
        simp only [Act.put, List.getElem_toArray, List.getElem_cons_succ, List.getElem_cons_zero, List.setIfInBounds_toArray, List.set_cons_zero, List.set_cons_succ]
        refine reg_move (i := 7) rfl (by kernel_rfl) (by kernel_rfl) (by kernel_rfl) (fun _ _ _ _ h => h) rfl (.pointer (some ⟨g, j * 7, none⟩)) (fun wx => by unfold execOp; exact run_value_of (iJ wx)) hS.out ?_
        simp only [Act.put, List.getElem_toArray, List.getElem_cons_succ, List.getElem_cons_zero, List.setIfInBounds_toArray, List.set_cons_zero, List.set_cons_succ]
        refine reg_load (i := 8) rfl (by kernel_rfl) (by kernel_rfl) (by kernel_rfl) (fun _ _ _ _ h => h) rfl 84 _ rfl g (j * 7) rfl x.cells _ (fun w' h' => h'.2) Tryz.underlying84 rfl infoFd hS.out ?_
        simp only [Act.put, List.getElem_toArray, List.getElem_cons_succ, List.getElem_cons_zero, List.setIfInBounds_toArray, List.set_cons_zero, List.set_cons_succ]
        by_cases hyx : y = x
        · have hev := fun p q wx => eqR_fd hyw hxw true (by simp [hyx]) p q wx
          refine reg_move (i := 9) rfl (by kernel_rfl) (by kernel_rfl) (by kernel_rfl) (fun _ _ _ _ h => h) rfl (.bool true) (fun wx => by unfold execOp; exact run_value_of (hev _ _ wx)) hS.out ?_
          simp only [Act.put, List.getElem_toArray, List.getElem_cons_succ, List.getElem_cons_zero, List.setIfInBounds_toArray, List.set_cons_zero, List.set_cons_succ]
          refine wpAnyH_done (by kernel_rfl) (NoPanic.normal ?_) _
          have sK := sub_from g n cap k hlt hnH.out.2.1
          have h1 : Hid (Cm2 w wr.drew lo g cap E E k (k + 1)) := by
            obtain ⟨q1, q2, q3⟩ := hjH.out
            have e1 : cpt (E.take (k + 1)) = E.take k := by
              have := cpt_more q2 (by rw [← q1]; exact q3)
              rw [if_pos hyx, List.append_nil, ← q1] at this
              rw [show k + 1 = j + 2 by omega, this]
              exact hsH.out.2
            exact ⟨hsH.out.1, rfl, e1.symm, by omega, by rw [e1, List.length_take]; have := hnH.out; omega, fun i _ => rfl⟩
          obtain ⟨s, hs⟩ : ∃ s, s = n - k := ⟨_, rfl⟩
          have hsn : Hid (s = n - k) := hs
          have hsI : (s : Int) ≤ 1000000 := by have := hnH.out; omega
          rw [← hs] at sK
          generalize cap - k = cap2 at sK
          clear hS hsH hev hsb iK iJ hs hyw hxw hyx hkw
          generalize wr.drew = W1 at *
          go_wp2
          clear sK
          go_loopw [3, 5] (fun a u wq => ∃ kk m : Nat, ∃ uu, 1 ≤ m ∧ m ≤ s ∧ a = .int .i64 (kk : Int) ∧ u = .int .i64 (m : Int) ∧ Hid (Cm2 w wq lo g cap E uu kk (k + m))) (fun _ u _ => s - (intOf u).toNat)
          case atStart => exact ⟨k, 1, E, Nat.le_refl _, by have := hsn.out; omega, rfl, rfl, h1⟩
          case round =>
            clear h1
            obtain ⟨kk, m, uu, hm1, hm, rfl, rfl, hq⟩ := hrel
            by_cases hms : m < s
            · have hmI : (m : Int) < s := by omega
              obtain ⟨i, hi⟩ : ∃ i, m = i + 1 := ⟨m - 1, by omega⟩
              obtain ⟨xx, hxx⟩ : ∃ xx, E[k + i]? = some xx := ⟨_, List.getElem?_eq_getElem (by have := hnH.out; have := hsn.out; omega)⟩
              obtain ⟨yy, hyy⟩ : ∃ yy, E[k + m]? = some yy := ⟨_, List.getElem?_eq_getElem (by have := hnH.out; have := hsn.out; omega)⟩
              have hxw := hwH.out xx (List.mem_of_getElem? hxx)
              have hyw := hwH.out yy (List.mem_of_getElem? hyy)
              have iM := ix_off g (k * 7) s cap2 m hms
              have iI := ix_off g (k * 7) s cap2 i (by omega)
              have ux : uu[k + i]? = some xx := by rw [hq.out.s (k + i) (by omega)]; exact hxx
              have uy : uu[k + m]? = some yy := by rw [hq.out.s (k + m) (by omega)]; exact hyy
              have rx : ∀ {V : World}, FuS w V lo g cap uu → V.rangeAt g (k * 7 + m * 7) yy.cells ∧ V.rangeAt g (k * 7 + i * 7) xx.cells := fun {V} hV => ⟨by rw [← Nat.add_mul]; exact hV.range uy, by rw [← Nat.add_mul]; exact hV.range ux⟩
              have hS : Hid (wr.drew.rangeAt g (k * 7 + m * 7) yy.cells ∧ wr.drew.rangeAt g (k * 7 + i * 7) xx.cells) := rx hq.out.f.drew
              have hsb := fun p q wx => subR m i hi (by have := hnH.out; have := hsn.out; omega) p q wx
              have hmw : wrap64 ((m : Int) + 1) = (m : Int) + 1 := by unfold wrap64; omega
              have hkb : kk < k + m := hq.out.k
              have hkw : wrap64 ((kk : Int) + 1) = (kk : Int) + 1 := by unfold wrap64; have := hnH.out; have := hsn.out; omega
              have hq2 : Hid (Cm2 w wr.drew lo g cap E uu kk (k + i + 1)) := by have := hq.out.drew; rw [hi] at this; exact this
              have hff : Hid (E[k + i]? = some xx ∧ E[k + i + 1]? = some yy ∧ k + m + 1 = k + i + 2 ∧ kk < n) := ⟨hxx, by rw [show k + i + 1 = k + m by omega]; exact hyy, by omega, by have := hsn.out; omega⟩
              clear hq hi hxx hyy ux uy rx
              go_wp2_with fail
              refine wp_region_noPanic ?_
              refine wp_region_held_drew (S := fun w' => w'.rangeAt g (k * 7 + m * 7) yy.cells ∧ w'.rangeAt g (k * 7 + i * 7) xx.cells) (by kernel_rfl) hS.out (fun _ => ?_)
              refine reg_move (i := 0) rfl (by kernel_rfl) (by kernel_rfl) (by kernel_rfl) (fun _ _ _ _ h => h) rfl (.slice (some ⟨g, k * 7, none⟩) s cap2) (fun _ => rfl) hS.out ?_
              simp only [Act.put, List.getElem_toArray, List.getElem_cons_succ, List.getElem_cons_zero, List.setIfInBounds_toArray, List.set_cons_zero, List.set_cons_succ]
              refine reg_move (i := 1) rfl (by kernel_rfl) (by kernel_rfl) (by kernel_rfl) (fun _ _ _ _ h => h) rfl (.int .i64 (m : Int)) (fun _ => rfl) hS.out ?_
              simp only [Act.put, List.getElem_toArray, List.getElem_cons_succ, List.getElem_cons_zero, List.setIfInBounds_toArray, List.set_cons_zero, List.set_cons_succ]
              refine reg_move (i := 2) rfl (by kernel_rfl) (by kernel_rfl) (by kernel_rfl) (fun _ _ _ _ h => h) rfl (.pointer (some ⟨g, k * 7 + m * 7, none⟩)) (fun wx => by unfold execOp; exact run_value_of (iM wx)) hS.out ?_
              simp only [Act.put, List.getElem_toArray, List.getElem_cons_succ, List.getElem_cons_zero, List.setIfInBounds_toArray, List.set_cons_zero, List.set_cons_succ]
              refine reg_load (i := 3) rfl (by kernel_rfl) (by kernel_rfl) (by kernel_rfl) (fun _ _ _ _ h => h) rfl 84 _ rfl g (k * 7 + m * 7) rfl yy.cells _ (fun w' h' => h'.1) Tryz.underlying84 rfl infoFd hS.out ?_
              simp only [Act.put, List.getElem_toArray, List.getElem_cons_succ, List.getElem_cons_zero, List.setIfInBounds_toArray, List.set_cons_zero, List.set_cons_succ]
              refine reg_move (i := 4) rfl (by kernel_rfl) (by kernel_rfl) (by kernel_rfl) (fun _ _ _ _ h => h) rfl (.slice (some ⟨g, k * 7, none⟩) s cap2) (fun _ => rfl) hS.out ?_
              simp only [Act.put, List.getElem_toArray, List.getElem_cons_succ, List.getElem_cons_zero, List.setIfInBounds_toArray, List.set_cons_zero, List.set_cons_succ]
              refine reg_move (i := 5) rfl (by kernel_rfl) (by kernel_rfl) (by kernel_rfl) (fun _ _ _ _ h => h) rfl (.int .i64 (m : Int)) (fun _ => rfl) hS.out ?_
              simp only [Act.put, List.getElem_toArray, List.getElem_cons_succ, List.getElem_cons_zero, List.setIfInBounds_toArray, List.set_cons_zero, List.set_cons_succ]
              refine reg_move (i := 6) rfl (by kernel_rfl) (by kernel_rfl) (by kernel_rfl) (fun _ _ _ _ h => h) rfl (.int .i64 (i : Int)) (fun wx => by unfold execOp; exact run_value_of (hsb _ _ wx)) hS.out ?_
              simp only [Act.put, List.getElem_toArray, List.getElem_cons_succ, List.getElem_cons_zero, List.setIfInBounds_toArray, List.set_cons_zero, List.set_cons_succ]
              refine reg_move (i := 7) rfl (by kernel_rfl) (by kernel_rfl) (by kernel_rfl) (fun _ _ _ _ h => h) rfl (.pointer (some ⟨g, k * 7 + i * 7, none⟩)) (fun wx => by unfold execOp; exact run_value_of (iI wx)) hS.out ?_
              simp only [Act.put, List.getElem_toArray, List.getElem_cons_succ, List.getElem_cons_zero, List.setIfInBounds_toArray, List.set_cons_zero, List.set_cons_succ]
              refine reg_load (i := 8) rfl (by kernel_rfl) (by kernel_rfl) (by kernel_rfl) (fun _ _ _ _ h => h) rfl 84 _ rfl g (k * 7 + i * 7) rfl xx.cells _ (fun w' h' => h'.2) Tryz.underlying84 rfl infoFd hS.out ?_
              simp only [Act.put, List.getElem_toArray, List.getElem_cons_succ, List.getElem_cons_zero, List.setIfInBounds_toArray, List.set_cons_zero, List.set_cons_succ]
              by_cases hyx : yy = xx
              · have hev := fun p q wx => neR_fd hyw hxw false (by simp [hyx]) p q wx
                refine reg_move (i := 9) rfl (by kernel_rfl) (by kernel_rfl) (by kernel_rfl) (fun _ _ _ _ h => h) rfl (.bool false) (fun wx => by unfold execOp; exact run_value_of (hev _ _ wx)) hS.out ?_
                simp only [Act.put, List.getElem_toArray, List.getElem_cons_succ, List.getElem_cons_zero, List.setIfInBounds_toArray, List.set_cons_zero, List.set_cons_succ]
                refine wpAnyH_done (by kernel_rfl) (NoPanic.normal ?_) _
                have hq3 : Hid (Cm2 w wr.drew lo g cap E uu kk (k + (m + 1))) := by rw [← Nat.add_assoc, hff.out.2.2.1]; exact hq2.out.skip hff.out.1 hff.out.2.1 hyx
                clear hS hq2 hev hsb hyx hxw hyw iM iI
                generalize wr.drew = W2 at *
                go_wp2
                go_roundw
                case rel => exact ⟨kk, m + 1, uu, by omega, by omega, by first | rfl | go_num, by go_num, hq3⟩
                case measure => simp [intOf]; omega
              · have hev := fun p q wx => neR_fd hyw hxw true (by simp [hyx]) p q wx
                refine reg_move (i := 9) rfl (by kernel_rfl) (by kernel_rfl) (by kernel_rfl) (fun _ _ _ _ h => h) rfl (.bool true) (fun wx => by unfold execOp; exact run_value_of (hev _ _ wx)) hS.out ?_
                simp only [Act.put, List.getElem_toArray, List.getElem_cons_succ, List.getElem_cons_zero, List.setIfInBounds_toArray, List.set_cons_zero, List.set_cons_succ]
                refine wpAnyH_done (by kernel_rfl) (NoPanic.normal ?_) _
                have hq3 : Hid (Cm2 w (wr.drew.setCells g (kk * 7) yy.cells) lo g cap E (uu.set kk yy) (kk + 1) (k + (m + 1))) := by rw [← Nat.add_assoc, hff.out.2.2.1]; exact hq2.out.put hff.out.1 hff.out.2.1 hyx
                have hth : Hid (wr.drew.there g (kk * 7) yy.cells.toArray.size) := hq2.out.f.there (by have := hq2.out.len; have := hff.out; have := hnH.out; omega)
                have iKK := ix_off g 0 n cap kk hff.out.2.2.2
                rw [Nat.zero_add] at iKK
                have hry : Hid (wr.drew.rangeAt g (k * 7 + m * 7) yy.cells) := hS.out.1
                have hone : Hid (yy.cells.toArray.all (·.oneCell') = true) := by show _ = _; simp [Fd.cells, Value.oneCell']
                have hinf : Hid ((Tryz.prog.info? 84).map (·.size) = some yy.cells.length ∧ (Tryz.prog.info? 84).map (·.size) = some yy.cells.toArray.size) := ⟨infoFd, infoFd⟩
                obtain ⟨cs, hcs⟩ : ∃ cs, yy.cells = cs := ⟨_, rfl⟩
                rw [hcs] at hone hinf hry hth hq3
                clear hcs
                clear hS hq2 hev hsb hyx hxw hyw iI
                generalize wr.drew = W2 at *
                go_wp2_with (first
                  | (refine wpList_load_mid rfl 84 _ rfl g (k * 7 + m * 7) rfl cs _ hry.out huF.out rfl hinf.out.1 ?_)
                  | (refine wpList_store_mid rfl 84 _ _ rfl g (kk * 7) cs.toArray rfl rfl hth.out hinf.out.2 hone.out ?_))
                go_roundw
                case rel => exact ⟨kk + 1, m + 1, _, by omega, by omega, by go_num, by go_num, hq3⟩
                case measure => simp [intOf]; omega
            · have hme : m = s := by omega
              have hkn : kk < n := by have := hq.out.k; have := hsn.out; omega
              have hall : E.take (k + m) = E := List.take_of_length_le (by have := hnH.out; have := hsn.out; omega)
              have hkl := hq.out.kl
              rw [hall] at hkl
              have hu : uu.take kk = cpt E := by have := hq.out.t; rw [hall] at this; exact this
              have sKK := sub_from g n cap kk hkn hnH.out.2.1
              have sT := sub_to g n cap kk (by omega) hnH.out.2.1
              have hth : Hid (wr.there g (kk * 7) ((n - kk) * 7)) := by
                intro q hq'
                have hd : kk + q / 7 < uu.length := by have := hq.out.len; have := hnH.out; omega
                have := hq.out.f.there hd (q % 7) (by omega)
                rw [show kk * 7 + q = (kk + q / 7) * 7 + q % 7 by omega]
                exact this
              have hfin : Hid (∀ vs, FuS w (wr.setCells g (kk * 7) vs) lo g cap (cpt E)) := fun vs => by
                rw [← hu]
                exact hq.out.f.cut (by have := hq.out.len; have := hnH.out; omega) vs
              have hkH : Hid ((cpt E).length = kk) := hkl
              have hnk : Hid (0 < n - kk) := by show _ < _; omega
              subst hme
              clear hq hkl hu hall
              go_wp2_with (refine wpList_clr rfl _ rfl g (kk * 7) (n - kk) (cap - kk) hnk.out rfl hth.out fun vs => ?_; (have hf2 : Hid _ := hfin.out vs); generalize wr.setCells g (kk * 7) vs = W9 at *)
              go_ret
              exact ⟨by rw [hkH.out]; rfl, hf2.out⟩
        · have hev := fun p q wx => eqR_fd hyw hxw false (by simp [hyx]) p q wx
          refine reg_move (i := 9) rfl (by kernel_rfl) (by kernel_rfl) (by kernel_rfl) (fun _ _ _ _ h => h) rfl (.bool false) (fun wx => by unfold execOp; exact run_value_of (hev _ _ wx)) hS.out ?_
          simp only [Act.put, List.getElem_toArray, List.getElem_cons_succ, List.getElem_cons_zero, List.setIfInBounds_toArray, List.set_cons_zero, List.set_cons_succ]
          refine wpAnyH_done (by kernel_rfl) (NoPanic.normal ?_) _
          have hs3 : Hid (FuS w wr.drew lo g cap E ∧ cpt (E.take (k + 1)) = E.take (k + 1)) := by
            obtain ⟨q1, q2, q3⟩ := hjH.out
            refine ⟨hsH.out.1, ?_⟩
            have := cpt_more q2 (by rw [← q1]; exact q3)
            rw [if_neg hyx, ← q1, hsH.out.2] at this
            rw [show k + 1 = j + 2 by omega, this, show j + 2 = k + 1 by omega, take_snoc q3]
          clear hS hsH hev hsb iK iJ hyw hxw hyx
          generalize wr.drew = W1 at *
          go_wp2
          go_roundw
          case rel => exact ⟨k + 1, by omega, by omega, by go_num, hs3⟩
          case measure => simp [intOf]; omega
      · have hkn : k = n := by omega
        have hfin : Hid (cpt E = E ∧ FuS w wr lo g cap E) := by
          have := hs.out.2
          rw [List.take_of_length_le (by have := hnH.out; omega)] at this
          exact ⟨this, hs.out.1⟩
        subst hkn
        clear hs
        go_wp2
        go_ret
        exact ⟨by rw [hfin.out.1, hnH.out.1]; rfl, by rw [hfin.out.1]; exact hfin.out.2⟩
end Go.Proofs.YtafefnkgdnmjbaaGreatDoor.pg
/- What every statement of layer 14 asks first, as soon as package race's Races is known at the example. -/
namespace Go.Proofs.YtafefnkgdnmjbaaGreatDoor.pg
open Go.ChangeShapes Go.WideShapes Go.ChangeAt Go.RowKit Go.Shelf
set_option linter.unusedVariables false
set_option linter.unusedSimpArgs false
set_option maxRecDepth 100000
attribute [local go_sem ↓] Go.wp_at_zero Go.wp_at_succ
/-- The race that the example has. -/
def fdX : Fd := ⟨5, 0, 0, 0, 0, 0, 0⟩
theorem fdX_wf : fdX.wf := by unfold Fd.wf fdX I64; decide
/-- What package race's Races tells of the example. -/
def RacesX : Prop := ∀ (wx : World) (B : Nat) (ta : Option Addr) (tc : Nat), (leM B).lies wx → prog.Forms wx → Rows wx 26 ta tc (exR.map Ev.cells) → Calls Tryz.prog 15 #[(leM B).val, .slice ta 3 tc] wx fun e w' => ∃ ra rc, e = .returned (.tuple #[.slice ra 1 rc, .int .i64 0]) ∧ Rows w' 7 ra rc ([fdX].map Fd.cells) ∧ Below wx.heap.size wx w'
theorem dataX (wx : World) (B : Nat) (ta : Option Addr) (tc : Nat) (hM : (leM B).lies wx) (hF : prog.Forms wx) (ht : Rows wx 26 ta tc (exR.map Ev.cells)) : Calls Tryz.prog 14 #[(leM B).val, .slice ta 3 tc] wx fun e w' => ∃ da dc, e = .returned (.tuple #[.slice da 2 dc, .int .i64 0]) ∧ Rows w' 2 da dc ([((0 : Nat), (1 : Nat)), (1, 2)].map edg) ∧ Below wx.heap.size wx w' := by
  obtain ⟨T, hT⟩ := tells_some (dpf exR)
  have := data_ok (leM B) exR ta tc wx hM hF 0 0 (by rw [leM_pr]; exact chk_leP) ht (by decide) right_exR T hT
  rw [data_exR hT] at this
  exact this
theorem conflX (wx : World) (B : Nat) (ta : Option Addr) (tc : Nat) (hM : (leM B).lies wx) (hF : prog.Forms wx) (ht : Rows wx 26 ta tc (exR.map Ev.cells)) : Calls Tryz.prog 19 #[(leM B).val, .slice ta 3 tc] wx fun e w' => ∃ da dc, e = .returned (.tuple #[.slice da 3 dc, .int .i64 0]) ∧ Below wx.heap.size wx w' := by
  have := conflicts_ok (leM B) exR ta tc wx hM hF 0 0 (by rw [leM_pr]; exact chk_leP) ht (by decide) right_exR
  rw [cfl_exR] at this
  exact this.mono fun e w' ⟨da, dc, he, _, hb⟩ => ⟨da, dc, he, hb⟩
theorem eq12 : ∀ wx, (binOp .eql 71 (.agg #[.int .i64 1, .int .i64 2]) (.agg #[.int .i64 1, .int .i64 2])).run Tryz.prog wx = .ok (.bool true) wx := fun wx => by
  rw [run_eql_struct, run_inH]; rfl
theorem eqX : ∀ wx, (binOp .eql 84 (.agg #[.int .i64 5, .int .i64 0, .int .i64 0, .int .i64 0, .int .i64 0, .int .i64 0, .int .i64 0]) (.agg #[.int .i64 5, .int .i64 0, .int .i64 0, .int .i64 0, .int .i64 0, .int .i64 0, .int .i64 0])).run Tryz.prog wx = .ok (.bool true) wx := fun wx => eq_fd fdX_wf fdX_wf true (by simp) wx
/-- A thing found of a list, at its place. -/
theorem fd_at {w : World} {a : Option Addr} {cap : Nat} {L : List Fd} (h : Rows w 7 a cap (L.map Fd.cells)) {i : Nat} {x : Fd} (hi : L[i]? = some x) : ∃ b o, (∀ wx, (Instr.indexAt 38 (.slice a L.length cap) (.int .i64 (i : Int))).run Tryz.prog wx = .ok (.pointer (some ⟨b, o, none⟩)) wx) ∧ b < w.heap.size ∧ w.rangeAt b o x.cells := by
  obtain ⟨b, o, h1, h2, h3⟩ := h.ix 38 84 Tryz.underlying38 (by kernel_rfl) (fun wx => Tryz.sizeOf84 wx) i (row := x.cells) (by simp [hi])
  rw [List.length_map] at h1
  exact ⟨b, o, h1, h2, h3⟩
set_option maxHeartbeats 4000000 in
theorem speaks14_of (hX : RacesX) (w : World) (hF : prog.Forms w) : Calls Tryz.prog 11 #[] w fun e w' => e = .returned (.bool true) ∧ Below w.heap.size w w' := by
  have c0 : ∀ (g : Int) wx, Calls Tryz.prog 41 #[.int .i64 g] wx _ := fun g wx => storedR_any g wx
  have cl : ∀ wx, Calls Tryz.prog 42 #[] wx _ := fun wx => least_any wx
  obtain ⟨iE, hiE, hzE, hsE, hbE⟩ := info_q infoEv3
  have hiH : Hid (Tryz.prog.info? 69 = some iE ∧ iE.zero = some (.agg stEvZ.cells.toArray) ∧ iE.size = 26) := ⟨hiE, hzE, hsE⟩
  have q1 := eq12
  have q2 := eqX
  have huP : Hid (Tryz.prog.underlying 71 = _) := Tryz.underlying71
  have huF : Hid (Tryz.prog.underlying 84 = _) := Tryz.underlying84
  have hFH : Hid (prog.Forms w) := hF
  have hXH : Hid RacesX := hX
  clear hiE hzE hsE hbE hF hX
  go_enter Tryz.func11, Tryz.ntmps11
  go_wp2_with (first
    | (go_at_call 41; (with_reducible refine (c0 _ _).mono ?_); rintro e w1 ⟨rfl, hb1⟩; (have hB1 : Hid (Below w.heap.size w w1) := by first | exact bthen hB1.out hb1 | exact hb1); clear hb1)
    | (refine wpList_buildSlice rfl 22 69 3 _ rfl (exR.map Ev.cells).flatten.toArray iE _ Tryz.underlying22 hiH.out.1 hiH.out.2.1 (by rw [hiH.out.2.2]; omega) (by rw [hiH.out.2.2]; omega) (by simp only [hiH.out.2.2]; kernel_rfl) ?_; (have g0 : Hid (Rows (w1.alloc (.cells (exR.map Ev.cells).flatten.toArray 69)) 26 (some ⟨w1.heap.size, 0, none⟩) 3 (exR.map Ev.cells) ∧ Below w.heap.size w (w1.alloc (.cells (exR.map Ev.cells).flatten.toArray 69))) := ⟨rows_flatR (L := exR) (heap_alloc_new w1 (.cells (exR.map Ev.cells).flatten.toArray 69)) (by decide), bthen hB1.out (boxed w1 _)⟩); generalize w1.alloc (.cells (exR.map Ev.cells).flatten.toArray 69) = V0 at *; generalize w1.heap.size = T0 at *; clear hB1)
    | (go_at_call 42; (with_reducible refine (cl _).mono ?_); rintro e w2 ⟨rfl, hm2, hb2⟩; (have gm : Hid _ := hm2); (try (have gd2 : Hid (Rows w2 2 da dc ([((0 : Nat), (1 : Nat)), (1, 2)].map edg)) := gd.out.1.later hb2; clear gd; have gd : Hid (Rows w2 2 da dc ([((0 : Nat), (1 : Nat)), (1, 2)].map edg) ∧ Below w2.heap.size w2 w2) := ⟨gd2.out, Below.refl _ _⟩; clear gd2)); (have g1 : Hid (Rows w2 26 (some ⟨T0, 0, none⟩) 3 (exR.map Ev.cells) ∧ Below w.heap.size w w2) := ⟨g0.out.1.later hb2, bthen g0.out.2 hb2⟩); clear hm2 hb2 g0)
    | (go_at_call 14; (refine (dataX _ _ _ _ gm.out (hFH.out.later g1.out.2) g1.out.1).mono ?_); rintro e w3 ⟨da, dc, rfl, hr3, hb3⟩; (have g0 : Hid (Rows w3 26 (some ⟨T0, 0, none⟩) 3 (exR.map Ev.cells) ∧ Below w.heap.size w w3) := ⟨g1.out.1.later hb3, bthen g1.out.2 hb3⟩); (have gd : Hid (Rows w3 2 da dc ([((0 : Nat), (1 : Nat)), (1, 2)].map edg) ∧ Below w3.heap.size w3 w3) := ⟨hr3, Below.refl _ _⟩); clear gm g1 hr3 hb3)
    | (go_at_call 19; (refine (conflX _ _ _ _ gm.out (hFH.out.later g1.out.2) g1.out.1).mono ?_); rintro e w5 ⟨ma, mc, rfl, hb5⟩; (have gd2 : Hid (Rows w5 2 da dc ([((0 : Nat), (1 : Nat)), (1, 2)].map edg)) := gd.out.1.later hb5); clear gd; (have gd : Hid (Rows w5 2 da dc ([((0 : Nat), (1 : Nat)), (1, 2)].map edg) ∧ Below w5.heap.size w5 w5) := ⟨gd2.out, Below.refl _ _⟩); clear gd2; (have g0 : Hid (Rows w5 26 (some ⟨T0, 0, none⟩) 3 (exR.map Ev.cells) ∧ Below w.heap.size w w5) := ⟨g1.out.1.later hb5, bthen g1.out.2 hb5⟩); clear gm g1 hb5)
    | (go_at_call 15; (refine (hXH.out _ _ _ _ gm.out (hFH.out.later g1.out.2) g1.out.1).mono ?_); rintro e w7 ⟨ra, rc, rfl, hr7, hb7⟩; (have g9 : Hid (Below w.heap.size w w7) := bthen g1.out.2 hb7); (obtain ⟨b1, o1, x1, _, r1⟩ := pr_at (L := [((0 : Nat), (1 : Nat)), (1, 2)]) (gd.out.1.later hb7) (i := 1) (p := (1, 2)) rfl); (obtain ⟨b2, o2, x2, _, r2⟩ := fd_at (L := [fdX]) hr7 (i := 0) (x := fdX) rfl); (have x1' : ∀ wx, (Instr.indexAt 23 (.slice da 2 dc) (.int .i64 1)).run Tryz.prog wx = .ok (.pointer (some ⟨b1, o1, none⟩)) wx := x1); (have x2' : ∀ wx, (Instr.indexAt 38 (.slice ra 1 rc) (.int .i64 0)).run Tryz.prog wx = .ok (.pointer (some ⟨b2, o2, none⟩)) wx := x2); (have rH : Hid (w7.rangeAt b1 o1 [.int .i64 1, .int .i64 2] ∧ w7.rangeAt b2 o2 [.int .i64 5, .int .i64 0, .int .i64 0, .int .i64 0, .int .i64 0, .int .i64 0, .int .i64 0]) := ⟨r1, r2⟩); clear x1 x2 r1 r2 gm g1 gd hr7 hb7)
    | (refine wpList_load_g rfl 71 _ rfl b1 o1 rfl [.int .i64 1, .int .i64 2] _ rH.out.1 huP.out rfl info2 ?_)
    | (refine wpList_load_g rfl 84 _ rfl b2 o2 rfl [.int .i64 5, .int .i64 0, .int .i64 0, .int .i64 0, .int .i64 0, .int .i64 0, .int .i64 0] _ rH.out.2 huF.out rfl infoFd ?_))
  go_ret
  exact ⟨rfl, g9.out⟩
end Go.Proofs.YtafefnkgdnmjbaaGreatDoor.pg
/- Package race's Races. -/
namespace Go.Proofs.YtafefnkgdnmjbaaGreatDoor.pg
open Go.ChangeShapes Go.WideShapes Go.ChangeAt Go.RowKit Go.Shelf
set_option linter.unusedVariables false
set_option linter.unusedSimpArgs false
set_option maxRecDepth 100000
attribute [local go_sem] Oper.semAt_some
attribute [local go_sem ↓] Go.wp_at_zero Go.wp_at_succ
/-- The mark that a range over a function leaves among the deferred calls. -/
abbrev mkDR (D : Nat) : Deferred := { target := .collected D, args := #[] }
structure MarksR (n₀ : Nat) (Ds : List Nat) (W : World) : Prop where
  nd : Ds.Nodup
  at_ : ∀ D ∈ Ds, n₀ ≤ D ∧ W.heap[D]? = some (.deferred (some []))
theorem MarksR.nil (n₀ : Nat) (W : World) : MarksR n₀ [] W := ⟨List.nodup_nil, by simp⟩
theorem MarksR.lt {n₀ : Nat} {Ds : List Nat} {W : World} (h : MarksR n₀ Ds W) {D : Nat} (hD : D ∈ Ds) : D < W.heap.size := (Array.getElem?_eq_some_iff.mp (h.at_ D hD).2).1
theorem MarksR.keep {n₀ : Nat} {Ds : List Nat} {W W' : World} (h : MarksR n₀ Ds W) (hk : ∀ D ∈ Ds, W'.heap[D]? = W.heap[D]?) : MarksR n₀ Ds W' := ⟨h.nd, fun D hD => ⟨(h.at_ D hD).1, (hk D hD).trans (h.at_ D hD).2⟩⟩
theorem MarksR.later {n₀ : Nat} {Ds : List Nat} {W W' : World} (h : MarksR n₀ Ds W) (hb : Below W.heap.size W W') : MarksR n₀ Ds W' := h.keep fun D hD => hb.block D (h.lt hD)
theorem MarksR.more {n₀ : Nat} {Ds : List Nat} {W : World} (h : MarksR n₀ Ds W) {D : Nat} (hn : n₀ ≤ D) (hne : D ∉ Ds) (hD : W.heap[D]? = some (.deferred (some []))) : MarksR n₀ (D :: Ds) W :=
  ⟨List.nodup_cons.mpr ⟨hne, h.nd⟩, fun E hE => by
    rcases List.mem_cons.mp hE with rfl | hE
    · exact ⟨hn, hD⟩
    · exact h.at_ E hE⟩
/-- What leaving keeps: all cells. -/
structure KeepDR (n₀ : Nat) (W W' : World) : Prop where
  b : Below n₀ W W'
  c : ∀ (b : Nat) cs t z, W.heap[b]? = some (.cells cs t z) → W'.heap[b]? = some (.cells cs t z)
theorem leaves_marksR {F : Fence} {n : Nat} {P : Program} {fn : Func} {tmps : Array Value} {R : Ending → World → Prop} {n₀ : Nat} : ∀ (Ds : List Nat) (W : World), MarksR n₀ Ds W → (∀ W', KeepDR n₀ W W' → LeavesIn F n P fn tmps R [] .returning W') → LeavesInM F n P fn tmps R (Ds.map mkDR) .returning W
  | [], W, _, h => h W ⟨Below.refl _ _, fun _ _ _ _ q => q⟩
  | D :: Ds, W, hm, h => by
    obtain ⟨hn, hD⟩ := hm.at_ D (by simp)
    have hnd := List.nodup_cons.mp hm.nd
    refine ⟨(fun q => by cases q), .inl ⟨D, _, rfl, run_takeDeferred hD, ?_⟩⟩
    refine leaves_marksR Ds _ ⟨hnd.2, fun E hE => ⟨(hm.at_ E (by simp [hE])).1, (World.putObj_heap_other (show E ≠ D from fun e => by subst e; exact hnd.1 hE)).trans (hm.at_ E (by simp [hE])).2⟩⟩ fun W' hk => h W' ?_
    have hb : Below n₀ W (W.putObj D (.deferred none)) := (Below.refl n₀ W).grown (grownBy_putObj' W D _) (by have := hm.lt (D := D) (by simp); omega) (fun k e => by cases e; exact hn)
    exact ⟨hb.trans hk.b, fun b cs t z q => hk.c b cs t z (by
      by_cases e : b = D
      · subst e; rw [hD] at q; cases q
      · exact (World.putObj_heap_other e).trans q)⟩
/-- The races of one pair. -/
def gaP (v : Nat → Bool) (l : List Ev) (p : Nat × Nat) : List Fd := (upK v (evf l p.1) (evf l p.2) 6).map fun n => fdR (evf l p.1).fn (evf l p.1).pc (evf l p.2).fn (evf l p.2).pc n
/-- All that is gathered. -/
def gaL (v : Nat → Bool) (l : List Ev) (D : List (Nat × Nat)) : List Fd := D.flatMap (gaP v l)
theorem blk_onR {w w' : World} {B : Nat} {o : Obj} (h : w.heap[B]? = some o) (hb : Below w.heap.size w w') : w'.heap[B]? = some o := (hb.block B (Array.getElem?_eq_some_iff.mp h).1).trans h
theorem infoFdR : (Tryz.prog.info? 84).map (fun i => (i.zero, i.size, i.bytes)) = some (some (.agg #[.int .i64 0, .int .i64 0, .int .i64 0, .int .i64 0, .int .i64 0, .int .i64 0, .int .i64 0]), 7, 56) := by kernel_rfl
theorem zeroEvR : ∃ zE : List Value, zE.length = 26 ∧ ∀ w, (zeroValue 69).run Tryz.prog w = .ok (.agg zE.toArray) w := ⟨stEvZ.cells, rfl, fun w => by kernel_rfl⟩
theorem two_zs1 (V : World) (z : Array Value) (t : TypeId) : ((V.drew.alloc (.cells z t)).alloc (.cells z t)).heap[V.drew.heap.size]? = some (.cells z t) ∧ ((V.drew.alloc (.cells z t)).alloc (.cells z t)).heap[(V.drew.alloc (.cells z t)).heap.size]? = some (.cells z t) ∧ Below V.heap.size V ((V.drew.alloc (.cells z t)).alloc (.cells z t)) ∧ V.drew.heap.size ≠ (V.drew.alloc (.cells z t)).heap.size ∧ V.heap.size ≤ V.drew.heap.size ∧ V.heap.size ≤ (V.drew.alloc (.cells z t)).heap.size :=
  ⟨blk_onR (heap_alloc_new _ _) (boxed _ _), heap_alloc_new _ _, bthen (bthen (bey_drew V) (boxed _ _)) (boxed _ _), by rw [World.size_alloc]; omega, Nat.le_refl _, by rw [World.size_alloc]; exact Nat.le_succ _⟩
theorem two_zs2 (V : World) (z : Array Value) (t : TypeId) : ((V.drew.alloc (.cells z t)).alloc (.cells z t)).heap[(V.drew.alloc (.cells z t)).heap.size]? = some (.cells z t) ∧ ((V.drew.alloc (.cells z t)).alloc (.cells z t)).heap[V.drew.heap.size]? = some (.cells z t) ∧ Below V.heap.size V ((V.drew.alloc (.cells z t)).alloc (.cells z t)) ∧ (V.drew.alloc (.cells z t)).heap.size ≠ V.drew.heap.size ∧ V.heap.size ≤ (V.drew.alloc (.cells z t)).heap.size ∧ V.heap.size ≤ V.drew.heap.size := by
  obtain ⟨h1, h2, h3, h4, h5, h6⟩ := two_zs1 V z t
  exact ⟨h2, h1, h3, Ne.symm h4, h6, h5⟩
theorem hnV {da : Option Addr} {n m b : Nat} (h : ∀ g ∈ blk da, g < n ∨ m ≤ g) (h1 : n ≤ b) (h2 : b < m) : b ∉ blk da := fun q => by have := h b q; omega
theorem hn12 {da : Option Addr} {A n P : Nat} {V' V2 : World} (h : ∀ g ∈ blk da, g < n ∨ V2.heap.size ≤ g) (h1 : n ≤ A) (h2 : A < V'.heap.size) (_ : P < n) (hz : V2.heap.size = V'.heap.size + 3) (_ : Below V'.heap.size V' V2) : A ∉ blk da := hnV h h1 (by omega)
theorem wpList_callf1 {P : Program} {ops : Array Oper} {Q : Exit → Act → World → Prop} {rest : List Oper} {o : Oper} {a : Act} {w : World} (hgd : o.guard = none) (f : FuncId) (x : Operand) (t : TypeId) (hc0 : o.op = .call { callee := .value (.func f), args := #[x], argTypes := #[t] }) (v : Value) (hx : a.eval x = v) (hcf : (callFunc f #[v]).run P w = .ok (.enter f #[v]) w) (R : Ending → World → Prop) (hc : Calls P f #[v] w R)
    (hK : ∀ e w', R e w' → ∃ v, e = .returned v ∧ wpList P ops Q rest (a.put o.dst v) w') : wpList P ops Q (o :: rest) a w := by
  refine wpList_plain hgd fun K hK2 => ?_
  have hrun : (execOp a.eval o).run P w = .ok (.enter f #[v]) w := by
    have hf : a.eval (.func f) = .func (.func f) #[] #[] := rfl
    simp [execOp, hc0, resolve, invoke, hx, hf, Deferred.ofValue, hcf]
  unfold Oper.wp
  rw [hrun, Oper.upon_enter]
  refine hc.mono fun e w' h => ?_
  obtain ⟨v, rfl, hk⟩ := hK e w' h
  exact hK2 _ _ hk
theorem wpList_callf3 {P : Program} {ops : Array Oper} {Q : Exit → Act → World → Prop} {rest : List Oper} {o : Oper} {a : Act} {w : World} (hgd : o.guard = none) (f : FuncId) (x y z : Operand) (ts : Array TypeId) (hc0 : o.op = .call { callee := .value (.func f), args := #[x, y, z], argTypes := ts }) (v v2 v3 : Value) (hx : a.eval x = v) (hy : a.eval y = v2) (hz : a.eval z = v3) (hcf : (callFunc f #[v, v2, v3]).run P w = .ok (.enter f #[v, v2, v3]) w) (R : Ending → World → Prop) (hc : Calls P f #[v, v2, v3] w R)
    (hK : ∀ e w', R e w' → ∃ v, e = .returned v ∧ wpList P ops Q rest (a.put o.dst v) w') : wpList P ops Q (o :: rest) a w := by
  refine wpList_plain hgd fun K hK2 => ?_
  have hrun : (execOp a.eval o).run P w = .ok (.enter f #[v, v2, v3]) w := by
    have hf : a.eval (.func f) = .func (.func f) #[] #[] := rfl
    simp [execOp, hc0, resolve, invoke, hx, hy, hz, hf, Deferred.ofValue, hcf]
  unfold Oper.wp
  rw [hrun, Oper.upon_enter]
  refine hc.mono fun e w' h => ?_
  obtain ⟨v, rfl, hk⟩ := hK e w' h
  exact hK2 _ _ hk
theorem gaL_more {v : Nat → Bool} {l : List Ev} {D : List (Nat × Nat)} {k : Nat} {p : Nat × Nat} (h : D[k]? = some p) : gaL v l (D.take (k + 1)) = gaL v l (D.take k) ++ gaP v l p := by
  have hk := (List.getElem?_eq_some_iff.mp h).1
  have e : D[k] = p := (List.getElem?_eq_some_iff.mp h).2
  unfold gaL
  rw [List.take_succ_eq_append_getElem hk, List.flatMap_append, e]
  simp
theorem gaP_len (v : Nat → Bool) (l : List Ev) (p : Nat × Nat) : (gaP v l p).length ≤ 6 := by
  unfold gaP
  rw [List.length_map]
  exact upK_len v _ _ 6
theorem gaL_len (v : Nat → Bool) (l : List Ev) (D : List (Nat × Nat)) : ∀ k, (gaL v l (D.take k)).length ≤ 6 * k
  | 0 => by simp [gaL]
  | k + 1 => by
    have ih := gaL_len v l D k
    cases h : D[k]? with
    | none =>
      have : D.length ≤ k := List.getElem?_eq_none_iff.mp h
      rw [List.take_of_length_le (by omega)]
      rw [List.take_of_length_le this] at ih
      omega
    | some p =>
      rw [gaL_more h, List.length_append]
      have := gaP_len v l p
      omega
theorem upon_up (w : World) (x y : Ev) (v : Nat → Bool) : Up3 (w.heap.size + 1) w.heap.size (w.heap.size + 2) x v y (((w.alloc (objV v)).alloc (objEv x)).alloc (objEv y)) ∧ Below w.heap.size w (((w.alloc (objV v)).alloc (objEv x)).alloc (objEv y)) ∧ (((w.alloc (objV v)).alloc (objEv x)).alloc (objEv y)).heap.size = w.heap.size + 3 := by
  obtain ⟨h1, h2, h3, h4, h5⟩ := start3 w (objV v) (objEv x) (objEv y)
  exact ⟨⟨h2, h1, h3⟩, h4, h5⟩
def raT (w : World) (M : MPr) (l : List Ev) (la : Option Addr) (lc A6 A9 : Nat) (v : Nat → Bool) (D : List (Nat × Nat)) (pa : Option Addr) (pc k : Nat) (u11 u12 u13 u14 u34 u35 u36 u37 u38 u39 u40 u41 u42 u43 u44 u45 u46 u47 u48 u49 u50 u51 u52 u53 u54 u55 u56 u57 u58 u59 u60 u61 : Value) (ds : List Deferred) : Act := { tmps := #[M.val, .slice la l.length lc, .pointer (some ⟨w.heap.size, 0, none⟩), undef, .slice none 0 0, .int .i64 0, .pointer (some ⟨A6, 0, none⟩), .int .i64 0, .slice pa D.length pc, .pointer (some ⟨A9, 0, none⟩), undef, u11, u12, u13, u14, .tuple #[.agg (boolRow 8 v), .int .i64 0], M.val, .tuple #[.agg (boolRow 8 v), .int .i64 0], .agg (boolRow 8 v), .int .i64 0, .int .i64 0, .bool false, undef, .tuple #[.slice pa D.length pc, .int .i64 0], .slice la l.length lc, .tuple #[.slice pa D.length pc, .int .i64 0], .slice pa D.length pc, .int .i64 0, .int .i64 0, .bool false, undef, .slice pa D.length pc, .int .i64 (D.length : Int), .int .i64 (k : Int), u34, u35, u36, u37, u38, u39, u40, u41, u42, u43, u44, u45, u46, u47, u48, u49, u50, u51, u52, u53, u54, u55, u56, u57, u58, u59, u60, u61, undef, undef, undef, undef], defers := ds }
/-- How Races stands in its loop. -/
structure RaS (w w3 W : World) (v : Nat → Bool) (A6 : Nat) (da : Option Addr) (dc : Nat) (F : List Fd) (Ds : List Nat) : Prop where
  p : PutS w3 W (w3.heap.size + 1) w3.heap.size 38 84 7 da dc (F.map Fd.cells)
  m : MarksR w3.heap.size Ds W
theorem RaS.later {w w3 W W' : World} {v : Nat → Bool} {A6 : Nat} {da : Option Addr} {dc : Nat} {F : List Fd} {Ds : List Nat} (h : RaS w w3 W v A6 da dc F Ds) (hb : Below W.heap.size W W') : RaS w w3 W' v A6 da dc F Ds := ⟨h.p.later hb, h.m.later hb⟩
def StopR (p : Prop) : Prop := p
theorem stopR_in {p : Prop} (h : StopR p) : p := h
theorem stopR_out {p : Prop} (h : p) : StopR p := h
theorem own_some {w : World} {lo e k : Nat} {a : Option Addr} {cap : Nat} {L : List (List Value)} (h : OwnL w lo e k a cap L) : (a = none ∧ L = [] ∧ cap = 0) ∨ ∃ g, a = some ⟨g, 0, none⟩ := by
  rcases h.2 with ⟨h1, h2⟩ | ⟨g, cap', cur, h1, hb, hg, hnc, hcm, hcs, htake⟩
  · simp only [Value.slice.injEq] at h1
    obtain ⟨rfl, hl, rfl⟩ := h1
    exact .inl ⟨rfl, List.length_eq_zero_iff.mp hl, rfl⟩
  · simp only [Value.slice.injEq] at h1
    exact .inr ⟨g, h1.1⟩
theorem rows_keepR {W W' : World} {n₀ : Nat} {ra : Option Addr} {rc : Nat} {L : List (List Value)} (h : Rows W 7 ra rc L) (hc : ∀ g, ra = some ⟨g, 0, none⟩ → ∃ cs t z, W.heap[g]? = some (.cells cs t z)) (hr : ra = none ∨ ∃ g, ra = some ⟨g, 0, none⟩) (hk : KeepDR n₀ W W') : Rows W' 7 ra rc L := by
  obtain ⟨h1, h2, h3, h4⟩ := h
  refine ⟨h1, h2, h3, h4.imp_right fun ⟨b, off, ha, hlt, hcc⟩ => ?_⟩
  rcases hr with hr | ⟨g, hr⟩
  · rw [hr] at ha; cases ha
  · have e : (⟨b, off, none⟩ : Addr) = ⟨g, 0, none⟩ := by rw [hr] at ha; exact (Option.some.inj ha).symm
    cases e
    obtain ⟨cs, t, z, hcs⟩ := hc _ hr
    have h' := hk.c _ cs t z hcs
    refine ⟨_, 0, ha, (Array.getElem?_eq_some_iff.mp h').1, fun i row hi => ⟨(hcc i row hi).1, fun j u hj => ?_⟩⟩
    have := (hcc i row hi).2 j u hj
    rw [← this, World.cell?, World.cell?, hcs, h']
set_option maxHeartbeats 1000000 in
theorem compact_nil (w : World) : Calls Tryz.prog 54 #[.slice none 0 0] w fun e w' => e = .returned (.slice none 0 0) ∧ w' = w := by
  go_enter Tryz.func54, Tryz.ntmps54
  go_wp2
  go_ret
  exact ⟨rfl, rfl⟩
theorem fdR_wf {f p f2 p2 n : Int} (h1 : I64 f) (h2 : I64 p) (h3 : I64 f2) (h4 : I64 p2) (h5 : I64 n) : (fdR f p f2 p2 n).wf := by
  have h0 : I64 0 := by unfold I64; decide
  have h55 : I64 5 := by unfold I64; decide
  unfold fdR
  split
  · exact ⟨h55, h3, h4, h1, h2, h5, h0⟩
  · exact ⟨h55, h1, h2, h3, h4, h5, h0⟩
theorem gaL_wf {v : Nat → Bool} {l : List Ev} {D : List (Nat × Nat)} (hw : ∀ x ∈ l, x.wf) (hr : ∀ x ∈ l, rightP x) (hin : ∀ p ∈ D, p.1 < p.2 ∧ p.2 < l.length) {x : Fd} (hx : x ∈ gaL v l D) : x.wf := by
  unfold gaL at hx
  rw [List.mem_flatMap] at hx
  obtain ⟨p, hp, hx⟩ := hx
  obtain ⟨q1, q2⟩ := hin p hp
  have w1 := hw _ (List.mem_of_getElem? (evf_at (l := l) (i := p.1) (by omega)))
  have w2 := hw _ (List.mem_of_getElem? (evf_at (l := l) (i := p.2) q2))
  unfold gaP at hx
  rw [List.mem_map] at hx
  obtain ⟨n, hn, rfl⟩ := hx
  unfold upK at hn
  rw [List.mem_map] at hn
  obtain ⟨a, ha, rfl⟩ := hn
  rw [List.mem_filter] at ha
  have ha2 := List.mem_of_mem_take ha.1
  have hal : a ∈ (evf l p.1).list := List.mem_of_mem_take ha2
  exact fdR_wf w1.1.2.1 w1.1.2.2.1 w2.1.2.1 w2.1.2.2.1 (w1.2.1 a hal).2
/-- How it stands in a round of the inner loop. -/
def RaI (w w3 : World) (v : Nat → Bool) (A6 A12 A13 : Nat) (X Y : Ev) (G : List Fd) (Ds : List Nat) (n m : Nat) (pre : List Int) (Z : World) : Prop := ∃ da dc, RaS w w3 Z v A6 da dc (G ++ pre.map fun n => fdR X.fn X.pc Y.fn Y.pc n) Ds ∧ Z.heap[A12]? = some (objEv X) ∧ Z.heap[A13]? = some (objEv Y) ∧ (∀ g ∈ blk da, g < n ∨ m ≤ g) ∧ m ≤ Z.heap.size
set_option maxHeartbeats 8000000 in
theorem races_tell (M : MPr) (l : List Ev) (la : Option Addr) (lc : Nat) (w : World) (hM : M.lies w) (hF : prog.Forms w) (b c : Int) (hr : chk insP M.pr = (0, b, c)) (hl : Rows w 26 la lc (l.map Ev.cells)) (hlen : l.length ≤ 256) (hrt : ∀ x ∈ l, rightP x) (hwf : ∀ x ∈ l, x.wf) (B : Nat → Nat → Bool) (hB : Tells (dpf l) B) :
    Calls Tryz.prog 15 #[M.val, .slice la l.length lc] w fun e w' => ∃ ra rc, ∃ D : List Fd, e = .returned (.tuple #[.slice ra (cpt D).length rc, .int .i64 0]) ∧ D.Perm (gaL (plV M.vars) l (rcL B l fun _ _ => true)) ∧ D.Pairwise (fun x y => cmp3 x y ≤ 0) ∧ Rows w' 7 ra rc ((cpt D).map Fd.cells) ∧ Below w.heap.size w w' := by
  have cO : ∀ wx, Below w.heap.size w wx → Calls Tryz.prog 44 #[M.val] wx fun e w' => e = .returned (.tuple #[.agg (boolRow 8 (plV M.vars)), .int .i64 0]) ∧ Below wx.heap.size wx w' := fun wx hb => plainOf_ok M wx (hM.later hb) (hF.later hb) b c hr
  have cP : ∀ wx, Below w.heap.size w wx → Calls Tryz.prog 9 #[.slice la l.length lc] wx fun e w' => ∃ da dc, e = .returned (.tuple #[.slice da (rcL B l fun _ _ => true).length dc, .int .i64 0]) ∧ Rows w' 2 da dc ((rcL B l fun _ _ => true).map edg) ∧ Below wx.heap.size wx w' := fun wx hb => pairs_ok l la lc wx (hl.later hb) hlen hrt B hB
  have hin : Hid (∀ p ∈ rcL B l (fun _ _ => true), p.1 < p.2 ∧ p.2 < l.length) := fun p hp => edL_in (List.mem_filter.mp hp).1
  have hDl : (rcL B l fun _ _ => true).length ≤ 65536 := Nat.le_trans (List.length_filter_le _ _) (edL_len hlen)
  have hDI : ((rcL B l fun _ _ => true).length : Int) ≤ 65536 := by omega
  have hlH : Hid (Rows w 26 la lc (l.map Ev.cells)) := hl
  have hrH : Hid (∀ x ∈ l, rightP x) := hrt
  have hwH : Hid (∀ x ∈ l, x.wf) := hwf
  have hzV : Hid (∀ w, (zeroValue 86).run Tryz.prog w = .ok (.agg (boolRow 8 fun _ => false)) w) := zeroPl
  have huV : Hid (Tryz.prog.underlying 86 = _) := Tryz.underlying86
  have huE : Hid (Tryz.prog.underlying 69 = _) := Tryz.underlying69
  clear hl hF hr hM hlen hrt hB hwf
  generalize rcL B l (fun _ _ => true) = D at *
  generalize plV M.vars = v at *
  refine (callsIn_wide (n := 3)).1 ?_
  refine callsIn_of_wp_marks Tryz.func15 rfl trivial ?_ rfl
  simp only [Tryz.ntmps15, List.size_toArray, List.length_cons, List.length_nil, Nat.reduceAdd, Nat.reduceSub, Array.replicate_succ, Array.replicate_zero, List.push_toArray, List.append_toArray, List.nil_append, List.cons_append]
  refine wpIn_wide.2 ?_
  go_wp2_with (first
    | (refine wpList_alloc_big rfl 86 rfl hzV.out ?_)
    | (go_at_call 44; (with_reducible refine (cO _ (boxed _ _)).mono ?_); rintro e w1 ⟨rfl, hb1⟩; (have hB1 : Hid (Below w.heap.size w w1) := bthen (boxed _ _) hb1); clear hb1)
    | (refine wpList_store_row rfl 86 _ _ rfl w1.heap.size (boolRow 8 v) rfl rfl _ _ (heap_alloc_new _ _) (infoPl _) (by rw [boolRow_size, boolRow_size]) (boolRow_one _ _) ?_; (obtain ⟨W2, hW2⟩ : ∃ W2, W2 = (w1.alloc (objV fun _ => false)).setRow w1.heap.size (boolRow 8 v) := ⟨_, rfl⟩); rw [← hW2]; (have hv2 : Hid (W2.heap[w1.heap.size]? = some (objV v) ∧ Below w.heap.size w W2) := by (rw [hW2]; exact ⟨setRow_heap _ _ _ _ _ _ (heap_alloc_new _ _), below_setRow (bthen hB1.out (boxed _ _)) hB1.out.size _⟩)); clear hW2)
    | (go_at_call 9; (with_reducible refine (cP _ hv2.out.2).mono ?_); rintro e w3 ⟨pa, pc, rfl, hr3, hb3⟩; (have hv3 : Hid (w3.heap[w1.heap.size]? = some (objV v) ∧ Below w.heap.size w w3 ∧ Rows w3 2 pa pc (D.map edg)) := ⟨(hb3.block _ (Array.getElem?_eq_some_iff.mp hv2.out.1).1).trans hv2.out.1, bthen hv2.out.2 hb3, hr3⟩); clear hr3 hb3))
  have hlt3 : w1.heap.size < w3.heap.size := (Array.getElem?_eq_some_iff.mp hv3.out.1).1
  have s0 : Hid (RaS w w3 (w3.alloc (.cells #[.slice none 0 0] 38)) v w1.heap.size none 0 (gaL v l (D.take 0)) []) := ⟨⟨heap_alloc_new _ _, own_nilR _ _ _ _, ⟨by omega, by rw [World.size_alloc]; omega⟩, by simp [blk], Nat.le_refl _, boxed _ _⟩, MarksR.nil _ _⟩
  generalize w3.alloc (.cells #[.slice none 0 0] 38) = V0 at *
  generalize w1.heap.size = A6 at *
  refine wp_loop (fun a' W' => ∃ (k : Nat) (Ds : List Nat) (u11 u12 u13 u14 u34 u35 u36 u37 u38 u39 u40 u41 u42 u43 u44 u45 u46 u47 u48 u49 u50 u51 u52 u53 u54 u55 u56 u57 u58 u59 u60 u61 : Value) (da : Option Addr) (dc : Nat), k ≤ D.length ∧ Hid (RaS w w3 W' v A6 da dc (gaL v l (D.take k)) Ds) ∧ a' = raT w M l la lc A6 w3.heap.size v D pa pc k u11 u12 u13 u14 u34 u35 u36 u37 u38 u39 u40 u41 u42 u43 u44 u45 u46 u47 u48 u49 u50 u51 u52 u53 u54 u55 u56 u57 u58 u59 u60 u61 (Ds.map mkDR)) (fun a' _ => D.length - (intOf (a'.tmps.getD 33 undef)).toNat) ?_ ?_
  · exact ⟨0, [], undef, undef, undef, undef, undef, undef, undef, undef, undef, undef, undef, undef, undef, undef, undef, undef, undef, undef, undef, undef, undef, undef, undef, undef, undef, undef, undef, undef, undef, undef, undef, undef, none, 0, Nat.zero_le _, s0, rfl⟩
  · rintro a' W ⟨k, Ds, u11, u12, u13, u14, u34, u35, u36, u37, u38, u39, u40, u41, u42, u43, u44, u45, u46, u47, u48, u49, u50, u51, u52, u53, u54, u55, u56, u57, u58, u59, u60, u61, da, dc, hk, hs, rfl⟩
    clear s0
    unfold raT
    by_cases hlt : k < D.length
    · have hkI : (k : Int) < D.length := by omega
      obtain ⟨p, hp⟩ : ∃ p, D[k]? = some p := ⟨_, List.getElem?_eq_getElem hlt⟩
      obtain ⟨q1, q2⟩ := hin.out p (List.mem_of_getElem? hp)
      obtain ⟨pi, pj⟩ := p
      have hpi : pi < l.length := by simp only at q1 q2; omega
      have hpj : pj < l.length := q2
      obtain ⟨b1, o1, x1, hb1, r1⟩ := pr_at (hv3.out.2.2.later hs.out.p.b) hp
      have r1H : Hid (W.rangeAt b1 o1 [.int .i64 (pi : Int), .int .i64 (pj : Int)]) := r1
      go_wp2_with (refine wpList_load_mid rfl 71 _ rfl b1 o1 rfl [.int .i64 (pi : Int), .int .i64 (pj : Int)] _ r1H.out Tryz.underlying71 rfl info2 ?_)
      rename_i K hK
      have hp1 : (W.alloc (.cells #[.int .i64 (pi : Int), .int .i64 (pj : Int)] 71)).heap[W.heap.size]? = some (.cells #[.int .i64 (pi : Int), .int .i64 (pj : Int)] 71) := heap_alloc_new _ _
      have sV : Hid (RaS w w3 (W.alloc (.cells #[.int .i64 (pi : Int), .int .i64 (pj : Int)] 71)) v A6 da dc (gaL v l (D.take k)) Ds) := hs.out.later (boxed _ _)
      generalize W.alloc (.cells #[.int .i64 (pi : Int), .int .i64 (pj : Int)] 71) = V at *
      have hbV : Below w3.heap.size w3 V := sV.out.p.b
      have hbwV : Below w.heap.size w V := bthen hv3.out.2.1 hbV
      generalize W.heap.size = Bp at *
      obtain ⟨bi, oi, xi, hbi, ri⟩ := ev_at l la lc (hlH.out.later hbwV) (i := pi) (evf_at hpi)
      obtain ⟨bj, oj, xj, hbj, rj⟩ := ev_at l la lc (hlH.out.later hbwV) (i := pj) (evf_at hpj)
      have hrX : Hid (rightP (evf l pi) ∧ rightP (evf l pj)) := ⟨hrH.out _ (List.mem_of_getElem? (evf_at hpi)), hrH.out _ (List.mem_of_getElem? (evf_at hpj))⟩
      have hgA : Hid (gaL v l (D.take (k + 1)) = gaL v l (D.take k) ++ (upK v (evf l pi) (evf l pj) 6).map fun n => fdR (evf l pi).fn (evf l pi).pc (evf l pj).fn (evf l pj).pc n) := gaL_more hp
      have hgl : Hid ((gaL v l (D.take k)).length ≤ 6 * k) := gaL_len v l D k
      have hk6 : Hid (k < 65536) := by show _ < _; omega
      have A6l : A6 < w3.heap.size := hlt3
      have hV6 : Hid (w3.heap[A6]? = some (objV v)) := hv3.out.1
      clear hs r1H hb1 x1 hp q1 q2 hin
      generalize evf l pi = X at *
      generalize evf l pj = Y at *
      have rest : ∀ (A12 A13 : Nat) (V' : World) (u14 u34 u35 u36 u37 u38 u39 u40 u41 u42 u43 u44 u45 u46 u47 u48 u49 u50 u51 u52 u53 u54 u55 u56 u57 u58 u59 u60 u61 : Value), Hid (Below V.heap.size V V' ∧ V'.heap[A12]? = some (objEv X) ∧ V'.heap[A13]? = some (objEv Y) ∧ V.heap.size ≤ A12 ∧ V.heap.size ≤ A13) → K (raT w M l la lc A6 w3.heap.size v D pa pc k (.pointer (some ⟨Bp, 0, none⟩)) (.pointer (some ⟨A12, 0, none⟩)) (.pointer (some ⟨A13, 0, none⟩)) u14 u34 u35 u36 u37 u38 u39 u40 u41 u42 u43 u44 u45 u46 u47 u48 u49 u50 u51 u52 u53 u54 u55 u56 u57 u58 u59 u60 u61 (Ds.map mkDR)) V' := by
        intro A12 A13 V' u14 u34 u35 u36 u37 u38 u39 u40 u41 u42 u43 u44 u45 u46 u47 u48 u49 u50 u51 u52 u53 u54 u55 u56 u57 u58 u59 u60 u61 hR
        refine hK _ _ ?_
        unfold raT
        have cU : ∀ wx, Calls Tryz.prog 46 #[.agg (boolRow 8 v), .agg X.cells.toArray, .agg Y.cells.toArray] wx fun e w' => e = .returned (.func (.func 95) #[] #[.pointer (some ⟨wx.heap.size + 1, 0, none⟩), .pointer (some ⟨wx.heap.size, 0, none⟩), .pointer (some ⟨wx.heap.size + 2, 0, none⟩)]) ∧ w' = ((wx.alloc (objV v)).alloc (objEv X)).alloc (objEv Y) := fun wx => upon_any X Y v wx
        have l6 : Hid (V'.heap[A6]? = some (objV v)) := ((bthen hbV hR.out.1).block A6 A6l).trans hV6.out
        clear hK
        go_wp2_with (first
          | (refine wpList_load_row rfl 86 _ rfl A6 rfl _ _ _ _ l6.out huV.out rfl (infoPl v) ?_)
          | (refine wpList_load_row rfl 69 _ rfl A12 rfl _ _ _ _ hR.out.2.1 huE.out rfl (infoEvR X) ?_)
          | (refine wpList_load_row rfl 69 _ rfl A13 rfl _ _ _ _ hR.out.2.2.1 huE.out rfl (infoEvR Y) ?_)
          | (go_at_call 46; (refine (cU _).mono ?_); rintro e V2 ⟨rfl, hw2⟩; (have hU : Hid (Up3 (V'.heap.size + 1) V'.heap.size (V'.heap.size + 2) X v Y V2 ∧ Below V'.heap.size V' V2 ∧ V2.heap.size = V'.heap.size + 3) := by (rw [hw2]; exact upon_up V' X Y v)); clear hw2))
        obtain ⟨hUp, hbU, hzU⟩ := hU.out
        obtain ⟨hR1, hR2, hR3, hR4, hR5⟩ := hR.out
        have s2 : RaS w w3 V2 v A6 da dc (gaL v l (D.take k)) Ds := (sV.out.later hR1).later hbU
        have l12 := (Array.getElem?_eq_some_iff.mp hR2).1
        have l13 := (Array.getElem?_eq_some_iff.mp hR3).1
        have hPl : w3.heap.size < V.heap.size := sV.out.p.lt
        have hb0 : ∀ g ∈ blk da, g < V.heap.size ∨ V2.heap.size ≤ g := fun g hg => .inl (blk_lt sV.out.p.o g hg).2
        have hDl : ∀ E ∈ Ds, E < V2.heap.size := fun E hE => s2.m.lt hE
        have s0 : RaI w w3 v A6 A12 A13 X Y (gaL v l (D.take k)) Ds V.heap.size V2.heap.size [] V2 := ⟨da, dc, by rw [List.map_nil, List.append_nil]; exact s2, blk_onR hR2 hbU, blk_onR hR3 hbU, hb0, Nat.le_refl _⟩
        have hVV := hR1.size
        have hglB : Hid ((gaL v l (D.take k)).length ≤ 393216) := by (have h1 := hgl.out; have h2 := hk6.out; show _ ≤ _; omega)
        have hrXY := hrX.out
        clear hU hR s2 cU l6
        refine (wpIn_wide (n := 3)).1 ?_
        refine wpIn_rangeFunc_ownG (n := 3) rfl (by omega) (gf := 95) (lb := #[.pointer (some ⟨V'.heap.size + 1, 0, none⟩), .pointer (some ⟨V'.heap.size, 0, none⟩), .pointer (some ⟨V'.heap.size + 2, 0, none⟩)]) rfl trivial (enters_of Tryz.func95 (by kernel_rfl) rfl)
          (upon_stops 2 X Y v hrXY.1 hrXY.2 _ _ _ V2 hUp) Kp3.trans (kp3_b (by omega) (by omega) (by omega)) (Below.refl _ _) (fun _ => rfl)
          (RaI w w3 v A6 A12 A13 X Y (gaL v l (D.take k)) Ds V.heap.size V2.heap.size) (fun _ _ _ => False) ?own (fun _ _ _ _ _ hs _ _ => hs) s0
          (fun z => raT w M l la lc A6 w3.heap.size v D pa pc k (.pointer (some ⟨Bp, 0, none⟩)) (.pointer (some ⟨A12, 0, none⟩)) (.pointer (some ⟨A13, 0, none⟩)) (.int .i64 z) u34 u35 u36 u37 u38 u39 u40 u41 u42 u43 u44 u45 u46 (.agg (boolRow 8 v)) (.agg X.cells.toArray) (.agg Y.cells.toArray) (.func (.func 95) #[] #[.pointer (some ⟨V'.heap.size + 1, 0, none⟩), .pointer (some ⟨V'.heap.size, 0, none⟩), .pointer (some ⟨V'.heap.size + 2, 0, none⟩)]) (.int .i64 z) u52 u53 u54 u55 u56 u57 u58 u59 u60 u61 []) ?assign ?body ?done ?stop
        case own =>
          rintro pre A B row ⟨da', dc', h1, h2, h3, h4, h5⟩ hgr hr
          have hne : ∀ b, b < V2.heap.size → some b ≠ row := fun b hb e => by have := (hr b e.symm).1; omega
          exact ⟨da', dc', ⟨h1.p.own (by omega) hgr hr, h1.m.keep fun E hE => hgr.block E (h1.m.lt hE) (hne E (hDl E hE))⟩, (hgr.block _ (Array.getElem?_eq_some_iff.mp h2).1 (hne _ (by omega))).trans h2, (hgr.block _ (Array.getElem?_eq_some_iff.mp h3).1 (hne _ (by omega))).trans h3, h4, Nat.le_trans h5 hgr.size⟩
        case assign =>
          intro ll z Z KK hKK
          unfold raT at hKK
          gi_wp2
          exact hKK
        case body =>
          rintro ll pre z Z ⟨da', dc', h1, h2, h3, h4, h5⟩ hlen
          have hpl : Hid (pre.length < 6) := hlen
          have hmE : ((gaL v l (D.take k) ++ pre.map fun n => fdR X.fn X.pc Y.fn Y.pc n).map Fd.cells).length + 1 ≤ 400000 := by
            have h1 := hglB.out
            rw [List.length_map, List.length_append, List.length_map]
            omega
          have hmH : Hid _ := hmE
          obtain ⟨F0, hF0⟩ : ∃ F0, gaL v l (D.take k) ++ (pre.map fun n => fdR X.fn X.pc Y.fn Y.pc n) = F0 := ⟨_, rfl⟩
          have hF1 : Hid (gaL v l (D.take k) ++ ((pre ++ [z]).map fun n => fdR X.fn X.pc Y.fn Y.pc n) = F0 ++ [fdR X.fn X.pc Y.fn Y.pc z]) := by (show _ = _; rw [← hF0, List.map_append, List.append_assoc]; rfl)
          rw [hF0] at h1 hmH
          clear hF0 hmE
          obtain ⟨iF, hiF, hzF, hsF, hbF⟩ := info_q infoFdR
          have hS0 : Hid (Z.drew.heap[A12]? = some (objEv X) ∧ Z.drew.heap[A13]? = some (objEv Y)) := ⟨h2, h3⟩
          have p0 : Hid (PutS w3 Z.drew (w3.heap.size + 1) w3.heap.size 38 84 7 da' dc' (F0.map Fd.cells)) := h1.p.later (bey_drew Z)
          have hbZ0 : Hid (Below Z.heap.size Z Z.drew) := bey_drew Z
          have hZl : V2.heap.size ≤ Z.heap.size := h5
          unfold raT
          gi_wp2_with fail
          refine wpR_held (fun w' => w'.heap[A12]? = some (objEv X) ∧ w'.heap[A13]? = some (objEv Y)) (by kernel_rfl) (by kernel_rfl) (by rintro ⟨_, _, h⟩; exact h) ?_
          generalize Z.drew = Z0 at *
          refine reg_load (i := 1) rfl (by kernel_rfl) (by kernel_rfl) (by kernel_rfl) (fun _ _ _ _ h => h) rfl 69 _ rfl A12 0 rfl X.cells _ (fun w' h' => range_ofR h'.1) huE.out rfl infoE26 hS0.out ?_
          simp only [Act.put, List.getElem_toArray, List.getElem_cons_succ, List.getElem_cons_zero, List.setIfInBounds_toArray, List.set_cons_zero, List.set_cons_succ]
          refine reg_load (i := 3) rfl (by kernel_rfl) (by kernel_rfl) (by kernel_rfl) (fun _ _ _ _ h => h) rfl 69 _ rfl A13 0 rfl Y.cells _ (fun w' h' => range_ofR h'.2) huE.out rfl infoE26 hS0.out ?_
          simp only [Act.put, List.getElem_toArray, List.getElem_cons_succ, List.getElem_cons_zero, List.setIfInBounds_toArray, List.set_cons_zero, List.set_cons_succ]
          refine reg_move (i := 5) rfl (by kernel_rfl) (by kernel_rfl) (by kernel_rfl) (fun _ _ _ _ h => h) rfl (.int .i64 z) (fun _ => rfl) hS0.out ?_
          simp only [Act.put, List.getElem_toArray, List.getElem_cons_succ, List.getElem_cons_zero, List.setIfInBounds_toArray, List.set_cons_zero, List.set_cons_succ]
          refine reg_two (i := 0) (j := 2) (by kernel_rfl) rfl rfl rfl rfl (wpList_load1 rfl 38 _ rfl ⟨w3.heap.size, 0, none⟩ rfl _ Tryz.underlying38 rfl (.slice da' (F0.map Fd.cells).length dc') (cell_of (k := 0) p0.out.c rfl) (wpList_nil ⟨hS0.out, fun _ => ?_⟩)) (wpList_callf1 rfl 48 _ _ rfl (.agg X.cells.toArray) rfl (cf_fn Tryz.func48 (by kernel_rfl) (by kernel_rfl) _ _) _ (place_any3 X _) ?_)
          · simp only [Act.put, List.getElem_toArray, List.getElem_cons_succ, List.getElem_cons_zero, List.setIfInBounds_toArray, List.set_cons_zero, List.set_cons_succ]
            refine reg_one (i := 2) (by kernel_rfl) rfl rfl (wpList_callf1 rfl 48 _ _ rfl (.agg X.cells.toArray) rfl (cf_fn Tryz.func48 (by kernel_rfl) (by kernel_rfl) _ _) _ (place_any3 X _) ?_)
            rintro e1 Z1 ⟨rfl, hb1⟩
            have hS1 : Hid (Z1.heap[A12]? = some (objEv X) ∧ Z1.heap[A13]? = some (objEv Y)) := ⟨blk_onR hS0.out.1 hb1, blk_onR hS0.out.2 hb1⟩
            have p1 : Hid (PutS w3 Z1 (w3.heap.size + 1) w3.heap.size 38 84 7 da' dc' (F0.map Fd.cells)) := p0.out.later hb1
            have hbZ1 : Hid (Below Z.heap.size Z Z1) := bthen hbZ0.out hb1
            clear hb1
            refine ⟨_, rfl, wpList_nil ⟨hS1.out, fun _ => ?_⟩⟩
            simp only [Act.put, List.getElem_toArray, List.getElem_cons_succ, List.getElem_cons_zero, List.setIfInBounds_toArray, List.set_cons_zero, List.set_cons_succ]
            refine reg_one (i := 4) (by kernel_rfl) rfl rfl (wpList_callf1 rfl 48 _ _ rfl (.agg Y.cells.toArray) rfl (cf_fn Tryz.func48 (by kernel_rfl) (by kernel_rfl) _ _) _ (place_any3 Y _) ?_)
            rintro e2 Z2 ⟨rfl, hb2⟩
            have hS2 : Hid (Z2.heap[A12]? = some (objEv X) ∧ Z2.heap[A13]? = some (objEv Y)) := ⟨blk_onR hS1.out.1 hb2, blk_onR hS1.out.2 hb2⟩
            have p2 : Hid (PutS w3 Z2 (w3.heap.size + 1) w3.heap.size 38 84 7 da' dc' (F0.map Fd.cells)) := p1.out.later hb2
            have hbZ2 : Hid (Below Z.heap.size Z Z2) := bthen hbZ1.out hb2
            clear hb2
            refine ⟨_, rfl, wpList_nil ⟨hS2.out, fun _ => ?_⟩⟩
            simp only [Act.put, List.getElem_toArray, List.getElem_cons_succ, List.getElem_cons_zero, List.setIfInBounds_toArray, List.set_cons_zero, List.set_cons_succ]
            refine reg_one (i := 6) (by kernel_rfl) rfl rfl (wpList_callf3 rfl 47 _ _ _ _ rfl (spV X.fn X.pc) (spV Y.fn Y.pc) (.int .i64 z) rfl rfl rfl (cf_fn Tryz.func47 (by kernel_rfl) (by kernel_rfl) _ _) _ (found_any X.fn X.pc Y.fn Y.pc z _) ?_)
            rintro e3 Z3 ⟨rfl, hb3⟩
            have hS3 : Hid (Z3.heap[A12]? = some (objEv X) ∧ Z3.heap[A13]? = some (objEv Y)) := ⟨blk_onR hS2.out.1 hb3, blk_onR hS2.out.2 hb3⟩
            have p3 : Hid (PutS w3 Z3 (w3.heap.size + 1) w3.heap.size 38 84 7 da' dc' (F0.map Fd.cells)) := p2.out.later hb3
            have hbZ3 : Hid (Below Z.heap.size Z Z3) := bthen hbZ2.out hb3
            clear hb3
            refine ⟨_, rfl, wpList_nil ⟨hS3.out, fun _ => ?_⟩⟩
            obtain ⟨q, hqv⟩ : ∃ q, fdR X.fn X.pc Y.fn Y.pc z = q := ⟨_, rfl⟩
            rw [hqv]
            simp only [Act.put, List.getElem_toArray, List.getElem_cons_succ, List.getElem_cons_zero, List.setIfInBounds_toArray, List.set_cons_zero, List.set_cons_succ]
            refine reg_one (i := 7) (by kernel_rfl) rfl rfl (wpList_buildSlice rfl 38 84 1 _ rfl #[.int .i64 q.k, .int .i64 q.af, .int .i64 q.ap, .int .i64 q.bf, .int .i64 q.bp, .int .i64 q.n, .int .i64 q.y] iF _ Tryz.underlying38 hiF hzF (by rw [hsF]; omega) (by rw [hsF]; omega) (by simp only [hsF]; kernel_rfl) (wpList_nil ⟨⟨blk_onR hS3.out.1 (boxed _ _), blk_onR hS3.out.2 (boxed _ _)⟩, fun _ => ?_⟩))
            simp only [Act.put, List.getElem_toArray, List.getElem_cons_succ, List.getElem_cons_zero, List.setIfInBounds_toArray, List.set_cons_zero, List.set_cons_succ]
            refine reg_one (i := 8) (by kernel_rfl) rfl rfl (wpList_app1 (wr := Z3) rfl (.tmp 52) (.tmp 59) 38 rfl (w3.heap.size + 1) 84 iF _ 7 56 Tryz.underlying38 hiF hzF hsF hbF rfl (by decide) da' dc' (F0.map Fd.cells) rfl p3.out.o [.int .i64 q.k, .int .i64 q.af, .int .i64 q.ap, .int .i64 q.bf, .int .i64 q.bp, .int .i64 q.n, .int .i64 q.y] rfl rfl (by simp [Value.oneCell']) (by have := hmH.out; unfold maxLen; omega) (by have := hmH.out; omega) p3.out.l.2 ?_)
            intro va' vc' Z8 g8
            obtain ⟨r8, q1, q2, q3⟩ := p3.out.add g8
            have hz3s := hbZ3.out.size
            refine wpList_nil ⟨⟨(g8.kp _ (by omega) (hn12 h4 hR4 l12 hPl hzU hbU)).trans hS3.out.1, (g8.kp _ (by omega) (hn12 h4 hR5 l13 hPl hzU hbU)).trans hS3.out.2⟩, fun hS8 => ?_⟩
            simp only [Act.put, List.getElem_toArray, List.getElem_cons_succ, List.getElem_cons_zero, List.setIfInBounds_toArray, List.set_cons_zero, List.set_cons_succ]
            refine reg_one (i := 9) (by kernel_rfl) rfl rfl (wpList_puts rfl 38 _ _ rfl ⟨w3.heap.size, 0, none⟩ rfl va' ((F0.map Fd.cells).length + 1) vc' rfl (by kernel_rfl) _ (cell_of (k := 0) r8 rfl) (frozen_of_row _ _ _ _ _ r8) fun Z9 hZ9 => ?_)
            rw [← hZ9] at q1 q2 q3
            have nb := fun b (hb : b < Z.heap.size) (h1' : b ≠ w3.heap.size) (h2' : b ∉ blk da') => (q2 b (by have := hbZ3.out.size; omega) h1' h2').trans (hbZ3.out.block b hb)
            have e12 := (nb A12 (by omega) (by omega) (hn12 h4 hR4 l12 hPl hzU hbU)).trans h2
            have e13 := (nb A13 (by omega) (by omega) (hn12 h4 hR5 l13 hPl hzU hbU)).trans h3
            refine wpList_nil ⟨⟨e12, e13⟩, fun _ => ?_⟩
            simp only [Act.put, List.getElem_toArray, List.getElem_cons_succ, List.getElem_cons_zero, List.setIfInBounds_toArray, List.set_cons_zero, List.set_cons_succ]
            refine wpAnyH_done (by kernel_rfl) ?_ _
            gi_wp2
            have hz3 := hbZ3.out.size
            have hq3 := q3.size
            refine ⟨h1.p.round (by omega) nb, ⟨nb _ (by omega) (by omega) (hnV h4 (by omega) (by omega)), nb _ (by omega) (by omega) (hnV h4 (by omega) (by omega)), nb _ (by omega) (by omega) (hnV h4 (by omega) (by omega))⟩, va', vc', ⟨?_, h1.m.keep fun E hE => ?_⟩, e12, e13, fun g hg => ?_, by omega⟩
            · rw [hF1.out, hqv]; rw [List.map_append]; exact q1
            · refine nb E (h1.m.lt hE) (fun e => ?_) (fun e => ?_)
              · have := (h1.m.at_ E hE).2
                rw [e, h1.p.c] at this; cases this
              · have hx := (h1.m.at_ E hE).2
                obtain ⟨ob, ho1, ho2⟩ := own_cells h1.p.o E e
                rw [hx] at ho1; cases ho1; cases ho2
            · rcases g8.bk g hg with e | e
              · exact h4 g e
              · right; omega
          · rintro e1 Z1 ⟨rfl, hb1⟩
            have hS1 : Hid (Z1.heap[A12]? = some (objEv X) ∧ Z1.heap[A13]? = some (objEv Y)) := ⟨blk_onR hS0.out.1 hb1, blk_onR hS0.out.2 hb1⟩
            have p1 : Hid (PutS w3 Z1 (w3.heap.size + 1) w3.heap.size 38 84 7 da' dc' (F0.map Fd.cells)) := p0.out.later hb1
            have hbZ1 : Hid (Below Z.heap.size Z Z1) := bthen hbZ0.out hb1
            clear hb1
            refine ⟨_, rfl, wpList_nil ⟨hS1.out, fun _ => ?_⟩⟩
            simp only [Act.put, List.getElem_toArray, List.getElem_cons_succ, List.getElem_cons_zero, List.setIfInBounds_toArray, List.set_cons_zero, List.set_cons_succ]
            refine reg_two (i := 0) (j := 4) (by kernel_rfl) rfl rfl rfl rfl (wpList_load1 rfl 38 _ rfl ⟨w3.heap.size, 0, none⟩ rfl _ Tryz.underlying38 rfl (.slice da' (F0.map Fd.cells).length dc') (cell_of (k := 0) p1.out.c rfl) (wpList_nil ⟨hS1.out, fun _ => ?_⟩)) (wpList_callf1 rfl 48 _ _ rfl (.agg Y.cells.toArray) rfl (cf_fn Tryz.func48 (by kernel_rfl) (by kernel_rfl) _ _) _ (place_any3 Y _) ?_)
            · simp only [Act.put, List.getElem_toArray, List.getElem_cons_succ, List.getElem_cons_zero, List.setIfInBounds_toArray, List.set_cons_zero, List.set_cons_succ]
              refine reg_one (i := 4) (by kernel_rfl) rfl rfl (wpList_callf1 rfl 48 _ _ rfl (.agg Y.cells.toArray) rfl (cf_fn Tryz.func48 (by kernel_rfl) (by kernel_rfl) _ _) _ (place_any3 Y _) ?_)
              rintro e2 Z2 ⟨rfl, hb2⟩
              have hS2 : Hid (Z2.heap[A12]? = some (objEv X) ∧ Z2.heap[A13]? = some (objEv Y)) := ⟨blk_onR hS1.out.1 hb2, blk_onR hS1.out.2 hb2⟩
              have p2 : Hid (PutS w3 Z2 (w3.heap.size + 1) w3.heap.size 38 84 7 da' dc' (F0.map Fd.cells)) := p1.out.later hb2
              have hbZ2 : Hid (Below Z.heap.size Z Z2) := bthen hbZ1.out hb2
              clear hb2
              refine ⟨_, rfl, wpList_nil ⟨hS2.out, fun _ => ?_⟩⟩
              simp only [Act.put, List.getElem_toArray, List.getElem_cons_succ, List.getElem_cons_zero, List.setIfInBounds_toArray, List.set_cons_zero, List.set_cons_succ]
              refine reg_one (i := 6) (by kernel_rfl) rfl rfl (wpList_callf3 rfl 47 _ _ _ _ rfl (spV X.fn X.pc) (spV Y.fn Y.pc) (.int .i64 z) rfl rfl rfl (cf_fn Tryz.func47 (by kernel_rfl) (by kernel_rfl) _ _) _ (found_any X.fn X.pc Y.fn Y.pc z _) ?_)
              rintro e3 Z3 ⟨rfl, hb3⟩
              have hS3 : Hid (Z3.heap[A12]? = some (objEv X) ∧ Z3.heap[A13]? = some (objEv Y)) := ⟨blk_onR hS2.out.1 hb3, blk_onR hS2.out.2 hb3⟩
              have p3 : Hid (PutS w3 Z3 (w3.heap.size + 1) w3.heap.size 38 84 7 da' dc' (F0.map Fd.cells)) := p2.out.later hb3
              have hbZ3 : Hid (Below Z.heap.size Z Z3) := bthen hbZ2.out hb3
              clear hb3
              refine ⟨_, rfl, wpList_nil ⟨hS3.out, fun _ => ?_⟩⟩
              obtain ⟨q, hqv⟩ : ∃ q, fdR X.fn X.pc Y.fn Y.pc z = q := ⟨_, rfl⟩
              rw [hqv]
              simp only [Act.put, List.getElem_toArray, List.getElem_cons_succ, List.getElem_cons_zero, List.setIfInBounds_toArray, List.set_cons_zero, List.set_cons_succ]
              refine reg_one (i := 7) (by kernel_rfl) rfl rfl (wpList_buildSlice rfl 38 84 1 _ rfl #[.int .i64 q.k, .int .i64 q.af, .int .i64 q.ap, .int .i64 q.bf, .int .i64 q.bp, .int .i64 q.n, .int .i64 q.y] iF _ Tryz.underlying38 hiF hzF (by rw [hsF]; omega) (by rw [hsF]; omega) (by simp only [hsF]; kernel_rfl) (wpList_nil ⟨⟨blk_onR hS3.out.1 (boxed _ _), blk_onR hS3.out.2 (boxed _ _)⟩, fun _ => ?_⟩))
              simp only [Act.put, List.getElem_toArray, List.getElem_cons_succ, List.getElem_cons_zero, List.setIfInBounds_toArray, List.set_cons_zero, List.set_cons_succ]
              refine reg_one (i := 8) (by kernel_rfl) rfl rfl (wpList_app1 (wr := Z3) rfl (.tmp 52) (.tmp 59) 38 rfl (w3.heap.size + 1) 84 iF _ 7 56 Tryz.underlying38 hiF hzF hsF hbF rfl (by decide) da' dc' (F0.map Fd.cells) rfl p3.out.o [.int .i64 q.k, .int .i64 q.af, .int .i64 q.ap, .int .i64 q.bf, .int .i64 q.bp, .int .i64 q.n, .int .i64 q.y] rfl rfl (by simp [Value.oneCell']) (by have := hmH.out; unfold maxLen; omega) (by have := hmH.out; omega) p3.out.l.2 ?_)
              intro va' vc' Z8 g8
              obtain ⟨r8, q1, q2, q3⟩ := p3.out.add g8
              have hz3s := hbZ3.out.size
              refine wpList_nil ⟨⟨(g8.kp _ (by omega) (hn12 h4 hR4 l12 hPl hzU hbU)).trans hS3.out.1, (g8.kp _ (by omega) (hn12 h4 hR5 l13 hPl hzU hbU)).trans hS3.out.2⟩, fun hS8 => ?_⟩
              simp only [Act.put, List.getElem_toArray, List.getElem_cons_succ, List.getElem_cons_zero, List.setIfInBounds_toArray, List.set_cons_zero, List.set_cons_succ]
              refine reg_one (i := 9) (by kernel_rfl) rfl rfl (wpList_puts rfl 38 _ _ rfl ⟨w3.heap.size, 0, none⟩ rfl va' ((F0.map Fd.cells).length + 1) vc' rfl (by kernel_rfl) _ (cell_of (k := 0) r8 rfl) (frozen_of_row _ _ _ _ _ r8) fun Z9 hZ9 => ?_)
              rw [← hZ9] at q1 q2 q3
              have nb := fun b (hb : b < Z.heap.size) (h1' : b ≠ w3.heap.size) (h2' : b ∉ blk da') => (q2 b (by have := hbZ3.out.size; omega) h1' h2').trans (hbZ3.out.block b hb)
              have e12 := (nb A12 (by omega) (by omega) (hn12 h4 hR4 l12 hPl hzU hbU)).trans h2
              have e13 := (nb A13 (by omega) (by omega) (hn12 h4 hR5 l13 hPl hzU hbU)).trans h3
              refine wpList_nil ⟨⟨e12, e13⟩, fun _ => ?_⟩
              simp only [Act.put, List.getElem_toArray, List.getElem_cons_succ, List.getElem_cons_zero, List.setIfInBounds_toArray, List.set_cons_zero, List.set_cons_succ]
              refine wpAnyH_done (by kernel_rfl) ?_ _
              gi_wp2
              have hz3 := hbZ3.out.size
              have hq3 := q3.size
              refine ⟨h1.p.round (by omega) nb, ⟨nb _ (by omega) (by omega) (hnV h4 (by omega) (by omega)), nb _ (by omega) (by omega) (hnV h4 (by omega) (by omega)), nb _ (by omega) (by omega) (hnV h4 (by omega) (by omega))⟩, va', vc', ⟨?_, h1.m.keep fun E hE => ?_⟩, e12, e13, fun g hg => ?_, by omega⟩
              · rw [hF1.out, hqv]; rw [List.map_append]; exact q1
              · refine nb E (h1.m.lt hE) (fun e => ?_) (fun e => ?_)
                · have := (h1.m.at_ E hE).2
                  rw [e, h1.p.c] at this; cases this
                · have hx := (h1.m.at_ E hE).2
                  obtain ⟨ob, ho1, ho2⟩ := own_cells h1.p.o E e
                  rw [hx] at ho1; cases ho1; cases ho2
              · rcases g8.bk g hg with e | e
                · exact h4 g e
                · right; omega
            · rintro e2 Z2 ⟨rfl, hb2⟩
              have hS2 : Hid (Z2.heap[A12]? = some (objEv X) ∧ Z2.heap[A13]? = some (objEv Y)) := ⟨blk_onR hS1.out.1 hb2, blk_onR hS1.out.2 hb2⟩
              have p2 : Hid (PutS w3 Z2 (w3.heap.size + 1) w3.heap.size 38 84 7 da' dc' (F0.map Fd.cells)) := p1.out.later hb2
              have hbZ2 : Hid (Below Z.heap.size Z Z2) := bthen hbZ1.out hb2
              clear hb2
              refine ⟨_, rfl, wpList_nil ⟨hS2.out, fun _ => ?_⟩⟩
              simp only [Act.put, List.getElem_toArray, List.getElem_cons_succ, List.getElem_cons_zero, List.setIfInBounds_toArray, List.set_cons_zero, List.set_cons_succ]
              refine reg_two (i := 0) (j := 6) (by kernel_rfl) rfl rfl rfl rfl (wpList_load1 rfl 38 _ rfl ⟨w3.heap.size, 0, none⟩ rfl _ Tryz.underlying38 rfl (.slice da' (F0.map Fd.cells).length dc') (cell_of (k := 0) p2.out.c rfl) (wpList_nil ⟨hS2.out, fun _ => ?_⟩)) (wpList_callf3 rfl 47 _ _ _ _ rfl (spV X.fn X.pc) (spV Y.fn Y.pc) (.int .i64 z) rfl rfl rfl (cf_fn Tryz.func47 (by kernel_rfl) (by kernel_rfl) _ _) _ (found_any X.fn X.pc Y.fn Y.pc z _) ?_)
              · simp only [Act.put, List.getElem_toArray, List.getElem_cons_succ, List.getElem_cons_zero, List.setIfInBounds_toArray, List.set_cons_zero, List.set_cons_succ]
                refine reg_one (i := 6) (by kernel_rfl) rfl rfl (wpList_callf3 rfl 47 _ _ _ _ rfl (spV X.fn X.pc) (spV Y.fn Y.pc) (.int .i64 z) rfl rfl rfl (cf_fn Tryz.func47 (by kernel_rfl) (by kernel_rfl) _ _) _ (found_any X.fn X.pc Y.fn Y.pc z _) ?_)
                rintro e3 Z3 ⟨rfl, hb3⟩
                have hS3 : Hid (Z3.heap[A12]? = some (objEv X) ∧ Z3.heap[A13]? = some (objEv Y)) := ⟨blk_onR hS2.out.1 hb3, blk_onR hS2.out.2 hb3⟩
                have p3 : Hid (PutS w3 Z3 (w3.heap.size + 1) w3.heap.size 38 84 7 da' dc' (F0.map Fd.cells)) := p2.out.later hb3
                have hbZ3 : Hid (Below Z.heap.size Z Z3) := bthen hbZ2.out hb3
                clear hb3
                refine ⟨_, rfl, wpList_nil ⟨hS3.out, fun _ => ?_⟩⟩
                obtain ⟨q, hqv⟩ : ∃ q, fdR X.fn X.pc Y.fn Y.pc z = q := ⟨_, rfl⟩
                rw [hqv]
                simp only [Act.put, List.getElem_toArray, List.getElem_cons_succ, List.getElem_cons_zero, List.setIfInBounds_toArray, List.set_cons_zero, List.set_cons_succ]
                refine reg_one (i := 7) (by kernel_rfl) rfl rfl (wpList_buildSlice rfl 38 84 1 _ rfl #[.int .i64 q.k, .int .i64 q.af, .int .i64 q.ap, .int .i64 q.bf, .int .i64 q.bp, .int .i64 q.n, .int .i64 q.y] iF _ Tryz.underlying38 hiF hzF (by rw [hsF]; omega) (by rw [hsF]; omega) (by simp only [hsF]; kernel_rfl) (wpList_nil ⟨⟨blk_onR hS3.out.1 (boxed _ _), blk_onR hS3.out.2 (boxed _ _)⟩, fun _ => ?_⟩))
                simp only [Act.put, List.getElem_toArray, List.getElem_cons_succ, List.getElem_cons_zero, List.setIfInBounds_toArray, List.set_cons_zero, List.set_cons_succ]
                refine reg_one (i := 8) (by kernel_rfl) rfl rfl (wpList_app1 (wr := Z3) rfl (.tmp 52) (.tmp 59) 38 rfl (w3.heap.size + 1) 84 iF _ 7 56 Tryz.underlying38 hiF hzF hsF hbF rfl (by decide) da' dc' (F0.map Fd.cells) rfl p3.out.o [.int .i64 q.k, .int .i64 q.af, .int .i64 q.ap, .int .i64 q.bf, .int .i64 q.bp, .int .i64 q.n, .int .i64 q.y] rfl rfl (by simp [Value.oneCell']) (by have := hmH.out; unfold maxLen; omega) (by have := hmH.out; omega) p3.out.l.2 ?_)
                intro va' vc' Z8 g8
                obtain ⟨r8, q1, q2, q3⟩ := p3.out.add g8
                have hz3s := hbZ3.out.size
                refine wpList_nil ⟨⟨(g8.kp _ (by omega) (hn12 h4 hR4 l12 hPl hzU hbU)).trans hS3.out.1, (g8.kp _ (by omega) (hn12 h4 hR5 l13 hPl hzU hbU)).trans hS3.out.2⟩, fun hS8 => ?_⟩
                simp only [Act.put, List.getElem_toArray, List.getElem_cons_succ, List.getElem_cons_zero, List.setIfInBounds_toArray, List.set_cons_zero, List.set_cons_succ]
                refine reg_one (i := 9) (by kernel_rfl) rfl rfl (wpList_puts rfl 38 _ _ rfl ⟨w3.heap.size, 0, none⟩ rfl va' ((F0.map Fd.cells).length + 1) vc' rfl (by kernel_rfl) _ (cell_of (k := 0) r8 rfl) (frozen_of_row _ _ _ _ _ r8) fun Z9 hZ9 => ?_)
                rw [← hZ9] at q1 q2 q3
                have nb := fun b (hb : b < Z.heap.size) (h1' : b ≠ w3.heap.size) (h2' : b ∉ blk da') => (q2 b (by have := hbZ3.out.size; omega) h1' h2').trans (hbZ3.out.block b hb)
                have e12 := (nb A12 (by omega) (by omega) (hn12 h4 hR4 l12 hPl hzU hbU)).trans h2
                have e13 := (nb A13 (by omega) (by omega) (hn12 h4 hR5 l13 hPl hzU hbU)).trans h3
                refine wpList_nil ⟨⟨e12, e13⟩, fun _ => ?_⟩
                simp only [Act.put, List.getElem_toArray, List.getElem_cons_succ, List.getElem_cons_zero, List.setIfInBounds_toArray, List.set_cons_zero, List.set_cons_succ]
                refine wpAnyH_done (by kernel_rfl) ?_ _
                gi_wp2
                have hz3 := hbZ3.out.size
                have hq3 := q3.size
                refine ⟨h1.p.round (by omega) nb, ⟨nb _ (by omega) (by omega) (hnV h4 (by omega) (by omega)), nb _ (by omega) (by omega) (hnV h4 (by omega) (by omega)), nb _ (by omega) (by omega) (hnV h4 (by omega) (by omega))⟩, va', vc', ⟨?_, h1.m.keep fun E hE => ?_⟩, e12, e13, fun g hg => ?_, by omega⟩
                · rw [hF1.out, hqv]; rw [List.map_append]; exact q1
                · refine nb E (h1.m.lt hE) (fun e => ?_) (fun e => ?_)
                  · have := (h1.m.at_ E hE).2
                    rw [e, h1.p.c] at this; cases this
                  · have hx := (h1.m.at_ E hE).2
                    obtain ⟨ob, ho1, ho2⟩ := own_cells h1.p.o E e
                    rw [hx] at ho1; cases ho1; cases ho2
                · rcases g8.bk g hg with e | e
                  · exact h4 g e
                  · right; omega
              · rintro e3 Z3 ⟨rfl, hb3⟩
                have hS3 : Hid (Z3.heap[A12]? = some (objEv X) ∧ Z3.heap[A13]? = some (objEv Y)) := ⟨blk_onR hS2.out.1 hb3, blk_onR hS2.out.2 hb3⟩
                have p3 : Hid (PutS w3 Z3 (w3.heap.size + 1) w3.heap.size 38 84 7 da' dc' (F0.map Fd.cells)) := p2.out.later hb3
                have hbZ3 : Hid (Below Z.heap.size Z Z3) := bthen hbZ2.out hb3
                clear hb3
                refine ⟨_, rfl, wpList_nil ⟨hS3.out, fun _ => ?_⟩⟩
                obtain ⟨q, hqv⟩ : ∃ q, fdR X.fn X.pc Y.fn Y.pc z = q := ⟨_, rfl⟩
                rw [hqv]
                simp only [Act.put, List.getElem_toArray, List.getElem_cons_succ, List.getElem_cons_zero, List.setIfInBounds_toArray, List.set_cons_zero, List.set_cons_succ]
                refine reg_two (i := 0) (j := 7) (by kernel_rfl) rfl rfl rfl rfl (wpList_load1 rfl 38 _ rfl ⟨w3.heap.size, 0, none⟩ rfl _ Tryz.underlying38 rfl (.slice da' (F0.map Fd.cells).length dc') (cell_of (k := 0) p3.out.c rfl) (wpList_nil ⟨hS3.out, fun _ => ?_⟩)) (wpList_buildSlice rfl 38 84 1 _ rfl #[.int .i64 q.k, .int .i64 q.af, .int .i64 q.ap, .int .i64 q.bf, .int .i64 q.bp, .int .i64 q.n, .int .i64 q.y] iF _ Tryz.underlying38 hiF hzF (by rw [hsF]; omega) (by rw [hsF]; omega) (by simp only [hsF]; kernel_rfl) (wpList_nil ⟨⟨blk_onR hS3.out.1 (boxed _ _), blk_onR hS3.out.2 (boxed _ _)⟩, fun _ => ?_⟩))
                · simp only [Act.put, List.getElem_toArray, List.getElem_cons_succ, List.getElem_cons_zero, List.setIfInBounds_toArray, List.set_cons_zero, List.set_cons_succ]
                  refine reg_one (i := 7) (by kernel_rfl) rfl rfl (wpList_buildSlice rfl 38 84 1 _ rfl #[.int .i64 q.k, .int .i64 q.af, .int .i64 q.ap, .int .i64 q.bf, .int .i64 q.bp, .int .i64 q.n, .int .i64 q.y] iF _ Tryz.underlying38 hiF hzF (by rw [hsF]; omega) (by rw [hsF]; omega) (by simp only [hsF]; kernel_rfl) (wpList_nil ⟨⟨blk_onR hS3.out.1 (boxed _ _), blk_onR hS3.out.2 (boxed _ _)⟩, fun _ => ?_⟩))
                  simp only [Act.put, List.getElem_toArray, List.getElem_cons_succ, List.getElem_cons_zero, List.setIfInBounds_toArray, List.set_cons_zero, List.set_cons_succ]
                  refine reg_one (i := 8) (by kernel_rfl) rfl rfl (wpList_app1 (wr := Z3) rfl (.tmp 52) (.tmp 59) 38 rfl (w3.heap.size + 1) 84 iF _ 7 56 Tryz.underlying38 hiF hzF hsF hbF rfl (by decide) da' dc' (F0.map Fd.cells) rfl p3.out.o [.int .i64 q.k, .int .i64 q.af, .int .i64 q.ap, .int .i64 q.bf, .int .i64 q.bp, .int .i64 q.n, .int .i64 q.y] rfl rfl (by simp [Value.oneCell']) (by have := hmH.out; unfold maxLen; omega) (by have := hmH.out; omega) p3.out.l.2 ?_)
                  intro va' vc' Z8 g8
                  obtain ⟨r8, q1, q2, q3⟩ := p3.out.add g8
                  have hz3s := hbZ3.out.size
                  refine wpList_nil ⟨⟨(g8.kp _ (by omega) (hn12 h4 hR4 l12 hPl hzU hbU)).trans hS3.out.1, (g8.kp _ (by omega) (hn12 h4 hR5 l13 hPl hzU hbU)).trans hS3.out.2⟩, fun hS8 => ?_⟩
                  simp only [Act.put, List.getElem_toArray, List.getElem_cons_succ, List.getElem_cons_zero, List.setIfInBounds_toArray, List.set_cons_zero, List.set_cons_succ]
                  refine reg_one (i := 9) (by kernel_rfl) rfl rfl (wpList_puts rfl 38 _ _ rfl ⟨w3.heap.size, 0, none⟩ rfl va' ((F0.map Fd.cells).length + 1) vc' rfl (by kernel_rfl) _ (cell_of (k := 0) r8 rfl) (frozen_of_row _ _ _ _ _ r8) fun Z9 hZ9 => ?_)
                  rw [← hZ9] at q1 q2 q3
                  have nb := fun b (hb : b < Z.heap.size) (h1' : b ≠ w3.heap.size) (h2' : b ∉ blk da') => (q2 b (by have := hbZ3.out.size; omega) h1' h2').trans (hbZ3.out.block b hb)
                  have e12 := (nb A12 (by omega) (by omega) (hn12 h4 hR4 l12 hPl hzU hbU)).trans h2
                  have e13 := (nb A13 (by omega) (by omega) (hn12 h4 hR5 l13 hPl hzU hbU)).trans h3
                  refine wpList_nil ⟨⟨e12, e13⟩, fun _ => ?_⟩
                  simp only [Act.put, List.getElem_toArray, List.getElem_cons_succ, List.getElem_cons_zero, List.setIfInBounds_toArray, List.set_cons_zero, List.set_cons_succ]
                  refine wpAnyH_done (by kernel_rfl) ?_ _
                  gi_wp2
                  have hz3 := hbZ3.out.size
                  have hq3 := q3.size
                  refine ⟨h1.p.round (by omega) nb, ⟨nb _ (by omega) (by omega) (hnV h4 (by omega) (by omega)), nb _ (by omega) (by omega) (hnV h4 (by omega) (by omega)), nb _ (by omega) (by omega) (hnV h4 (by omega) (by omega))⟩, va', vc', ⟨?_, h1.m.keep fun E hE => ?_⟩, e12, e13, fun g hg => ?_, by omega⟩
                  · rw [hF1.out, hqv]; rw [List.map_append]; exact q1
                  · refine nb E (h1.m.lt hE) (fun e => ?_) (fun e => ?_)
                    · have := (h1.m.at_ E hE).2
                      rw [e, h1.p.c] at this; cases this
                    · have hx := (h1.m.at_ E hE).2
                      obtain ⟨ob, ho1, ho2⟩ := own_cells h1.p.o E e
                      rw [hx] at ho1; cases ho1; cases ho2
                  · rcases g8.bk g hg with e | e
                    · exact h4 g e
                    · right; omega
                · simp only [Act.put, List.getElem_toArray, List.getElem_cons_succ, List.getElem_cons_zero, List.setIfInBounds_toArray, List.set_cons_zero, List.set_cons_succ]
                  refine reg_one (i := 0) (by kernel_rfl) rfl rfl (wpList_load1 rfl 38 _ rfl ⟨w3.heap.size, 0, none⟩ rfl _ Tryz.underlying38 rfl (.slice da' (F0.map Fd.cells).length dc') (cell_of (k := 0) (p3.out.later (boxed _ _)).c rfl) (wpList_nil ⟨⟨blk_onR hS3.out.1 (boxed _ _), blk_onR hS3.out.2 (boxed _ _)⟩, fun _ => ?_⟩))
                  simp only [Act.put, List.getElem_toArray, List.getElem_cons_succ, List.getElem_cons_zero, List.setIfInBounds_toArray, List.set_cons_zero, List.set_cons_succ]
                  refine reg_one (i := 8) (by kernel_rfl) rfl rfl (wpList_app1 (wr := Z3) rfl (.tmp 52) (.tmp 59) 38 rfl (w3.heap.size + 1) 84 iF _ 7 56 Tryz.underlying38 hiF hzF hsF hbF rfl (by decide) da' dc' (F0.map Fd.cells) rfl p3.out.o [.int .i64 q.k, .int .i64 q.af, .int .i64 q.ap, .int .i64 q.bf, .int .i64 q.bp, .int .i64 q.n, .int .i64 q.y] rfl rfl (by simp [Value.oneCell']) (by have := hmH.out; unfold maxLen; omega) (by have := hmH.out; omega) p3.out.l.2 ?_)
                  intro va' vc' Z8 g8
                  obtain ⟨r8, q1, q2, q3⟩ := p3.out.add g8
                  have hz3s := hbZ3.out.size
                  refine wpList_nil ⟨⟨(g8.kp _ (by omega) (hn12 h4 hR4 l12 hPl hzU hbU)).trans hS3.out.1, (g8.kp _ (by omega) (hn12 h4 hR5 l13 hPl hzU hbU)).trans hS3.out.2⟩, fun hS8 => ?_⟩
                  simp only [Act.put, List.getElem_toArray, List.getElem_cons_succ, List.getElem_cons_zero, List.setIfInBounds_toArray, List.set_cons_zero, List.set_cons_succ]
                  refine reg_one (i := 9) (by kernel_rfl) rfl rfl (wpList_puts rfl 38 _ _ rfl ⟨w3.heap.size, 0, none⟩ rfl va' ((F0.map Fd.cells).length + 1) vc' rfl (by kernel_rfl) _ (cell_of (k := 0) r8 rfl) (frozen_of_row _ _ _ _ _ r8) fun Z9 hZ9 => ?_)
                  rw [← hZ9] at q1 q2 q3
                  have nb := fun b (hb : b < Z.heap.size) (h1' : b ≠ w3.heap.size) (h2' : b ∉ blk da') => (q2 b (by have := hbZ3.out.size; omega) h1' h2').trans (hbZ3.out.block b hb)
                  have e12 := (nb A12 (by omega) (by omega) (hn12 h4 hR4 l12 hPl hzU hbU)).trans h2
                  have e13 := (nb A13 (by omega) (by omega) (hn12 h4 hR5 l13 hPl hzU hbU)).trans h3
                  refine wpList_nil ⟨⟨e12, e13⟩, fun _ => ?_⟩
                  simp only [Act.put, List.getElem_toArray, List.getElem_cons_succ, List.getElem_cons_zero, List.setIfInBounds_toArray, List.set_cons_zero, List.set_cons_succ]
                  refine wpAnyH_done (by kernel_rfl) ?_ _
                  gi_wp2
                  have hz3 := hbZ3.out.size
                  have hq3 := q3.size
                  refine ⟨h1.p.round (by omega) nb, ⟨nb _ (by omega) (by omega) (hnV h4 (by omega) (by omega)), nb _ (by omega) (by omega) (hnV h4 (by omega) (by omega)), nb _ (by omega) (by omega) (hnV h4 (by omega) (by omega))⟩, va', vc', ⟨?_, h1.m.keep fun E hE => ?_⟩, e12, e13, fun g hg => ?_, by omega⟩
                  · rw [hF1.out, hqv]; rw [List.map_append]; exact q1
                  · refine nb E (h1.m.lt hE) (fun e => ?_) (fun e => ?_)
                    · have := (h1.m.at_ E hE).2
                      rw [e, h1.p.c] at this; cases this
                    · have hx := (h1.m.at_ E hE).2
                      obtain ⟨ob, ho1, ho2⟩ := own_cells h1.p.o E e
                      rw [hx] at ho1; cases ho1; cases ho2
                  · rcases g8.bk g hg with e | e
                    · exact h4 g e
                    · right; omega
        case done =>
          rintro E ys Z hE hys ⟨da', dc', h1, h2, h3, h4, h5⟩ hK'
          have hm : Hid (RaS w w3 Z v A6 da' dc' (gaL v l (D.take (k + 1))) (E :: Ds)) := ⟨by (have := h1.p; rw [hys, ← hgA.out] at this; exact this), h1.m.more (by omega) (fun q => by have := hDl E q; omega) hK'⟩
          clear h1 h2 h3 h4 h5 hK' hys
          go_wp2
          refine ⟨⟨k + 1, E :: Ds, _, _, _, _, _, _, _, _, _, _, _, _, _, _, _, _, _, _, _, _, _, _, _, _, _, _, _, _, _, _, _, _, da', dc', by omega, hm, rfl⟩, ?_⟩
          simp [intOf]
          omega
        case stop =>
          rintro E cd pre Z _ _ h _
          exact h.elim
      have ix0 : ∀ wx, (Instr.indexAt 71 (.pointer (some ⟨Bp, 0, none⟩)) (.int .i64 0)).run Tryz.prog wx = .ok (.pointer (some ⟨Bp, 0, none⟩)) wx := ix2 Bp 0 (by omega)
      have ix1 : ∀ wx, (Instr.indexAt 71 (.pointer (some ⟨Bp, 0, none⟩)) (.int .i64 1)).run Tryz.prog wx = .ok (.pointer (some ⟨Bp, 1, none⟩)) wx := ix2 Bp 1 (by omega)
      have hpB : Bp < V.heap.size := (Array.getElem?_eq_some_iff.mp hp1).1
      have hzE : Hid (∃ zE : List Value, zE.length = 26 ∧ ∀ w, (zeroValue 69).run Tryz.prog w = .ok (.agg zE.toArray) w) := zeroEvR
      obtain ⟨zE, hzl, hzv⟩ := hzE.out
      refine wp_region_noPanic ?_
      refine wp_region_held_drew (S := fun w' => Below V.heap.size V w') (by kernel_rfl) (bey_drew V) (fun hH => ?_)
      refine reg_move (i := 0) rfl (by kernel_rfl) (by kernel_rfl) (by kernel_rfl) (fun _ _ _ _ h => h) rfl (.slice la l.length lc) (fun _ => rfl) hH ?_
      simp only [Act.put, List.getElem_toArray, List.getElem_cons_succ, List.getElem_cons_zero, List.setIfInBounds_toArray, List.set_cons_zero, List.set_cons_succ]
      refine reg_move (i := 1) rfl (by kernel_rfl) (by kernel_rfl) (by kernel_rfl) (fun _ _ _ _ h => h) rfl (.pointer (some ⟨Bp, 0, none⟩)) (fun wx => by unfold execOp; exact run_value_of (ix0 wx)) hH ?_
      simp only [Act.put, List.getElem_toArray, List.getElem_cons_succ, List.getElem_cons_zero, List.setIfInBounds_toArray, List.set_cons_zero, List.set_cons_succ]
      refine reg_load1 (i := 2) rfl (by kernel_rfl) (by kernel_rfl) (by kernel_rfl) (fun _ _ _ _ h => h) rfl 3 _ rfl ⟨Bp, 0, none⟩ rfl _ Tryz.underlying3 rfl (.int .i64 (pi : Int)) (fun w' h' => cell_of (k := 0) (blk_onR hp1 h') rfl) hH ?_
      simp only [Act.put, List.getElem_toArray, List.getElem_cons_succ, List.getElem_cons_zero, List.setIfInBounds_toArray, List.set_cons_zero, List.set_cons_succ]
      refine reg_move (i := 3) rfl (by kernel_rfl) (by kernel_rfl) (by kernel_rfl) (fun _ _ _ _ h => h) rfl (.pointer (some ⟨bi, oi, none⟩)) (fun wx => by unfold execOp; exact run_value_of (xi wx)) hH ?_
      simp only [Act.put, List.getElem_toArray, List.getElem_cons_succ, List.getElem_cons_zero, List.setIfInBounds_toArray, List.set_cons_zero, List.set_cons_succ]
      refine reg_load (i := 4) rfl (by kernel_rfl) (by kernel_rfl) (by kernel_rfl) (fun _ _ _ _ h => h) rfl 69 _ rfl bi oi rfl X.cells _ (fun w' h' => range_block ri (h'.block bi hbi)) huE.out rfl infoE26 hH ?_
      simp only [Act.put, List.getElem_toArray, List.getElem_cons_succ, List.getElem_cons_zero, List.setIfInBounds_toArray, List.set_cons_zero, List.set_cons_succ]
      refine reg_move (i := 5) rfl (by kernel_rfl) (by kernel_rfl) (by kernel_rfl) (fun _ _ _ _ h => h) rfl (.slice la l.length lc) (fun _ => rfl) hH ?_
      simp only [Act.put, List.getElem_toArray, List.getElem_cons_succ, List.getElem_cons_zero, List.setIfInBounds_toArray, List.set_cons_zero, List.set_cons_succ]
      refine reg_move (i := 6) rfl (by kernel_rfl) (by kernel_rfl) (by kernel_rfl) (fun _ _ _ _ h => h) rfl (.pointer (some ⟨Bp, 1, none⟩)) (fun wx => by unfold execOp; exact run_value_of (ix1 wx)) hH ?_
      simp only [Act.put, List.getElem_toArray, List.getElem_cons_succ, List.getElem_cons_zero, List.setIfInBounds_toArray, List.set_cons_zero, List.set_cons_succ]
      refine reg_load1 (i := 7) rfl (by kernel_rfl) (by kernel_rfl) (by kernel_rfl) (fun _ _ _ _ h => h) rfl 3 _ rfl ⟨Bp, 1, none⟩ rfl _ Tryz.underlying3 rfl (.int .i64 (pj : Int)) (fun w' h' => cell_of (k := 1) (blk_onR hp1 h') rfl) hH ?_
      simp only [Act.put, List.getElem_toArray, List.getElem_cons_succ, List.getElem_cons_zero, List.setIfInBounds_toArray, List.set_cons_zero, List.set_cons_succ]
      refine reg_move (i := 8) rfl (by kernel_rfl) (by kernel_rfl) (by kernel_rfl) (fun _ _ _ _ h => h) rfl (.pointer (some ⟨bj, oj, none⟩)) (fun wx => by unfold execOp; exact run_value_of (xj wx)) hH ?_
      simp only [Act.put, List.getElem_toArray, List.getElem_cons_succ, List.getElem_cons_zero, List.setIfInBounds_toArray, List.set_cons_zero, List.set_cons_succ]
      refine reg_load (i := 9) rfl (by kernel_rfl) (by kernel_rfl) (by kernel_rfl) (fun _ _ _ _ h => h) rfl 69 _ rfl bj oj rfl Y.cells _ (fun w' h' => range_block rj (h'.block bj hbj)) huE.out rfl infoE26 hH ?_
      simp only [Act.put, List.getElem_toArray, List.getElem_cons_succ, List.getElem_cons_zero, List.setIfInBounds_toArray, List.set_cons_zero, List.set_cons_succ]
      refine reg_two (i := 10) (j := 11) (by kernel_rfl) rfl rfl rfl rfl (wpList_alloc_big rfl 69 rfl hzv (wpList_nil ⟨bthen hH (boxed _ _), fun _ => ?_⟩)) (wpList_alloc_big rfl 69 rfl hzv (wpList_nil ⟨bthen hH (boxed _ _), fun _ => ?_⟩))
      · simp only [Act.put, List.getElem_toArray, List.getElem_cons_succ, List.getElem_cons_zero, List.setIfInBounds_toArray, List.set_cons_zero, List.set_cons_succ]
        refine reg_one (i := 11) (by kernel_rfl) rfl rfl (wpList_alloc_big rfl 69 rfl hzv (wpList_nil ⟨bthen (bthen hH (boxed _ _)) (boxed _ _), fun _ => ?_⟩))
        simp only [Act.put, List.getElem_toArray, List.getElem_cons_succ, List.getElem_cons_zero, List.setIfInBounds_toArray, List.set_cons_zero, List.set_cons_succ]
        obtain ⟨Y0, hY0⟩ : ∃ Y0, Y0 = (V.drew.alloc (.cells zE.toArray 69)).alloc (.cells zE.toArray 69) := ⟨_, rfl⟩
        have t0 : Hid (Y0.heap[V.drew.heap.size]? = some (.cells zE.toArray 69) ∧ Y0.heap[(V.drew.alloc (.cells zE.toArray 69)).heap.size]? = some (.cells zE.toArray 69) ∧ Below V.heap.size V Y0 ∧ V.drew.heap.size ≠ (V.drew.alloc (.cells zE.toArray 69)).heap.size ∧ V.heap.size ≤ V.drew.heap.size ∧ V.heap.size ≤ (V.drew.alloc (.cells zE.toArray 69)).heap.size) := by (rw [hY0]; exact two_zs1 V zE.toArray 69)
        rw [← hY0]
        generalize hB12 : V.drew.heap.size = B12 at *
        generalize hB13 : (V.drew.alloc (.cells zE.toArray 69)).heap.size = B13 at *
        clear hY0 hB12 hB13
        refine reg_one (i := 12) (by kernel_rfl) rfl rfl (wpList_store_row rfl 69 _ _ rfl B12 X.cells.toArray rfl rfl _ _ t0.out.1 (by rw [List.size_toArray]; exact infoE26) (by rw [List.size_toArray, List.size_toArray, hzl]; rfl) (ev_one X) (wpList_nil ⟨below_setRow t0.out.2.2.1 t0.out.2.2.2.2.1 _, fun _ => ?_⟩))
        simp only [Act.put, List.getElem_toArray, List.getElem_cons_succ, List.getElem_cons_zero, List.setIfInBounds_toArray, List.set_cons_zero, List.set_cons_succ]
        have t1 : Hid ((Y0.setRow B12 X.cells.toArray).heap[B12]? = some (objEv X) ∧ (Y0.setRow B12 X.cells.toArray).heap[B13]? = some (.cells zE.toArray 69) ∧ Below V.heap.size V (Y0.setRow B12 X.cells.toArray)) := ⟨setRow_heap _ _ _ _ _ _ t0.out.1, (setRow_other _ _ _ _ (Ne.symm t0.out.2.2.2.1)).trans t0.out.2.1, below_setRow t0.out.2.2.1 t0.out.2.2.2.2.1 _⟩
        generalize Y0.setRow B12 X.cells.toArray = Y1 at *
        refine reg_one (i := 13) (by kernel_rfl) rfl rfl (wpList_store_row rfl 69 _ _ rfl B13 Y.cells.toArray rfl rfl _ _ t1.out.2.1 (by rw [List.size_toArray]; exact infoE26) (by rw [List.size_toArray, List.size_toArray, hzl]; rfl) (ev_one Y) (wpList_nil ⟨below_setRow t1.out.2.2 t0.out.2.2.2.2.2 _, fun _ => ?_⟩))
        simp only [Act.put, List.getElem_toArray, List.getElem_cons_succ, List.getElem_cons_zero, List.setIfInBounds_toArray, List.set_cons_zero, List.set_cons_succ]
        refine wpAnyH_done (by kernel_rfl) ?_ _
        have t2 : Hid (Below V.heap.size V (Y1.setRow B13 Y.cells.toArray) ∧ (Y1.setRow B13 Y.cells.toArray).heap[B12]? = some (objEv X) ∧ (Y1.setRow B13 Y.cells.toArray).heap[B13]? = some (objEv Y) ∧ V.heap.size ≤ B12 ∧ V.heap.size ≤ B13) := ⟨below_setRow t1.out.2.2 t0.out.2.2.2.2.2 _, (setRow_other _ _ _ _ t0.out.2.2.2.1).trans t1.out.1, setRow_heap _ _ _ _ _ _ t1.out.2.1, t0.out.2.2.2.2.1, t0.out.2.2.2.2.2⟩
        generalize Y1.setRow B13 Y.cells.toArray = Y2 at *
        first
          | exact rest B12 B13 Y2 _ _ _ _ _ _ _ _ _ _ _ _ _ _ _ _ _ _ _ _ _ _ _ _ _ _ _ _ _ t2
          | (refine NoPanic.normal ?_; exact rest B12 B13 Y2 _ _ _ _ _ _ _ _ _ _ _ _ _ _ _ _ _ _ _ _ _ _ _ _ _ _ _ _ _ t2)
      · simp only [Act.put, List.getElem_toArray, List.getElem_cons_succ, List.getElem_cons_zero, List.setIfInBounds_toArray, List.set_cons_zero, List.set_cons_succ]
        refine reg_one (i := 10) (by kernel_rfl) rfl rfl (wpList_alloc_big rfl 69 rfl hzv (wpList_nil ⟨bthen (bthen hH (boxed _ _)) (boxed _ _), fun _ => ?_⟩))
        simp only [Act.put, List.getElem_toArray, List.getElem_cons_succ, List.getElem_cons_zero, List.setIfInBounds_toArray, List.set_cons_zero, List.set_cons_succ]
        obtain ⟨Y0, hY0⟩ : ∃ Y0, Y0 = (V.drew.alloc (.cells zE.toArray 69)).alloc (.cells zE.toArray 69) := ⟨_, rfl⟩
        have t0 : Hid (Y0.heap[(V.drew.alloc (.cells zE.toArray 69)).heap.size]? = some (.cells zE.toArray 69) ∧ Y0.heap[V.drew.heap.size]? = some (.cells zE.toArray 69) ∧ Below V.heap.size V Y0 ∧ (V.drew.alloc (.cells zE.toArray 69)).heap.size ≠ V.drew.heap.size ∧ V.heap.size ≤ (V.drew.alloc (.cells zE.toArray 69)).heap.size ∧ V.heap.size ≤ V.drew.heap.size) := by (rw [hY0]; exact two_zs2 V zE.toArray 69)
        rw [← hY0]
        generalize hB12 : (V.drew.alloc (.cells zE.toArray 69)).heap.size = B12 at *
        generalize hB13 : V.drew.heap.size = B13 at *
        clear hY0 hB12 hB13
        refine reg_one (i := 12) (by kernel_rfl) rfl rfl (wpList_store_row rfl 69 _ _ rfl B12 X.cells.toArray rfl rfl _ _ t0.out.1 (by rw [List.size_toArray]; exact infoE26) (by rw [List.size_toArray, List.size_toArray, hzl]; rfl) (ev_one X) (wpList_nil ⟨below_setRow t0.out.2.2.1 t0.out.2.2.2.2.1 _, fun _ => ?_⟩))
        simp only [Act.put, List.getElem_toArray, List.getElem_cons_succ, List.getElem_cons_zero, List.setIfInBounds_toArray, List.set_cons_zero, List.set_cons_succ]
        have t1 : Hid ((Y0.setRow B12 X.cells.toArray).heap[B12]? = some (objEv X) ∧ (Y0.setRow B12 X.cells.toArray).heap[B13]? = some (.cells zE.toArray 69) ∧ Below V.heap.size V (Y0.setRow B12 X.cells.toArray)) := ⟨setRow_heap _ _ _ _ _ _ t0.out.1, (setRow_other _ _ _ _ (Ne.symm t0.out.2.2.2.1)).trans t0.out.2.1, below_setRow t0.out.2.2.1 t0.out.2.2.2.2.1 _⟩
        generalize Y0.setRow B12 X.cells.toArray = Y1 at *
        refine reg_one (i := 13) (by kernel_rfl) rfl rfl (wpList_store_row rfl 69 _ _ rfl B13 Y.cells.toArray rfl rfl _ _ t1.out.2.1 (by rw [List.size_toArray]; exact infoE26) (by rw [List.size_toArray, List.size_toArray, hzl]; rfl) (ev_one Y) (wpList_nil ⟨below_setRow t1.out.2.2 t0.out.2.2.2.2.2 _, fun _ => ?_⟩))
        simp only [Act.put, List.getElem_toArray, List.getElem_cons_succ, List.getElem_cons_zero, List.setIfInBounds_toArray, List.set_cons_zero, List.set_cons_succ]
        refine wpAnyH_done (by kernel_rfl) ?_ _
        have t2 : Hid (Below V.heap.size V (Y1.setRow B13 Y.cells.toArray) ∧ (Y1.setRow B13 Y.cells.toArray).heap[B12]? = some (objEv X) ∧ (Y1.setRow B13 Y.cells.toArray).heap[B13]? = some (objEv Y) ∧ V.heap.size ≤ B12 ∧ V.heap.size ≤ B13) := ⟨below_setRow t1.out.2.2 t0.out.2.2.2.2.2 _, (setRow_other _ _ _ _ t0.out.2.2.2.1).trans t1.out.1, setRow_heap _ _ _ _ _ _ t1.out.2.1, t0.out.2.2.2.2.1, t0.out.2.2.2.2.2⟩
        generalize Y1.setRow B13 Y.cells.toArray = Y2 at *
        first
          | exact rest B12 B13 Y2 _ _ _ _ _ _ _ _ _ _ _ _ _ _ _ _ _ _ _ _ _ _ _ _ _ _ _ _ _ t2
          | (refine NoPanic.normal ?_; exact rest B12 B13 Y2 _ _ _ _ _ _ _ _ _ _ _ _ _ _ _ _ _ _ _ _ _ _ _ _ _ _ _ _ _ t2)
    · have hke : k = D.length := by omega
      have hkI : ¬ ((k : Int) < D.length) := by omega
      have hs1 : Hid (RaS w w3 W v A6 da dc (gaL v l D) Ds) := by (have := hs.out; rw [hke, List.take_length] at this; exact this)
      have hlE : Hid ((gaL v l D).length ≤ 1000000) := by (have h1 := gaL_len v l D D.length; rw [List.take_length] at h1; show _ ≤ _; omega)
      have hwE : Hid (∀ x ∈ gaL v l D, x.wf) := fun x hx => gaL_wf hwH.out hrH.out hin.out hx
      have hbw3 : Hid (Below w.heap.size w w3) := hv3.out.2.1
      clear hs hke hin
      have hEx : Hid (∃ E, gaL v l D = E) := ⟨_, rfl⟩
      obtain ⟨E, hEq⟩ := hEx.out
      rw [hEq] at hs1 hlE hwE
      have hEqH : Hid (gaL v l D = E) := hEq
      clear hEq hEx
      have cS := sortF_any da dc (w3.heap.size + 1) E W hs1.out.p.o hlE.out
      have c9 : W.cell? ⟨w3.heap.size, 0, none⟩ = some (.slice da E.length dc) := by (have := cell_of (k := 0) (v := .slice da (E.map Fd.cells).length dc) hs1.out.p.c rfl; rwa [List.length_map] at this)
      go_wp2_with (go_at_call 49; (with_reducible refine cS.mono ?_); rintro e W4 ⟨⟨vv, rfl⟩, G, hG1, hG2, hG3, hG4, hG5, hG6⟩; refine stopR_in ?_)
      refine stopR_out ?_
      clear cS c9
      have hGl : G.length = E.length := hG1.length_eq
      have hPl := hs1.out.p.lt
      have c9 : W4.heap[w3.heap.size]? = some (.cells #[.slice da E.length dc] 38) := by (have := (hG4 _ hPl hs1.out.p.n).trans hs1.out.p.c; rwa [List.length_map] at this)
      have hm4 : MarksR w3.heap.size Ds W4 := hs1.out.m.keep fun E0 hE0 => hG4 E0 (hs1.out.m.lt hE0) fun q => by
        have hx := (hs1.out.m.at_ E0 hE0).2
        obtain ⟨ob, ho1, ho2⟩ := own_cells hs1.out.p.o E0 q
        rw [hx] at ho1; cases ho1; cases ho2
      have hb4 : Below w3.heap.size w3 W4 := hs1.out.p.b.trans (hG5.mono (by omega))
      have hGw : ∀ x ∈ G, x.wf := fun x hx => hwE.out x (hG1.mem_iff.mp hx)
      rw [← hGl] at c9
      have hfin : Hid (∀ (ra : Option Addr) (rc : Nat) (W5 : World), MarksR w3.heap.size Ds W5 → Rows W5 7 ra rc ((cpt G).map Fd.cells) → (∀ g, ra = some ⟨g, 0, none⟩ → ∃ cs t z, W5.heap[g]? = some (.cells cs t z)) → (ra = none ∨ ∃ g, ra = some ⟨g, 0, none⟩) → Below w3.heap.size w3 W5 → ∀ W', KeepDR w3.heap.size W5 W' → Rows W' 7 ra rc ((cpt G).map Fd.cells) ∧ Below w.heap.size w W') := fun ra rc W5 h1 h2 h3 h4 h5 W' hk => ⟨rows_keepR h2 h3 h4 hk, bthen hbw3.out (h5.trans hk.b)⟩
      have hX : Hid (∃ (ra : Option Addr) (rc : Nat), da = ra ∧ dc = rc ∧ Calls Tryz.prog 54 #[.slice da G.length dc] W4 fun e w' => e = .returned (.slice ra (cpt G).length rc) ∧ MarksR w3.heap.size Ds w' ∧ Rows w' 7 ra rc ((cpt G).map Fd.cells) ∧ (∀ g, ra = some ⟨g, 0, none⟩ → ∃ cs t z, w'.heap[g]? = some (.cells cs t z)) ∧ (ra = none ∨ ∃ g, ra = some ⟨g, 0, none⟩) ∧ Below w3.heap.size w3 w') := by
        rcases own_some hs1.out.p.o with ⟨rfl, h0, rfl⟩ | ⟨g, rfl⟩
        · have hE0 : E = [] := by simpa using h0
          have hG0 : G = [] := by (rw [hE0] at hGl; exact List.length_eq_zero_iff.mp hGl)
          refine ⟨none, 0, rfl, rfl, ?_⟩
          rw [hG0]
          exact (compact_nil W4).mono fun e w' ⟨he, hw⟩ => ⟨he, by rw [hw]; exact hm4, by rw [hw]; exact ⟨by simp [cpt], by omega, fun _ => ⟨by simp [cpt], rfl⟩, .inl (by simp [cpt])⟩, (fun g e => by cases e), .inl rfl, by rw [hw]; exact hb4⟩
        · have hgl := blk_lt hs1.out.p.o g (by simp [blk])
          refine ⟨_, _, rfl, rfl, ?_⟩
          refine (compact_any G g dc (w3.heap.size + 1) W4 ⟨hG3, (hG6 g (by simp [blk])), Below.refl _ _, hgl.1, fun _ _ _ => rfl⟩ hGw (by rw [hGl]; exact hlE.out)).mono ?_
          rintro e w' ⟨he, hF⟩
          refine ⟨he, hm4.keep fun E0 hE0 => hF.k E0 (hm4.lt hE0) fun q => ?_, hF.r, (fun g' e' => by (cases e'; obtain ⟨cs, hcs⟩ := hF.c; exact ⟨cs, _, _, hcs⟩)), .inr ⟨g, rfl⟩, hb4.trans (hF.b.mono (by omega))⟩
          have hx := (hm4.at_ E0 hE0).2
          obtain ⟨cs, hcs⟩ := hG6 g (by simp [blk])
          rw [q, hcs] at hx
          cases hx
      obtain ⟨ra, rc, hra, hrc, cK⟩ := hX.out
      have c9c := cell_of (k := 0) c9 rfl
      have hG1H : Hid _ := hG1
      have hG2H : Hid _ := hG2
      clear hX hG1 hG2 hG3 hG4 hG5 hG6 hm4 hb4 hGw c9 hGl hPl hs1 hwE hlE hra hrc
      go_wp2_with (go_at_call 54; (with_reducible refine cK.mono ?_); rintro e W5 ⟨rfl, hK1, hK2, hK3, hK4, hK5⟩)
      refine leaves_marksR (n₀ := w3.heap.size) Ds _ hK1 fun W' hk => ?_
      obtain ⟨f1, f2⟩ := hfin.out ra rc W5 hK1 hK2 hK3 hK4 hK5 W' hk
      exact ⟨_, results_tmp2 Tryz.results15 _ _ _, ra, rc, G, rfl, by rw [hEqH.out]; exact hG1H.out, hG2H.out, f1, f2⟩
end Go.Proofs.YtafefnkgdnmjbaaGreatDoor.pg
