/- Package race: what clocks count; a program and a trace that are right; what is no conflict. -/
import Derived.Test.YtafefnkgdnmjbaaGreatDoorM30
import Derived.Test.YtafefnkgdnmjbaaGreatDoorM20
import Derived.Test.YtafefnkgdnmjbaaGreatDoorM16
import Derived.Test.YtafefnkgdnmjbaaGreatDoorM6
namespace Go.Proofs.YtafefnkgdnmjbaaGreatDoor.pg
open Go.ChangeShapes Go.WideShapes Go.ChangeAt Go.RowKit Go.Shelf
set_option linter.unusedVariables false
set_option linter.unusedSimpArgs false
set_option maxRecDepth 100000
attribute [local go_sem ↓] Go.wp_at_zero Go.wp_at_succ
theorem reg_callc {P : Program} {ops : Array Oper} {Q : Exit → Act → World → Prop} {S : World → Prop} {fuel : Nat} {listed : Array Bool} {a : Act} {w : World} {i : Nat} {o : Oper} (hr : Region.ready .any ops listed = [i]) (ho : ops[i]? = some o) (hw : Region.wanted o (yielded ops a.tmps) = true) (f : FuncId) (x y z : Operand) (t u s : TypeId)
    (hc0 : o.op = .call { callee := .value (.func f), args := #[x, y, z], argTypes := #[t, u, s] }) (v v2 v3 : Value) (hx : a.eval x = v) (hy : a.eval y = v2) (hz : a.eval z = v3) (hcf : (callFunc f #[v, v2, v3]).run P w = .ok (.enter f #[v, v2, v3]) w) (R : Ending → World → Prop) (hc : Calls P f #[v, v2, v3] w R)
    (hK : ∀ e w', R e w' → ∃ v, e = .returned v ∧ S w' ∧ (S w' → wpAnyH P .any ops Q S fuel (listed.setIfInBounds i true) (a.put o.dst v) w')) :
    wpAnyH P .any ops Q S (fuel + 1) listed a w := reg_call hr ho hw f #[x, y, z] #[t, u, s] hc0 #[v, v2, v3] (by simp [hx, hy, hz]) hcf R hc hK
theorem range_ofC {w : World} {B : Nat} {l : List Value} {t : TypeId} {fr : Nat × Nat} (h : w.heap[B]? = some (.cells l.toArray t fr)) : w.rangeAt B 0 l := range_ofR h
set_option maxHeartbeats 1000000 in
theorem counts_any (x y : Ck) (g : Nat) (hg : g < 6) (w : World) (R : Bool) (hR : Hid (R = decide (y.of g ≤ x.of g))) : Calls Tryz.prog 64 #[.agg x.cells.toArray, .agg y.cells.toArray, .int .i64 (g : Int)] w fun e w' => e = .returned (.bool R) ∧ Below w.heap.size w w' := by
  have i0 := ck_mid w.heap.size 0 g hg
  have i1 := ck_mid (w.heap.size + 1) 0 g hg
  rw [Nat.zero_add] at i0 i1
  have bA : ((w.alloc (.cells x.cells.toArray 114)).alloc (.cells y.cells.toArray 114)).heap[w.heap.size]? = some (.cells x.cells.toArray 114) := ((boxed _ _).block _ (by rw [World.size_alloc]; omega)).trans (heap_alloc_new w _)
  have bB := heap_alloc_new (w.alloc (.cells x.cells.toArray 114)) (.cells y.cells.toArray 114)
  rw [World.size_alloc] at bB
  have hb := bthen (boxed w (.cells x.cells.toArray 114)) (boxed (w.alloc (.cells x.cells.toArray 114)) (.cells y.cells.toArray 114))
  go_enter Tryz.func64, Tryz.ntmps64
  go_wp2_with fail
  generalize (w.alloc (.cells x.cells.toArray 114)).alloc (.cells y.cells.toArray 114) = W at *
  have hF : Hid (∀ w', Below W.heap.size W w' → w'.cell? ⟨w.heap.size, g, none⟩ = some (.int .i64 (x.of g)) ∧ w'.cell? ⟨w.heap.size + 1, g, none⟩ = some (.int .i64 (y.of g))) := fun w' h => ⟨cell_of ((h.block _ (Array.getElem?_eq_some_iff.mp bA).1).trans bA) (by have := ck_of (x := x) hg; simpa using this), cell_of ((h.block _ (Array.getElem?_eq_some_iff.mp bB).1).trans bB) (by have := ck_of (x := y) hg; simpa using this)⟩
  have hS : Hid (Below W.heap.size W W.drew) := bey_drew W
  have hbH : Hid (Below w.heap.size w W) := hb
  clear bA bB hb
  refine wp_region_noPanic ?_
  refine wp_region_held_drew (S := fun w' => Below W.heap.size W w') (by kernel_rfl) hS.out (fun _ => ?_)
  refine reg_move (i := 0) rfl (by kernel_rfl) (by kernel_rfl) (by kernel_rfl) (fun _ _ _ _ h => h) rfl (.int .i64 (g : Int)) (fun _ => rfl) hS.out ?_
  simp only [Act.put, List.getElem_toArray, List.getElem_cons_succ, List.getElem_cons_zero, List.setIfInBounds_toArray, List.set_cons_zero, List.set_cons_succ]
  refine reg_move (i := 1) rfl (by kernel_rfl) (by kernel_rfl) (by kernel_rfl) (fun _ _ _ _ h => h) rfl (.pointer (some ⟨w.heap.size + 1, g, none⟩)) (fun wx => by unfold execOp; exact run_value_of (i1 wx)) hS.out ?_
  simp only [Act.put, List.getElem_toArray, List.getElem_cons_succ, List.getElem_cons_zero, List.setIfInBounds_toArray, List.set_cons_zero, List.set_cons_succ]
  refine reg_load1 (i := 2) rfl (by kernel_rfl) (by kernel_rfl) (by kernel_rfl) (fun _ _ _ _ h => h) rfl 3 _ rfl ⟨w.heap.size + 1, g, none⟩ rfl _ Tryz.underlying3 rfl (.int .i64 (y.of g)) (fun w' h' => (hF.out w' h').2) hS.out ?_
  simp only [Act.put, List.getElem_toArray, List.getElem_cons_succ, List.getElem_cons_zero, List.setIfInBounds_toArray, List.set_cons_zero, List.set_cons_succ]
  refine reg_move (i := 3) rfl (by kernel_rfl) (by kernel_rfl) (by kernel_rfl) (fun _ _ _ _ h => h) rfl (.int .i64 (g : Int)) (fun _ => rfl) hS.out ?_
  simp only [Act.put, List.getElem_toArray, List.getElem_cons_succ, List.getElem_cons_zero, List.setIfInBounds_toArray, List.set_cons_zero, List.set_cons_succ]
  refine reg_move (i := 4) rfl (by kernel_rfl) (by kernel_rfl) (by kernel_rfl) (fun _ _ _ _ h => h) rfl (.pointer (some ⟨w.heap.size, g, none⟩)) (fun wx => by unfold execOp; exact run_value_of (i0 wx)) hS.out ?_
  simp only [Act.put, List.getElem_toArray, List.getElem_cons_succ, List.getElem_cons_zero, List.setIfInBounds_toArray, List.set_cons_zero, List.set_cons_succ]
  refine reg_load1 (i := 5) rfl (by kernel_rfl) (by kernel_rfl) (by kernel_rfl) (fun _ _ _ _ h => h) rfl 3 _ rfl ⟨w.heap.size, g, none⟩ rfl _ Tryz.underlying3 rfl (.int .i64 (x.of g)) (fun w' h' => (hF.out w' h').1) hS.out ?_
  simp only [Act.put, List.getElem_toArray, List.getElem_cons_succ, List.getElem_cons_zero, List.setIfInBounds_toArray, List.set_cons_zero, List.set_cons_succ]
  refine reg_move (i := 6) rfl (by kernel_rfl) (by kernel_rfl) (by kernel_rfl) (fun _ _ _ _ h => h) rfl (.bool (decide (y.of g ≤ x.of g))) (fun _ => by simp [execOp, go_sem, Act.eval]) hS.out ?_
  simp only [Act.put, List.getElem_toArray, List.getElem_cons_succ, List.getElem_cons_zero, List.setIfInBounds_toArray, List.set_cons_zero, List.set_cons_succ]
  refine reg_move (i := 7) rfl (by kernel_rfl) (by kernel_rfl) (by kernel_rfl) (fun _ _ _ _ h => h) rfl _ (fun _ => rfl) hS.out ?_
  simp only [Act.put, List.getElem_toArray, List.getElem_cons_succ, List.getElem_cons_zero, List.setIfInBounds_toArray, List.set_cons_zero, List.set_cons_succ]
  refine wpAnyH_done (by kernel_rfl) (NoPanic.normal ?_) _
  go_wp2
  go_ret
  exact ⟨by rw [hR.out]; rfl, bthen hbH.out hS.out⟩
/-- A clock of a list, at its place. -/
theorem ck_atR {w : World} {ca : Option Addr} {cc : Nat} {C : List Ck} (h : Rows w 6 ca cc (C.map Ck.cells)) {i : Nat} {x : Ck} (hi : C[i]? = some x) : ∃ b o, (∀ wx, (Instr.indexAt 104 (.slice ca C.length cc) (.int .i64 (i : Int))).run Tryz.prog wx = .ok (.pointer (some ⟨b, o, none⟩)) wx) ∧ b < w.heap.size ∧ w.rangeAt b o x.cells := by
  obtain ⟨b, o, h1, h2, h3⟩ := h.ix 104 114 Tryz.underlying104 (by kernel_rfl) (fun wx => Tryz.sizeOf114 wx) i (row := x.cells) (by simp [hi])
  rw [List.length_map] at h1
  exact ⟨b, o, h1, h2, h3⟩
set_option maxHeartbeats 2000000 in
theorem confl1_any (C : List Ck) (ca : Option Addr) (cc : Nat) (l : List Ev) (la : Option Addr) (lc : Nat) (v : Nat → Bool) (w : World) (hC : Rows w 6 ca cc (C.map Ck.cells)) (hl : Rows w 26 la lc (l.map Ev.cells)) (i j : Nat) (x y : Ev) (ci cj : Ck) (hi : l[i]? = some x) (hj : l[j]? = some y) (hci : C[i]? = some ci) (hcj : C[j]? = some cj) (hx : rightP x) (hy : rightP y) (Bc Bt Bv : Nat)
    (hBc : w.heap[Bc]? = some (.cells #[.slice ca C.length cc] 104)) (hBt : w.heap[Bt]? = some (.cells #[.slice la l.length lc] 22)) (hBv : w.heap[Bv]? = some (objV v)) (R : Bool) (hR : Hid (R = (!(decide (ci.of x.go.toNat ≤ cj.of x.go.toNat)) && clP v x y))) :
    Calls Tryz.prog 63 #[.int .i64 (i : Int), .int .i64 (j : Int), .pointer (some ⟨Bc, 0, none⟩), .pointer (some ⟨Bt, 0, none⟩), .pointer (some ⟨Bv, 0, none⟩)] w fun e w' => e = .returned (.bool R) ∧ Below w.heap.size w w' := by
  obtain ⟨b, o, ixi, hb, hri⟩ := ev_at l la lc hl hi
  obtain ⟨c, q, ixj, hc, hrj⟩ := ev_at l la lc hl hj
  obtain ⟨d, p, ici, hd, hrc⟩ := ck_atR hC hci
  obtain ⟨f, t, icj, hf, hrd⟩ := ck_atR hC hcj
  obtain ⟨g, hg⟩ : ∃ g : Nat, x.go = (g : Int) := ⟨x.go.toNat, by have := hx.1; omega⟩
  have hg6 : g < 6 := by have := hx.1; omega
  have hF : ∀ w', Below w.heap.size w w' → w'.cell? ⟨Bc, 0, none⟩ = some (.slice ca C.length cc) ∧ w'.cell? ⟨Bt, 0, none⟩ = some (.slice la l.length lc) ∧ w'.rangeAt Bv 0 (boolL v) ∧ w'.rangeAt b o x.cells ∧ w'.rangeAt c q y.cells ∧ w'.rangeAt d p ci.cells ∧ w'.rangeAt f t cj.cells ∧ w'.cell? ⟨b, o, none⟩ = some (.int .i64 (g : Int)) := fun w' h => by
    have r1 := range_block hri (h.block b hb)
    exact ⟨cell_of ((h.block Bc (Array.getElem?_eq_some_iff.mp hBc).1).trans hBc) rfl, cell_of ((h.block Bt (Array.getElem?_eq_some_iff.mp hBt).1).trans hBt) rfl, range_ofR ((h.block Bv (Array.getElem?_eq_some_iff.mp hBv).1).trans hBv), r1, range_block hrj (h.block c hc), range_block hrc (h.block d hd), range_block hrd (h.block f hf), by rw [← hg]; exact r1 0 _ rfl⟩
  have cN : ∀ wx, Calls Tryz.prog 64 #[.agg cj.cells.toArray, .agg ci.cells.toArray, .int .i64 (g : Int)] wx fun e w' => e = .returned (.bool (decide (ci.of g ≤ cj.of g))) ∧ Below wx.heap.size wx w' := fun wx => counts_any cj ci g hg6 wx _ rfl
  have cL : ∀ wx, Calls Tryz.prog 45 #[.agg (boolRow 8 v), .agg x.cells.toArray, .agg y.cells.toArray] wx fun e w' => e = .returned (.bool (clP v x y)) ∧ Below wx.heap.size wx w' := fun wx => clashV_any x y v hx hy wx
  have hRR : Hid (R = (!(decide (ci.of g ≤ cj.of g)) && clP v x y)) := by show _ = _; rw [hR.out, hg]; rfl
  have hS : Hid (Below w.heap.size w w.drew) := bey_drew w
  have hFH : Hid _ := hF
  clear hl hi hj hBt hBc hBv hri hrj hrc hrd hF hR hC hci hcj hx hy
  generalize decide (ci.of g ≤ cj.of g) = N at *
  generalize clP v x y = Y at *
  go_enter Tryz.func63, Tryz.ntmps63
  go_wp2_with fail
  refine wp_region_noPanic ?_
  refine wp_region_held_drew (S := fun w' => Below w.heap.size w w') (by kernel_rfl) hS.out (fun _ => ?_)
  refine reg_load1 (i := 0) rfl (by kernel_rfl) (by kernel_rfl) (by kernel_rfl) (fun _ _ _ _ h => h) rfl 104 _ rfl ⟨Bc, 0, none⟩ rfl _ Tryz.underlying104 rfl (.slice ca C.length cc) (fun w' h' => (hFH.out w' h').1) hS.out ?_
  simp only [Act.put, List.getElem_toArray, List.getElem_cons_succ, List.getElem_cons_zero, List.setIfInBounds_toArray, List.set_cons_zero, List.set_cons_succ]
  refine reg_move (i := 1) rfl (by kernel_rfl) (by kernel_rfl) (by kernel_rfl) (fun _ _ _ _ h => h) rfl (.int .i64 (j : Int)) (fun _ => rfl) hS.out ?_
  simp only [Act.put, List.getElem_toArray, List.getElem_cons_succ, List.getElem_cons_zero, List.setIfInBounds_toArray, List.set_cons_zero, List.set_cons_succ]
  refine reg_move (i := 2) rfl (by kernel_rfl) (by kernel_rfl) (by kernel_rfl) (fun _ _ _ _ h => h) rfl (.pointer (some ⟨f, t, none⟩)) (fun wx => by unfold execOp; exact run_value_of (icj wx)) hS.out ?_
  simp only [Act.put, List.getElem_toArray, List.getElem_cons_succ, List.getElem_cons_zero, List.setIfInBounds_toArray, List.set_cons_zero, List.set_cons_succ]
  refine reg_load (i := 3) rfl (by kernel_rfl) (by kernel_rfl) (by kernel_rfl) (fun _ _ _ _ h => h) rfl 114 _ rfl f t rfl cj.cells _ (fun w' h' => (hFH.out w' h').2.2.2.2.2.2.1) Tryz.underlying114 rfl (by kernel_rfl) hS.out ?_
  simp only [Act.put, List.getElem_toArray, List.getElem_cons_succ, List.getElem_cons_zero, List.setIfInBounds_toArray, List.set_cons_zero, List.set_cons_succ]
  refine reg_load1 (i := 4) rfl (by kernel_rfl) (by kernel_rfl) (by kernel_rfl) (fun _ _ _ _ h => h) rfl 104 _ rfl ⟨Bc, 0, none⟩ rfl _ Tryz.underlying104 rfl (.slice ca C.length cc) (fun w' h' => (hFH.out w' h').1) hS.out ?_
  simp only [Act.put, List.getElem_toArray, List.getElem_cons_succ, List.getElem_cons_zero, List.setIfInBounds_toArray, List.set_cons_zero, List.set_cons_succ]
  refine reg_move (i := 5) rfl (by kernel_rfl) (by kernel_rfl) (by kernel_rfl) (fun _ _ _ _ h => h) rfl (.int .i64 (i : Int)) (fun _ => rfl) hS.out ?_
  simp only [Act.put, List.getElem_toArray, List.getElem_cons_succ, List.getElem_cons_zero, List.setIfInBounds_toArray, List.set_cons_zero, List.set_cons_succ]
  refine reg_move (i := 6) rfl (by kernel_rfl) (by kernel_rfl) (by kernel_rfl) (fun _ _ _ _ h => h) rfl (.pointer (some ⟨d, p, none⟩)) (fun wx => by unfold execOp; exact run_value_of (ici wx)) hS.out ?_
  simp only [Act.put, List.getElem_toArray, List.getElem_cons_succ, List.getElem_cons_zero, List.setIfInBounds_toArray, List.set_cons_zero, List.set_cons_succ]
  refine reg_load (i := 7) rfl (by kernel_rfl) (by kernel_rfl) (by kernel_rfl) (fun _ _ _ _ h => h) rfl 114 _ rfl d p rfl ci.cells _ (fun w' h' => (hFH.out w' h').2.2.2.2.2.1) Tryz.underlying114 rfl (by kernel_rfl) hS.out ?_
  simp only [Act.put, List.getElem_toArray, List.getElem_cons_succ, List.getElem_cons_zero, List.setIfInBounds_toArray, List.set_cons_zero, List.set_cons_succ]
  refine reg_load1 (i := 8) rfl (by kernel_rfl) (by kernel_rfl) (by kernel_rfl) (fun _ _ _ _ h => h) rfl 22 _ rfl ⟨Bt, 0, none⟩ rfl _ Tryz.underlying22 rfl (.slice la l.length lc) (fun w' h' => (hFH.out w' h').2.1) hS.out ?_
  simp only [Act.put, List.getElem_toArray, List.getElem_cons_succ, List.getElem_cons_zero, List.setIfInBounds_toArray, List.set_cons_zero, List.set_cons_succ]
  refine reg_move (i := 9) rfl (by kernel_rfl) (by kernel_rfl) (by kernel_rfl) (fun _ _ _ _ h => h) rfl (.int .i64 (i : Int)) (fun _ => rfl) hS.out ?_
  simp only [Act.put, List.getElem_toArray, List.getElem_cons_succ, List.getElem_cons_zero, List.setIfInBounds_toArray, List.set_cons_zero, List.set_cons_succ]
  refine reg_move (i := 10) rfl (by kernel_rfl) (by kernel_rfl) (by kernel_rfl) (fun _ _ _ _ h => h) rfl (.pointer (some ⟨b, o, none⟩)) (fun wx => by unfold execOp; exact run_value_of (ixi wx)) hS.out ?_
  simp only [Act.put, List.getElem_toArray, List.getElem_cons_succ, List.getElem_cons_zero, List.setIfInBounds_toArray, List.set_cons_zero, List.set_cons_succ]
  refine reg_move (i := 11) rfl (by kernel_rfl) (by kernel_rfl) (by kernel_rfl) (fun _ _ _ _ h => h) rfl (.pointer (some ⟨b, o, none⟩)) (fun _ => by kernel_rfl) hS.out ?_
  simp only [Act.put, List.getElem_toArray, List.getElem_cons_succ, List.getElem_cons_zero, List.setIfInBounds_toArray, List.set_cons_zero, List.set_cons_succ]
  refine reg_load1 (i := 12) rfl (by kernel_rfl) (by kernel_rfl) (by kernel_rfl) (fun _ _ _ _ h => h) rfl 3 _ rfl ⟨b, o, none⟩ rfl _ Tryz.underlying3 rfl (.int .i64 (g : Int)) (fun w' h' => (hFH.out w' h').2.2.2.2.2.2.2) hS.out ?_
  simp only [Act.put, List.getElem_toArray, List.getElem_cons_succ, List.getElem_cons_zero, List.setIfInBounds_toArray, List.set_cons_zero, List.set_cons_succ]
  refine reg_callc (i := 13) (by kernel_rfl) rfl rfl 64 _ _ _ _ _ _ rfl (.agg cj.cells.toArray) (.agg ci.cells.toArray) (.int .i64 (g : Int)) rfl rfl rfl (cf_fn Tryz.func64 (by kernel_rfl) (by kernel_rfl) _ _) _ (cN _) ?_
  rintro e w1 ⟨rfl, hb1⟩
  have hS1 : Hid (Below w.heap.size w w1) := bthen hS.out hb1
  refine ⟨_, rfl, hS1.out, fun _ => ?_⟩
  simp only [Act.put, List.getElem_toArray, List.getElem_cons_succ, List.getElem_cons_zero, List.setIfInBounds_toArray, List.set_cons_zero, List.set_cons_succ]
  cases N with
  | true =>
    refine reg_move (i := 14) rfl (by kernel_rfl) (by kernel_rfl) (by kernel_rfl) (fun _ _ _ _ h => h) rfl (.bool false) (fun _ => rfl) hS1.out ?_
    simp only [Act.put, List.getElem_toArray, List.getElem_cons_succ, List.getElem_cons_zero, List.setIfInBounds_toArray, List.set_cons_zero, List.set_cons_succ]
    refine reg_move (i := 15) rfl (by kernel_rfl) (by kernel_rfl) (by kernel_rfl) (fun _ _ _ _ h => h) rfl (.bool false) (fun _ => rfl) hS1.out ?_
    simp only [Act.put, List.getElem_toArray, List.getElem_cons_succ, List.getElem_cons_zero, List.setIfInBounds_toArray, List.set_cons_zero, List.set_cons_succ]
    refine reg_skip (i := 16) rfl (by kernel_rfl) (by kernel_rfl) (by kernel_rfl) (fun _ _ _ _ h => h) rfl hS1.out ?_
    simp only [Act.put, List.getElem_toArray, List.getElem_cons_succ, List.getElem_cons_zero, List.setIfInBounds_toArray, List.set_cons_zero, List.set_cons_succ]
    refine reg_skip (i := 17) rfl (by kernel_rfl) (by kernel_rfl) (by kernel_rfl) (fun _ _ _ _ h => h) rfl hS1.out ?_
    simp only [Act.put, List.getElem_toArray, List.getElem_cons_succ, List.getElem_cons_zero, List.setIfInBounds_toArray, List.set_cons_zero, List.set_cons_succ]
    refine reg_skip (i := 18) rfl (by kernel_rfl) (by kernel_rfl) (by kernel_rfl) (fun _ _ _ _ h => h) rfl hS1.out ?_
    simp only [Act.put, List.getElem_toArray, List.getElem_cons_succ, List.getElem_cons_zero, List.setIfInBounds_toArray, List.set_cons_zero, List.set_cons_succ]
    refine reg_skip (i := 19) rfl (by kernel_rfl) (by kernel_rfl) (by kernel_rfl) (fun _ _ _ _ h => h) rfl hS1.out ?_
    simp only [Act.put, List.getElem_toArray, List.getElem_cons_succ, List.getElem_cons_zero, List.setIfInBounds_toArray, List.set_cons_zero, List.set_cons_succ]
    refine reg_skip (i := 20) rfl (by kernel_rfl) (by kernel_rfl) (by kernel_rfl) (fun _ _ _ _ h => h) rfl hS1.out ?_
    simp only [Act.put, List.getElem_toArray, List.getElem_cons_succ, List.getElem_cons_zero, List.setIfInBounds_toArray, List.set_cons_zero, List.set_cons_succ]
    refine reg_skip (i := 21) rfl (by kernel_rfl) (by kernel_rfl) (by kernel_rfl) (fun _ _ _ _ h => h) rfl hS1.out ?_
    simp only [Act.put, List.getElem_toArray, List.getElem_cons_succ, List.getElem_cons_zero, List.setIfInBounds_toArray, List.set_cons_zero, List.set_cons_succ]
    refine reg_skip (i := 22) rfl (by kernel_rfl) (by kernel_rfl) (by kernel_rfl) (fun _ _ _ _ h => h) rfl hS1.out ?_
    simp only [Act.put, List.getElem_toArray, List.getElem_cons_succ, List.getElem_cons_zero, List.setIfInBounds_toArray, List.set_cons_zero, List.set_cons_succ]
    refine reg_skip (i := 23) rfl (by kernel_rfl) (by kernel_rfl) (by kernel_rfl) (fun _ _ _ _ h => h) rfl hS1.out ?_
    simp only [Act.put, List.getElem_toArray, List.getElem_cons_succ, List.getElem_cons_zero, List.setIfInBounds_toArray, List.set_cons_zero, List.set_cons_succ]
    refine reg_skip (i := 24) rfl (by kernel_rfl) (by kernel_rfl) (by kernel_rfl) (fun _ _ _ _ h => h) rfl hS1.out ?_
    simp only [Act.put, List.getElem_toArray, List.getElem_cons_succ, List.getElem_cons_zero, List.setIfInBounds_toArray, List.set_cons_zero, List.set_cons_succ]
    refine reg_skip (i := 25) rfl (by kernel_rfl) (by kernel_rfl) (by kernel_rfl) (fun _ _ _ _ h => h) rfl hS1.out ?_
    simp only [Act.put, List.getElem_toArray, List.getElem_cons_succ, List.getElem_cons_zero, List.setIfInBounds_toArray, List.set_cons_zero, List.set_cons_succ]
    refine reg_move (i := 26) rfl (by kernel_rfl) (by kernel_rfl) (by kernel_rfl) (fun _ _ _ _ h => h) rfl (.bool false) (fun _ => rfl) hS1.out ?_
    simp only [Act.put, List.getElem_toArray, List.getElem_cons_succ, List.getElem_cons_zero, List.setIfInBounds_toArray, List.set_cons_zero, List.set_cons_succ]
    refine reg_move (i := 27) rfl (by kernel_rfl) (by kernel_rfl) (by kernel_rfl) (fun _ _ _ _ h => h) rfl _ (fun _ => rfl) hS1.out ?_
    simp only [Act.put, List.getElem_toArray, List.getElem_cons_succ, List.getElem_cons_zero, List.setIfInBounds_toArray, List.set_cons_zero, List.set_cons_succ]
    refine wpAnyH_done (by kernel_rfl) (NoPanic.normal ?_) _
    go_wp2
    go_ret
    exact ⟨by rw [hRR.out]; rfl, hS1.out⟩
  | false =>
    refine reg_move (i := 14) rfl (by kernel_rfl) (by kernel_rfl) (by kernel_rfl) (fun _ _ _ _ h => h) rfl (.bool true) (fun _ => rfl) hS1.out ?_
    simp only [Act.put, List.getElem_toArray, List.getElem_cons_succ, List.getElem_cons_zero, List.setIfInBounds_toArray, List.set_cons_zero, List.set_cons_succ]
    refine reg_move (i := 15) rfl (by kernel_rfl) (by kernel_rfl) (by kernel_rfl) (fun _ _ _ _ h => h) rfl (.bool true) (fun _ => rfl) hS1.out ?_
    simp only [Act.put, List.getElem_toArray, List.getElem_cons_succ, List.getElem_cons_zero, List.setIfInBounds_toArray, List.set_cons_zero, List.set_cons_succ]
    refine reg_load (i := 16) rfl (by kernel_rfl) (by kernel_rfl) (by kernel_rfl) (fun _ _ _ _ h => h) rfl 86 _ rfl Bv 0 rfl (boolL v) _ (fun w' h' => (hFH.out w' h').2.2.1) Tryz.underlying86 rfl (by kernel_rfl) hS1.out ?_
    simp only [Act.put, List.getElem_toArray, List.getElem_cons_succ, List.getElem_cons_zero, List.setIfInBounds_toArray, List.set_cons_zero, List.set_cons_succ]
    refine reg_load1 (i := 17) rfl (by kernel_rfl) (by kernel_rfl) (by kernel_rfl) (fun _ _ _ _ h => h) rfl 22 _ rfl ⟨Bt, 0, none⟩ rfl _ Tryz.underlying22 rfl (.slice la l.length lc) (fun w' h' => (hFH.out w' h').2.1) hS1.out ?_
    simp only [Act.put, List.getElem_toArray, List.getElem_cons_succ, List.getElem_cons_zero, List.setIfInBounds_toArray, List.set_cons_zero, List.set_cons_succ]
    refine reg_move (i := 18) rfl (by kernel_rfl) (by kernel_rfl) (by kernel_rfl) (fun _ _ _ _ h => h) rfl (.int .i64 (i : Int)) (fun _ => rfl) hS1.out ?_
    simp only [Act.put, List.getElem_toArray, List.getElem_cons_succ, List.getElem_cons_zero, List.setIfInBounds_toArray, List.set_cons_zero, List.set_cons_succ]
    refine reg_move (i := 19) rfl (by kernel_rfl) (by kernel_rfl) (by kernel_rfl) (fun _ _ _ _ h => h) rfl (.pointer (some ⟨b, o, none⟩)) (fun wx => by unfold execOp; exact run_value_of (ixi wx)) hS1.out ?_
    simp only [Act.put, List.getElem_toArray, List.getElem_cons_succ, List.getElem_cons_zero, List.setIfInBounds_toArray, List.set_cons_zero, List.set_cons_succ]
    refine reg_load (i := 20) rfl (by kernel_rfl) (by kernel_rfl) (by kernel_rfl) (fun _ _ _ _ h => h) rfl 69 _ rfl b o rfl x.cells _ (fun w' h' => (hFH.out w' h').2.2.2.1) Tryz.underlying69 rfl infoE26 hS1.out ?_
    simp only [Act.put, List.getElem_toArray, List.getElem_cons_succ, List.getElem_cons_zero, List.setIfInBounds_toArray, List.set_cons_zero, List.set_cons_succ]
    refine reg_load1 (i := 21) rfl (by kernel_rfl) (by kernel_rfl) (by kernel_rfl) (fun _ _ _ _ h => h) rfl 22 _ rfl ⟨Bt, 0, none⟩ rfl _ Tryz.underlying22 rfl (.slice la l.length lc) (fun w' h' => (hFH.out w' h').2.1) hS1.out ?_
    simp only [Act.put, List.getElem_toArray, List.getElem_cons_succ, List.getElem_cons_zero, List.setIfInBounds_toArray, List.set_cons_zero, List.set_cons_succ]
    refine reg_move (i := 22) rfl (by kernel_rfl) (by kernel_rfl) (by kernel_rfl) (fun _ _ _ _ h => h) rfl (.int .i64 (j : Int)) (fun _ => rfl) hS1.out ?_
    simp only [Act.put, List.getElem_toArray, List.getElem_cons_succ, List.getElem_cons_zero, List.setIfInBounds_toArray, List.set_cons_zero, List.set_cons_succ]
    refine reg_move (i := 23) rfl (by kernel_rfl) (by kernel_rfl) (by kernel_rfl) (fun _ _ _ _ h => h) rfl (.pointer (some ⟨c, q, none⟩)) (fun wx => by unfold execOp; exact run_value_of (ixj wx)) hS1.out ?_
    simp only [Act.put, List.getElem_toArray, List.getElem_cons_succ, List.getElem_cons_zero, List.setIfInBounds_toArray, List.set_cons_zero, List.set_cons_succ]
    refine reg_load (i := 24) rfl (by kernel_rfl) (by kernel_rfl) (by kernel_rfl) (fun _ _ _ _ h => h) rfl 69 _ rfl c q rfl y.cells _ (fun w' h' => (hFH.out w' h').2.2.2.2.1) Tryz.underlying69 rfl infoE26 hS1.out ?_
    simp only [Act.put, List.getElem_toArray, List.getElem_cons_succ, List.getElem_cons_zero, List.setIfInBounds_toArray, List.set_cons_zero, List.set_cons_succ]
    refine reg_callc (i := 25) (by kernel_rfl) rfl rfl 45 _ _ _ _ _ _ rfl (.agg (boolRow 8 v)) (.agg x.cells.toArray) (.agg y.cells.toArray) rfl rfl rfl (cf_fn Tryz.func45 (by kernel_rfl) (by kernel_rfl) _ _) _ (cL _) ?_
    rintro e w2 ⟨rfl, hb2⟩
    have hS2 : Hid (Below w.heap.size w w2) := bthen hS1.out hb2
    refine ⟨_, rfl, hS2.out, fun _ => ?_⟩
    simp only [Act.put, List.getElem_toArray, List.getElem_cons_succ, List.getElem_cons_zero, List.setIfInBounds_toArray, List.set_cons_zero, List.set_cons_succ]
    refine reg_move (i := 26) rfl (by kernel_rfl) (by kernel_rfl) (by kernel_rfl) (fun _ _ _ _ h => h) rfl (.bool Y) (fun _ => rfl) hS2.out ?_
    simp only [Act.put, List.getElem_toArray, List.getElem_cons_succ, List.getElem_cons_zero, List.setIfInBounds_toArray, List.set_cons_zero, List.set_cons_succ]
    refine reg_move (i := 27) rfl (by kernel_rfl) (by kernel_rfl) (by kernel_rfl) (fun _ _ _ _ h => h) rfl _ (fun _ => rfl) hS2.out ?_
    simp only [Act.put, List.getElem_toArray, List.getElem_cons_succ, List.getElem_cons_zero, List.setIfInBounds_toArray, List.set_cons_zero, List.set_cons_succ]
    refine wpAnyH_done (by kernel_rfl) (NoPanic.normal ?_) _
    go_wp2
    go_ret
    exact ⟨by rw [hRR.out]; rfl, hS2.out⟩
set_option maxHeartbeats 2000000 in
theorem checked_any (M : MPr) (l : List Ev) (la : Option Addr) (lc : Nat) (w : World) (hM : M.lies w) (hF : prog.Forms w) (b c : Int) (hr : chk insP M.pr = (0, b, c)) (hl : Rows w 26 la lc (l.map Ev.cells)) (d : Int) (hd : checkP l d) :
    Calls Tryz.prog 58 #[M.val, .slice la l.length lc] w fun e w' => e = .returned (.tuple #[.agg (boolRow 8 (plV M.vars)), .int .i64 d]) ∧ Below w.heap.size w w' := by
  have cP : ∀ wx, Below w.heap.size w wx → Calls Tryz.prog 44 #[M.val] wx fun e w' => e = .returned (.tuple #[.agg (boolRow 8 (plV M.vars)), .int .i64 0]) ∧ Below wx.heap.size wx w' := fun wx hb => plainOf_ok M wx (hM.later hb) (hF.later hb) b c hr
  have cK : ∀ wx, Below w.heap.size w wx → Calls Tryz.prog 86 #[.slice la l.length lc] wx fun e w' => e = .returned (.int .i64 d) ∧ Below wx.heap.size wx w' := fun wx hb => check_any l la lc wx (hl.later hb) d hd
  have hzV : Hid (∀ w, (zeroValue 86).run Tryz.prog w = .ok (.agg (boolRow 8 fun _ => false)) w) := zeroPl
  have huV : Hid (Tryz.prog.underlying 86 = _) := Tryz.underlying86
  have h0 : Hid (((w.alloc (objP M)).alloc (objV fun _ => false)).heap[w.heap.size + 1]? = some (objV fun _ => false)) := by
    have := heap_alloc_new (w.alloc (objP M)) (objV fun _ => false)
    rwa [World.size_alloc] at this
  clear hl hF hr hM hd
  generalize plV M.vars = v at *
  go_enter Tryz.func58, Tryz.ntmps58
  go_wp2_with (first
    | (refine wpList_alloc_big rfl 86 rfl hzV.out ?_)
    | (go_at_call 44; (with_reducible refine (cP _ (bthen (boxed _ _) (boxed _ _))).mono ?_); rintro e w1 ⟨rfl, hb1⟩; (have hB1 : Hid (Below w.heap.size w w1 ∧ w1.heap[w.heap.size + 1]? = some (objV fun _ => false)) := ⟨bthen (bthen (boxed _ _) (boxed _ _)) hb1, (hb1.block _ (Array.getElem?_eq_some_iff.mp h0.out).1).trans h0.out⟩); clear hb1)
    | (refine wpList_store_row rfl 86 _ _ rfl w1.heap.size (boolRow 8 v) rfl rfl _ _ (heap_alloc_new _ _) (infoPl _) (by rw [boolRow_size, boolRow_size]) (boolRow_one _ _) ?_; (obtain ⟨W2, hW2⟩ : ∃ W2, W2 = (w1.alloc (objV fun _ => false)).setRow w1.heap.size (boolRow 8 v) := ⟨_, rfl⟩); rw [← hW2]; (have hv2 : Hid (W2.heap[w1.heap.size]? = some (objV v) ∧ Below w.heap.size w W2 ∧ W2.heap[w.heap.size + 1]? = some (objV fun _ => false)) := by (rw [hW2]; have hlt := (Array.getElem?_eq_some_iff.mp hB1.out.2).1; exact ⟨setRow_heap _ _ _ _ _ _ (heap_alloc_new _ _), below_setRow (bthen hB1.out.1 (boxed _ _)) hB1.out.1.size _, (setRow_other _ _ _ _ (by omega)).trans (((boxed _ _).block _ hlt).trans hB1.out.2)⟩)); clear hW2)
    | (go_at_call 86; (with_reducible refine (cK _ hv2.out.2.1).mono ?_); rintro e w3 ⟨rfl, hb3⟩; (have hv3 : Hid (w3.heap[w1.heap.size]? = some (objV v) ∧ Below w.heap.size w w3 ∧ w3.heap[w.heap.size + 1]? = some (objV fun _ => false)) := ⟨(hb3.block _ (Array.getElem?_eq_some_iff.mp hv2.out.1).1).trans hv2.out.1, bthen hv2.out.2.1 hb3, (hb3.block _ (Array.getElem?_eq_some_iff.mp hv2.out.2.2).1).trans hv2.out.2.2⟩); clear hb3)
    | (refine wpList_load_row rfl 86 _ rfl w1.heap.size rfl _ _ _ _ hv3.out.1 huV.out rfl (infoPl _) ?_)
    | (refine wpList_store_row rfl 86 _ _ rfl (w.heap.size + 1) (boolRow 8 v) rfl rfl _ _ hv3.out.2.2 (infoPl _) (by rw [boolRow_size, boolRow_size]) (boolRow_one _ _) ?_))
  refine bodyPost_ret (res_row_tmp Tryz.results58 _ _ (w.heap.size + 1) 86 _ (0, 0) _ rfl (setRow_heap _ (w.heap.size + 1) _ _ _ _ hv3.out.2.2) huV.out rfl (infoPl _)) rfl ⟨rfl, below_setRow hv3.out.2.1 (by omega) _⟩
set_option maxHeartbeats 2000000 in
theorem checked_prog (M : MPr) (la : Option Addr) (ln lc : Nat) (w : World) (hM : M.lies w) (hF : prog.Forms w) (a b c : Int) (ha : a ≠ 0) (hr : chk insP M.pr = (a, b, c)) :
    Calls Tryz.prog 58 #[M.val, .slice la ln lc] w fun e w' => e = .returned (.tuple #[.agg (boolRow 8 fun _ => false), .int .i64 3]) ∧ Below w.heap.size w w' := by
  have cP : ∀ wx, Below w.heap.size w wx → Calls Tryz.prog 44 #[M.val] wx fun e w' => e = .returned (.tuple #[.agg (boolRow 8 fun _ => false), .int .i64 3]) ∧ Below wx.heap.size wx w' := fun wx hb => plainOf_bad M wx (hM.later hb) (hF.later hb) a b c ha hr
  have hzV : Hid (∀ w, (zeroValue 86).run Tryz.prog w = .ok (.agg (boolRow 8 fun _ => false)) w) := zeroPl
  have huV : Hid (Tryz.prog.underlying 86 = _) := Tryz.underlying86
  have h0 : Hid (((w.alloc (objP M)).alloc (objV fun _ => false)).heap[w.heap.size + 1]? = some (objV fun _ => false)) := by
    have := heap_alloc_new (w.alloc (objP M)) (objV fun _ => false)
    rwa [World.size_alloc] at this
  clear hF hr hM ha
  obtain ⟨v, hv⟩ : ∃ v : Nat → Bool, v = fun _ => false := ⟨_, rfl⟩
  go_enter Tryz.func58, Tryz.ntmps58
  go_wp2_with (first
    | (refine wpList_alloc_big rfl 86 rfl hzV.out ?_)
    | (go_at_call 44; (with_reducible refine (cP _ (bthen (boxed _ _) (boxed _ _))).mono ?_); rintro e w1 ⟨rfl, hb1⟩; (have hB1 : Hid (Below w.heap.size w w1 ∧ w1.heap[w.heap.size + 1]? = some (objV fun _ => false)) := ⟨bthen (bthen (boxed _ _) (boxed _ _)) hb1, (hb1.block _ (Array.getElem?_eq_some_iff.mp h0.out).1).trans h0.out⟩); clear hb1)
    | (refine wpList_store_row rfl 86 _ _ rfl w1.heap.size (boolRow 8 fun _ => false) rfl rfl _ _ (heap_alloc_new _ _) (infoPl _) (by rw [boolRow_size]) (boolRow_one _ _) ?_; (obtain ⟨W2, hW2⟩ : ∃ W2, W2 = (w1.alloc (objV fun _ => false)).setRow w1.heap.size (boolRow 8 fun _ => false) := ⟨_, rfl⟩); rw [← hW2]; (have hv3 : Hid (W2.heap[w1.heap.size]? = some (objV fun _ => false) ∧ Below w.heap.size w W2 ∧ W2.heap[w.heap.size + 1]? = some (objV fun _ => false)) := by (rw [hW2]; have hlt := (Array.getElem?_eq_some_iff.mp hB1.out.2).1; exact ⟨setRow_heap _ _ _ _ _ _ (heap_alloc_new _ _), below_setRow (bthen hB1.out.1 (boxed _ _)) hB1.out.1.size _, (setRow_other _ _ _ _ (by omega)).trans (((boxed _ _).block _ hlt).trans hB1.out.2)⟩)); clear hW2)
    | (refine wpList_load_row rfl 86 _ rfl w1.heap.size rfl _ _ _ _ hv3.out.1 huV.out rfl (infoPl _) ?_)
    | (refine wpList_store_row rfl 86 _ _ rfl (w.heap.size + 1) (boolRow 8 fun _ => false) rfl rfl _ _ hv3.out.2.2 (infoPl _) (by rw [boolRow_size]) (boolRow_one _ _) ?_))
  refine bodyPost_ret (res_row_tmp Tryz.results58 _ _ (w.heap.size + 1) 86 _ (0, 0) _ rfl (setRow_heap _ (w.heap.size + 1) _ _ _ _ hv3.out.2.2) huV.out rfl (infoPl _)) rfl ⟨rfl, below_setRow hv3.out.2.1 (by omega) _⟩
end Go.Proofs.YtafefnkgdnmjbaaGreatDoor.pg
/- An empty list literal; a row of a list written over. -/
namespace Go.Proofs.YtafefnkgdnmjbaaGreatDoor.pg
open Go.ChangeShapes Go.WideShapes Go.ChangeAt Go.RowKit
set_option linter.unusedVariables false
set_option linter.unusedSimpArgs false
theorem wpList_empty {P : Program} {ops : Array Oper} {rest : List Oper} {o : Oper} {a : Act} {w : World} {Q : Exit → Act → World → Prop} (hg : o.guard = none) (t e : TypeId) (ho : o.op = .buildSlice t 0 #[]) (ie : TypeInfo)
    (hu : P.underlying t = some (.slice e)) (hie : P.info? e = some ie)
    (h : wpList P ops Q rest (a.put o.dst (.slice (some ⟨w.heap.size, 0, none⟩) 0 0)) (w.alloc (.cells #[] e))) : wpList P ops Q (o :: rest) a w :=
  wpList_plain hg fun _ hK => by
    have hr : (Instr.buildSlice t 0 #[]).run P w = .ok (.slice (some ⟨w.heap.size, 0, none⟩) 0 0) (w.alloc (.cells #[] e)) := by
      simp [Instr.buildSlice, run_underlying hu, sizeOf, typeInfo, hie, newRow, Instr.fill, go_sem]
    unfold Oper.wp execOp
    simp only [ho, Sem.run_bind, Sem.run_pure, Result.andThen_ok, List.map_toArray, List.map_nil, Array.map_empty, hr]
    exact hK _ _ h
theorem own_empty (w : World) (lo e k : Nat) (hl : lo ≤ w.heap.size) : OwnL (w.alloc (.cells #[] e)) lo e k (some ⟨w.heap.size, 0, none⟩) 0 [] :=
  ⟨by simp, .inr ⟨w.heap.size, 0, #[], rfl, hl, heap_new_q w _, by simp, by unfold maxLen; omega, by simp, by simp⟩⟩
/-- A row of an own list can be written over. -/
theorem own_there {w : World} {lo e k : Nat} {g cap : Nat} {L : List (List Value)} (h : OwnL w lo e k (some ⟨g, 0, none⟩) cap L) (hk : ∀ row ∈ L, row.length = k) {i : Nat} (hi : i < L.length) : w.there g (i * k) k := by
  have hr := own_rows h hk
  obtain ⟨x, hx, hm⟩ := get_lt L i hi
  obtain ⟨b0, off, ha, hlt, hc⟩ := hr.row hx
  intro j hj
  refine ⟨?_, ?_⟩
  · have hlt2 : i * k + j < L.length * k := by
      have : (i + 1) * k ≤ L.length * k := Nat.mul_le_mul_right k hi
      rw [Nat.add_mul] at this
      omega
    rw [World.ownsRow.cellAt h (i * k + j) hlt2, flatten_at L hk i x hx j hj, List.getElem?_eq_getElem (by rw [hk x hm]; exact hj)]
    rfl
  · rcases h.2 with ⟨h1, _⟩ | ⟨g', cap', cur, h1, _, hg, _⟩
    · simp only [Value.slice.injEq] at h1
      cases h1.1
    · simp only [Value.slice.injEq, Option.some.injEq, Addr.mk.injEq, and_true, true_and] at h1
      rw [h1.1]
      exact frozen_of_row _ _ _ _ _ hg
theorem rows_put {w : World} {k g cap : Nat} {L : List (List Value)} (h : Rows w k (some ⟨g, 0, none⟩) cap L) {i : Nat} (hi : i < L.length) {row : List Value} (hr : row.length = k) (ht : w.there g (i * k) k) : Rows (w.setCells g (i * k) row) k (some ⟨g, 0, none⟩) cap (L.set i row) := by
  obtain ⟨h1, h2, h3, h4⟩ := h
  rcases h4 with rfl | ⟨b, off, ha, hlt, hc⟩
  · simp at hi
  · simp only [Option.some.injEq, Addr.mk.injEq, and_true] at ha
    obtain ⟨rfl, rfl⟩ := ha
    refine ⟨by simpa using h1, h2, by simp, .inr ⟨g, 0, rfl, ?_, fun q rw' hq => ?_⟩⟩
    · have := (World.keptBut_setCells g (may := fun _ => True) row (i * k) w (fun _ _ => trivial))
      have hs : w.heap.size ≤ (w.setCells g (i * k) row).heap.size := by
        have e : ∀ (vs : List Value) (o : Nat) (w : World), (w.setCells g o vs).heap.size = w.heap.size := by
          intro vs
          induction vs with
          | nil => intro o w; rfl
          | cons v vs ih => intro o w; simp only [World.setCells]; rw [ih]; exact World.size_setCell _ _ _
        rw [e]; exact Nat.le_refl _
      omega
    · rw [List.getElem?_set] at hq
      by_cases c : i = q
      · subst c
        rw [if_pos rfl, if_pos hi, Option.some.injEq] at hq
        subst hq
        refine ⟨hr, fun j u hj => ?_⟩
        have hjl := (List.getElem?_eq_some_iff.mp hj).1
        rw [Nat.zero_add]
        rw [World.cell?_setCells_in g row (i * k) w (fun j hj => (ht j (by omega)).1) j hjl]
        rw [← hj, List.getElem?_eq_getElem hjl]
      · rw [if_neg c] at hq
        obtain ⟨r1, r2⟩ := hc q rw' hq
        refine ⟨r1, fun j u hj => ?_⟩
        rw [World.cell?_setCells_out g row (i * k) w]
        · exact r2 j u hj
        · intro _ _
          show 0 + (q * k + j) < i * k ∨ i * k + row.length ≤ 0 + (q * k + j)
          have hjl : j < k := by have := (List.getElem?_eq_some_iff.mp hj).1; omega
          rw [hr]
          rcases Nat.lt_or_gt_of_ne c with c | c
          · right
            have : (i + 1) * k ≤ q * k := Nat.mul_le_mul_right k c
            rw [Nat.add_mul] at this
            omega
          · left
            have : (q + 1) * k ≤ i * k := Nat.mul_le_mul_right k c
            rw [Nat.add_mul] at this
            omega
theorem size_setCells (g : Nat) : ∀ (vs : List Value) (o : Nat) (w : World), (w.setCells g o vs).heap.size = w.heap.size
  | [], _, _ => rfl
  | v :: vs, o, w => by simp only [World.setCells]; rw [size_setCells g vs]; exact World.size_setCell _ _ _
theorem below_setCells {n₀ g : Nat} (hg : n₀ ≤ g) : ∀ (vs : List Value) (o : Nat) (w w' : World), Below n₀ w w' → Below n₀ w (w'.setCells g o vs)
  | [], _, _, _, h => h
  | v :: vs, o, w, w', h => below_setCells hg vs (o + 1) w _ (h.setCell (p := ⟨g, o, none⟩) hg v)
theorem rows_ix_g {t e : TypeId} {k : Nat} (hu : Tryz.prog.underlying t = some (.slice e)) (hz : ∀ wx, (sizeOf e).run Tryz.prog wx = .ok k wx) (g n cap i : Nat) (h : i < n) : ∀ wx, (Instr.indexAt t (.slice (some ⟨g, 0, none⟩) n cap) (.int .i64 (i : Int))).run Tryz.prog wx = .ok (.pointer (some ⟨g, i * k, none⟩)) wx := by
  intro wx
  have q1 : (i : Int) < n := by omega
  have q2 : ¬ (i : Int) < 0 := by omega
  simp [Instr.indexAt, run_underlying hu, asIntOf, go_sem, hz, q1, q2, h]
end Go.Proofs.YtafefnkgdnmjbaaGreatDoor.pg
/- The statements' own event. -/
namespace Go.Proofs.YtafefnkgdnmjbaaGreatDoor.pg
open Go.ChangeShapes Go.WideShapes Go.ChangeAt Go.RowKit Go.Shelf
set_option linter.unusedVariables false
set_option linter.unusedSimpArgs false
set_option maxRecDepth 100000
attribute [local go_sem ↓] Go.wp_at_zero Go.wp_at_succ
def stEv (g v : Int) : Ev := ⟨g, 0, 0, 51, 0, 0, 0, ⟨1, v, true⟩, ⟨5, g, true⟩, acc0, acc0, acc0, acc0, 2⟩
def stEv0 (g : Int) : Ev := ⟨g, 0, 0, 51, 0, 0, 0, acc0, acc0, acc0, acc0, acc0, acc0, 2⟩
def stEvZ : Ev := ⟨0, 0, 0, 0, 0, 0, 0, acc0, acc0, acc0, acc0, acc0, acc0, 0⟩
def stEv1 (g v : Int) : Ev := ⟨g, 0, 0, 51, 0, 0, 0, ⟨1, v, true⟩, acc0, acc0, acc0, acc0, acc0, 2⟩
theorem put3 {W : World} {B o : Nat} {cs : Array Value} {t : TypeId} (h : W.heap[B]? = some (.cells cs t (0, 0))) (ho : o + 2 < cs.size) (a b c : Value) :
    W.there B o 3 ∧ (W.setCells B o [a, b, c]).heap[B]? = some (.cells (((cs.setIfInBounds o a).setIfInBounds (o + 1) b).setIfInBounds (o + 2) c) t (0, 0)) ∧ (∀ k, k ≠ B → (W.setCells B o [a, b, c]).heap[k]? = W.heap[k]?) ∧ ∀ n, n ≤ B → Below n W (W.setCells B o [a, b, c]) := by
  have e1 : W.setCells B o [a, b, c] = W.setRow B (((cs.setIfInBounds o a).setIfInBounds (o + 1) b).setIfInBounds (o + 2) c) := by
    simp only [World.setCells]
    rw [setCell_eq_setRow W B o _ _ _ a h]
    have h1 := setRow_heap W B _ (cs.setIfInBounds o a) _ _ h
    rw [setCell_eq_setRow _ B (o + 1) _ _ _ b h1, setRow_setRow]
    have h2 := setRow_heap W B _ ((cs.setIfInBounds o a).setIfInBounds (o + 1) b) _ _ h
    rw [setCell_eq_setRow _ B (o + 1 + 1) _ _ _ c h2, setRow_setRow]
  refine ⟨fun j hj => ⟨?_, frozen_of_row _ _ _ _ _ h⟩, ?_, ?_, ?_⟩
  · rw [cell_of_row W B (o + j) _ _ _ h, Array.getElem?_eq_getElem (by omega)]
    rfl
  · rw [e1]; exact setRow_heap W B _ _ _ _ h
  · intro k hk
    rw [e1]
    exact setRow_other _ _ _ _ hk
  · intro n hn
    rw [e1]
    exact below_setRow (Below.refl _ _) hn _
theorem infoE_ev (x : Ev) : (Tryz.prog.info? 69).map (·.size) = some x.cells.toArray.size := infoE26
end Go.Proofs.YtafefnkgdnmjbaaGreatDoor.pg
