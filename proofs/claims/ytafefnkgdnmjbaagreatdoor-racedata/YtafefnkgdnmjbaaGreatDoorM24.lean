/- setOf and closed of package order. -/
import Derived.Test.YtafefnkgdnmjbaaGreatDoorM23
import Derived.Test.YtafefnkgdnmjbaaGreatDoorM13
import Derived.Test.YtafefnkgdnmjbaaGreatDoorM15
import Derived.Test.YtafefnkgdnmjbaaGreatDoorM20
import Derived.Test.YtafefnkgdnmjbaaGreatDoorM22
namespace Go.Proofs.YtafefnkgdnmjbaaGreatDoor.pg
open Go.ChangeShapes Go.WideShapes Go.ChangeAt Go.RowKit Go.Shelf
set_option linter.unusedVariables false
set_option linter.unusedSimpArgs false
set_option maxRecDepth 100000
attribute [local go_sem] Oper.semAt_some
attribute [local go_sem ↓] Go.wp_at_zero Go.wp_at_succ
def fOf (ps : List Int) (a : Nat) : Bool := ps.any fun p => p == (a : Int)
theorem fOf_more (ps : List Int) (k a : Nat) : (if a = k then true else fOf ps a) = fOf (ps ++ [(k : Int)]) a := by
  unfold fOf
  rw [List.any_append]
  by_cases h : a = k
  · subst h; simp
  · have : ((k : Int) == (a : Int)) = false := by rw [beq_eq_false_iff_ne]; omega
    simp [h, this]
theorem fOf_iff (ps : List Int) (a : Nat) : fOf ps a = true ↔ (a : Int) ∈ ps := by
  unfold fOf
  rw [List.any_eq_true]
  constructor
  · rintro ⟨p, hp, h⟩
    rw [beq_iff_eq] at h
    rwa [← h]
  · intro h
    exact ⟨_, h, by simp⟩
set_option maxHeartbeats 2000000 in
theorem setOf_any (ps : List Int) (pa : Option Addr) (pc : Nat) (w : World) (hp : Rows w 1 pa pc (ps.map chCells)) (hin : ∀ p ∈ ps, 0 ≤ p ∧ p < 256) :
    Calls Tryz.prog 80 #[.slice pa ps.length pc] w fun e w' => e = .returned (.agg (boolRow 256 (fOf ps))) ∧ Below w.heap.size w w' := by
  have hpI := rows_len hp
  have hpH : Hid (Rows w 1 pa pc (ps.map chCells)) := hp
  have hinH : Hid (∀ p ∈ ps, 0 ≤ p ∧ p < 256) := hin
  have huS : Hid (Tryz.prog.underlying 142 = _) := Tryz.underlying142
  have hzS : Hid (∀ w, (zeroValue 142).run Tryz.prog w = .ok (.agg (boolRow 256 fun _ => false)) w) := zeroSt
  have hb2 := boxed2 w (.cells (boolRow 256 fun _ => false) 142) (.cells (boolRow 256 fun _ => false) 142)
  have hR0 : ((w.alloc (.cells (boolRow 256 fun _ => false) 142)).alloc (.cells (boolRow 256 fun _ => false) 142)).heap[w.heap.size]? = some (.cells (boolRow 256 fun _ => false) 142) := (Below.heap_alloc _ _ _ (by simp [World.size_alloc])).trans (heap_alloc_new w _)
  have hP0 : ((w.alloc (.cells (boolRow 256 fun _ => false) 142)).alloc (.cells (boolRow 256 fun _ => false) 142)).heap[w.heap.size + 1]? = some (.cells (boolRow 256 fun _ => false) 142) := by
    have := heap_alloc_new (w.alloc (.cells (boolRow 256 fun _ => false) 142)) (.cells (boolRow 256 fun _ => false) 142)
    rwa [World.size_alloc] at this
  have s0 : Hid (SetB w ((w.alloc (.cells (boolRow 256 fun _ => false) 142)).alloc (.cells (boolRow 256 fun _ => false) 142)) (w.heap.size + 1) (fOf (ps.take 0)) ∧ ((w.alloc (.cells (boolRow 256 fun _ => false) 142)).alloc (.cells (boolRow 256 fun _ => false) 142)).heap[w.heap.size]? = some (.cells (boolRow 256 fun _ => false) 142)) := ⟨⟨hP0, hb2, by omega⟩, hR0⟩
  clear hp hin hb2 hR0 hP0
  go_enter Tryz.func80, Tryz.ntmps80
  go_wp2_with (first
    | (refine wpList_alloc_big rfl 142 rfl hzS.out ?_; (try rw [World.size_alloc])))
  generalize (w.alloc (.cells (boolRow 256 fun _ => false) 142)).alloc (.cells (boolRow 256 fun _ => false) 142) = W0 at *
  obtain ⟨P, hP⟩ : ∃ P, w.heap.size + 1 = P := ⟨_, rfl⟩
  have hPH : Hid (w.heap.size + 1 = P) := hP
  rw [hP] at s0 ⊢
  clear hP
  go_loopw [8] (fun u wr => ∃ k : Nat, k ≤ ps.length ∧ u = .int .i64 k ∧ Hid (SetB w wr P (fOf (ps.take k)) ∧ wr.heap[w.heap.size]? = some (.cells (boolRow 256 fun _ => false) 142))) (fun u _ => ps.length - (intOf u).toNat)
  case atStart => exact ⟨0, Nat.zero_le _, rfl, s0⟩
  case round =>
    obtain ⟨k, hk, rfl, hs⟩ := hrel
    clear s0
    by_cases hlt : k < ps.length
    · obtain ⟨y, hy, hym⟩ := get_lt ps k hlt
      obtain ⟨y0, y1⟩ := hinH.out y hym
      obtain ⟨b1, o1, hix1, hbl1, c1⟩ := ch_ix (hpH.out.later hs.out.1.b) k y hy
      obtain ⟨a, rfl⟩ := Int.eq_ofNat_of_zero_le y0
      have hkI : (k : Int) < ps.length := by omega
      have xP := ix_set P a (by omega)
      have hcl : Hid (wr.cell? ⟨P, a, none⟩ = some (.bool (fOf (ps.take k) a)) ∧ wr.frozen? ⟨P, a, none⟩ = false) := hs.out.1.cell (by omega)
      have hnx : Hid (SetB w (wr.setCell ⟨P, a, none⟩ (.bool true)) P (fOf (ps.take (k + 1))) ∧ (wr.setCell ⟨P, a, none⟩ (.bool true)).heap[w.heap.size]? = some (.cells (boolRow 256 fun _ => false) 142)) := by
        refine ⟨?_, (Below.heap_setCell _ _ _ _ (by show w.heap.size ≠ P; have := hPH.out; omega)).trans hs.out.2⟩
        rw [take_one ps k _ hy]
        exact (hs.out.1.put a true).cong fun b => fOf_more (ps.take k) a b
      clear hs hy hym y0 y1 hbl1
      go_wp2_with (first
        | (refine wpList_putb rfl 4 _ _ rfl ⟨P, a, none⟩ rfl true rfl (by kernel_rfl) _ hcl.out.1 hcl.out.2 ?_; intro W3 hW3; (have s3 : Hid (SetB w W3 P (fOf (ps.take (k + 1))) ∧ W3.heap[w.heap.size]? = some (.cells (boolRow 256 fun _ => false) 142)) := by (rw [hW3]; exact hnx.out)); clear hW3 hnx hcl))
      go_roundw
      case rel => exact ⟨k + 1, by omega, by go_num, s3⟩
      case measure => simp [intOf]; omega
    · have hk2 : k = ps.length := by omega
      subst hk2
      rw [List.take_length] at hs
      go_wp2_with (first
        | (refine wpList_load_row rfl 142 _ rfl P rfl _ _ _ _ hs.out.1.s huS.out rfl (infoSt _) ?_)
        | (refine wpList_store_row rfl 142 _ _ rfl w.heap.size (boolRow 256 (fOf ps)) rfl rfl _ _ hs.out.2 (infoSt _) (by rw [boolRow_size, boolRow_size]) (boolRow_one _ _) ?_))
      exact bodyPost_ret (results_cell_row Tryz.results80 _ _ w.heap.size 142 _ (0, 0) _ rfl (setRow_heap wr w.heap.size _ _ _ _ hs.out.2) huS.out rfl (infoSt _)) rfl ⟨rfl, below_setRow hs.out.1.b (Nat.le_refl _) _⟩
/-- One edge: what is behind it in, then what is ahead of it. -/
def cst (f : Nat → Bool) (p : Nat × Nat) (a : Nat) : Bool := if a = p.1 then (f p.1 || f p.2) else f a
def cfd (E : List (Nat × Nat)) (f : Nat → Bool) (pre : List { i : Nat // i < E.length }) : Nat → Bool := pre.foldl (fun g x => cst g (E.getD x.1 (0, 0))) f
theorem cfd_more (E : List (Nat × Nat)) (f : Nat → Bool) (pre : List { i : Nat // i < E.length }) (x : { i : Nat // i < E.length }) : cfd E f (pre ++ [x]) = cst (cfd E f pre) (E.getD x.1 (0, 0)) := by unfold cfd; rw [List.foldl_append]; rfl
/-- Between two rounds of closed. -/
structure Cl (w : World) (rv : Array Value) (f : Nat → Bool) (W : World) : Prop where
  rb : W.heap[w.heap.size]? = some (.cells rv 138)
  sb : W.heap[w.heap.size + 1]? = some (.cells (boolRow 256 f) 142)
  zb : W.heap[w.heap.size + 2]? = some (.cells (boolRow 256 fun _ => false) 142)
  be : Below w.heap.size w W
  sz : w.heap.size + 4 ≤ W.heap.size
theorem Cl.keep {w : World} {rv : Array Value} {f : Nat → Bool} {W W' : World} (h : Cl w rv f W) (hs : W.heap.size ≤ W'.heap.size) (hb : Below w.heap.size W W') (hk : ∀ b, w.heap.size ≤ b → b < w.heap.size + 3 → W'.heap[b]? = W.heap[b]?) : Cl w rv f W' :=
  ⟨(hk _ (by omega) (by omega)).trans h.rb, (hk _ (by omega) (by omega)).trans h.sb, (hk _ (by omega) (by omega)).trans h.zb, h.be.trans hb, by have := h.sz; omega⟩
theorem Cl.later {w : World} {rv : Array Value} {f : Nat → Bool} {W W' : World} (h : Cl w rv f W) (hb : Below W.heap.size W W') : Cl w rv f W' :=
  h.keep hb.size (hb.mono (by have := h.sz; omega)) fun b _ q => hb.block b (by have := h.sz; omega)
theorem Cl.own {w : World} {rv : Array Value} {f : Nat → Bool} {W W' : World} {B : Nat} {row : Option Nat} (h : Cl w rv f W) (hB : w.heap.size + 4 ≤ B) (hgr : W.grownBy W' row) (hr : ∀ r, row = some r → B ≤ r ∧ ∃ o : Obj, W.heap[r]? = some o ∧ o.isCells = false) : Cl w rv f W' :=
  h.keep hgr.size ((Below.refl w.heap.size W).grown hgr (by have := h.sz; omega) fun k e => by have := (hr k e).1; omega) fun b q1 q2 => hgr.block b (by have := h.sz; omega) fun e => by have := (hr b e.symm).1; omega
theorem Cl.round {w : World} {rv : Array Value} {f : Nat → Bool} {W W' : World} {B : Nat} (h : Cl w rv f W) (hB : w.heap.size + 4 ≤ B) (hs : W.heap.size ≤ W'.heap.size) (hb : Below w.heap.size W W') (hk : ∀ b, b < W.heap.size → b ≠ w.heap.size + 1 → W'.heap[b]? = W.heap[b]?) : KeepsFrom B W W' ∧ Keeps w.heap.size (w.heap.size + 3) W W' := by
  have hz := h.sz
  refine ⟨⟨hs, fun k o q1 q2 q3 => ?_⟩, hb, hk _ (by omega) (by omega)⟩
  rw [hk k (Array.getElem?_eq_some_iff.mp q2).1 (by omega)]
  exact q2
theorem alloc4 (w : World) (o1 o2 o3 o4 : Obj) : ((((w.alloc o1).alloc o2).alloc o3).alloc o4).heap[w.heap.size]? = some o1 ∧ ((((w.alloc o1).alloc o2).alloc o3).alloc o4).heap[w.heap.size + 1]? = some o2 ∧ ((((w.alloc o1).alloc o2).alloc o3).alloc o4).heap[w.heap.size + 2]? = some o3 ∧ ((((w.alloc o1).alloc o2).alloc o3).alloc o4).heap[w.heap.size + 3]? = some o4 ∧ Below w.heap.size w ((((w.alloc o1).alloc o2).alloc o3).alloc o4) ∧ ((((w.alloc o1).alloc o2).alloc o3).alloc o4).heap.size = w.heap.size + 4 := by
  have z1 : (w.alloc o1).heap.size = w.heap.size + 1 := World.size_alloc _ _
  have z2 : ((w.alloc o1).alloc o2).heap.size = w.heap.size + 2 := by rw [World.size_alloc, z1]
  have z3 : (((w.alloc o1).alloc o2).alloc o3).heap.size = w.heap.size + 3 := by rw [World.size_alloc, z2]
  have z4 : ((((w.alloc o1).alloc o2).alloc o3).alloc o4).heap.size = w.heap.size + 4 := by rw [World.size_alloc, z3]
  have b1 := boxed w o1
  have b2 := boxed (w.alloc o1) o2
  have b3 := boxed ((w.alloc o1).alloc o2) o3
  have b4 := boxed (((w.alloc o1).alloc o2).alloc o3) o4
  have h1 := heap_alloc_new w o1
  have h2 := heap_alloc_new (w.alloc o1) o2
  have h3 := heap_alloc_new ((w.alloc o1).alloc o2) o3
  have h4 := heap_alloc_new (((w.alloc o1).alloc o2).alloc o3) o4
  rw [z1] at h2
  rw [z2] at h3
  rw [z3] at h4
  exact ⟨(b4.block _ (by omega)).trans ((b3.block _ (by omega)).trans ((b2.block _ (by omega)).trans h1)), (b4.block _ (by omega)).trans ((b3.block _ (by omega)).trans h2), (b4.block _ (by omega)).trans h3, h4, bthen (bthen (bthen b1 b2) b3) b4, z4⟩
theorem wpList_load1g {P : Program} {ops : Array Oper} {rest : List Oper} {o : Oper} {a : Act} {w : World} {Q : Exit → Act → World → Prop} (hw : Region.wanted o (yielded ops a.tmps) = true) (ty : TypeId) (x : Operand) (ho : o.op = .load ty x) (ad : Addr) (hx : a.eval x = .pointer (some ad)) (d : TypeDesc) (hu : P.underlying ty = some d) (hd : d.isRow = false) (v : Value) (hc : w.cell? ad = some v)
    (h : wpList P ops Q rest (a.put o.dst v) w) : wpList P ops Q (o :: rest) a w := BigFrame.wpList_want hw fun K hK => by
  unfold Oper.wp
  rw [run_load1 ty x ho ad hx d hu hd hc]
  exact hK _ _ h
theorem reg_skip {P : Program} {ops : Array Oper} {Q : Exit → Act → World → Prop} {S : World → Prop} {fuel : Nat} {listed : Array Bool} {a : Act} {w : World} {i : Nat} {o : Oper} (ho : ops[i]? = some o) (hs : Region.noSelect ops = true) (hf : Region.free .any ops listed i = true) (hr : (Region.ready .any ops listed).contains i = true)
    (hQ : ∀ c v a w, Q (.panic c) (a.put o.dst v) w → Q (.panic c) a w) (hw : Region.wanted o (yielded ops a.tmps) = false) (hSw : S w)
    (h : wpAnyH P .any ops Q S fuel (listed.setIfInBounds i true) (a.put o.dst undef) w) : wpAnyH P .any ops Q S (fuel + 1) listed a w :=
  wpAnyH_take ho hs hf hr (fun c a w => hQ c _ a w) (.inr ⟨hw, rfl⟩) hSw h
end Go.Proofs.YtafefnkgdnmjbaaGreatDoor.pg
/- Package race's races: the edges between events of two goroutines that a function says yes to. -/
namespace Go.Proofs.YtafefnkgdnmjbaaGreatDoor.pg
open Go.ChangeShapes Go.WideShapes Go.ChangeAt Go.RowKit Go.Shelf
set_option linter.unusedVariables false
set_option linter.unusedSimpArgs false
set_option maxRecDepth 100000
attribute [local go_sem ↓] Go.wp_at_zero Go.wp_at_succ
/-- A call of a function's value, the only operation that may come up. -/
theorem reg_callv {P : Program} {ops : Array Oper} {Q : Exit → Act → World → Prop} {S : World → Prop} {fuel : Nat} {listed : Array Bool} {a : Act} {w : World} {i : Nat} {o : Oper} (hr : Region.ready .any ops listed = [i]) (ho : ops[i]? = some o) (hw : Region.wanted o (yielded ops a.tmps) = true) (f : FuncId) (x y z : Operand) (ts : Array TypeId) (pre post : Array Value)
    (hc0 : o.op = .call { callee := .value x, args := #[y, z], argTypes := ts }) (hx : a.eval x = .func (.func f) pre post) (v v2 : Value) (hv : a.eval y = v) (hv2 : a.eval z = v2) (hcf : ∀ args w, (callFunc f args).run P w = .ok (.enter f args) w) (R : Ending → World → Prop) (hc : Calls P f (pre ++ #[v, v2] ++ post) w R)
    (hK : ∀ e w', R e w' → ∃ v, e = .returned v ∧ S w' ∧ (S w' → wpAnyH P .any ops Q S fuel (listed.setIfInBounds i true) (a.put o.dst v) w')) :
    wpAnyH P .any ops Q S (fuel + 1) listed a w := by
  refine wpAnyH_ready hr (by simp) (AllReadyH.cons ho (fun K hK2 => ?_) AllReadyH.nil)
  rw [if_pos hw]
  have hrun : (execOp a.eval o).run P w = .ok (.enter f (pre ++ #[v, v2] ++ post)) w := by
    simp [execOp, hc0, resolve, invoke, hx, Deferred.ofValue, hcf, hv, hv2]
  unfold Oper.wp
  rw [hrun, Oper.upon_enter]
  refine hc.mono fun e w' h => ?_
  obtain ⟨v, rfl, hs, hk⟩ := hK e w' h
  exact hK2.out _ _ hs hk
/-- An event of a trace in memory, at its place. -/
theorem ev_at (l : List Ev) (la : Option Addr) (lc : Nat) {w : World} (hl : Rows w 26 la lc (l.map Ev.cells)) {i : Nat} {x : Ev} (hi : l[i]? = some x) : ∃ b o, (∀ wx, (Instr.indexAt 22 (.slice la l.length lc) (.int .i64 (i : Int))).run Tryz.prog wx = .ok (.pointer (some ⟨b, o, none⟩)) wx) ∧ b < w.heap.size ∧ w.rangeAt b o x.cells := by
  obtain ⟨b, o, h1, h2, h3⟩ := hl.ix 22 69 Tryz.underlying22 (by kernel_rfl) (fun wx => Tryz.sizeOf69 wx) i (row := x.cells) (by simp [hi])
  rw [List.length_map] at h1
  exact ⟨b, o, h1, h2, h3⟩
set_option maxHeartbeats 2000000 in
theorem races1_any (yf : Nat) (pre post : Array Value) (ey : ∀ args w, (callFunc yf args).run Tryz.prog w = .ok (.enter yf args) w) (l : List Ev) (la : Option Addr) (lc : Nat) (w : World) (hl : Rows w 26 la lc (l.map Ev.cells)) (i j : Nat) (x y : Ev) (hi : l[i]? = some x) (hj : l[j]? = some y) (Bt By : Nat)
    (hBt : w.heap[Bt]? = some (.cells #[.slice la l.length lc] 22)) (hBy : w.heap[By]? = some (.cells #[.func (.func yf) pre post] 70)) (Y : Bool)
    (hy : ∀ wx, Below w.heap.size w wx → Calls Tryz.prog yf (pre ++ #[.agg x.cells.toArray, .agg y.cells.toArray] ++ post) wx fun e w' => e = .returned (.bool Y) ∧ Below wx.heap.size wx w') (R : Bool) (hR : Hid (R = (!(x.go == y.go) && Y))) :
    Calls Tryz.prog 91 #[.int .i64 (i : Int), .int .i64 (j : Int), .pointer (some ⟨Bt, 0, none⟩), .pointer (some ⟨By, 0, none⟩)] w fun e w' => e = .returned (.bool R) ∧ Below w.heap.size w w' := by
  obtain ⟨b, o, ixi, hb, hri⟩ := ev_at l la lc hl hi
  obtain ⟨c, q, ixj, hc, hrj⟩ := ev_at l la lc hl hj
  have hF : ∀ w', Below w.heap.size w w' → w'.cell? ⟨Bt, 0, none⟩ = some (.slice la l.length lc) ∧ w'.cell? ⟨By, 0, none⟩ = some (.func (.func yf) pre post) ∧ w'.rangeAt b o x.cells ∧ w'.rangeAt c q y.cells ∧ w'.cell? ⟨b, o, none⟩ = some (.int .i64 x.go) ∧ w'.cell? ⟨c, q, none⟩ = some (.int .i64 y.go) := fun w' h => by
    have r1 := range_block hri (h.block b hb)
    have r2 := range_block hrj (h.block c hc)
    exact ⟨cell_of ((h.block Bt (Array.getElem?_eq_some_iff.mp hBt).1).trans hBt) rfl, cell_of ((h.block By (Array.getElem?_eq_some_iff.mp hBy).1).trans hBy) rfl, r1, r2, r1 0 _ rfl, r2 0 _ rfl⟩
  have hS : Hid (Below w.heap.size w w.drew) := bey_drew w
  have hFH : Hid _ := hF
  clear hl hi hj hBt hBy hri hrj hF
  go_enter Tryz.func91, Tryz.ntmps91
  go_wp2_with fail
  refine wp_region_noPanic ?_
  refine wp_region_held_drew (S := fun w' => Below w.heap.size w w') (by kernel_rfl) hS.out (fun _ => ?_)
  refine reg_load1 (i := 0) rfl (by kernel_rfl) (by kernel_rfl) (by kernel_rfl) (fun _ _ _ _ h => h) rfl 22 _ rfl ⟨Bt, 0, none⟩ rfl _ Tryz.underlying22 rfl (.slice la l.length lc) (fun w' h' => (hFH.out w' h').1) hS.out ?_
  simp only [Act.put, List.getElem_toArray, List.getElem_cons_succ, List.getElem_cons_zero, List.setIfInBounds_toArray, List.set_cons_zero, List.set_cons_succ]
  refine reg_move (i := 1) rfl (by kernel_rfl) (by kernel_rfl) (by kernel_rfl) (fun _ _ _ _ h => h) rfl (.int .i64 (i : Int)) (fun _ => rfl) hS.out ?_
  simp only [Act.put, List.getElem_toArray, List.getElem_cons_succ, List.getElem_cons_zero, List.setIfInBounds_toArray, List.set_cons_zero, List.set_cons_succ]
  refine reg_move (i := 2) rfl (by kernel_rfl) (by kernel_rfl) (by kernel_rfl) (fun _ _ _ _ h => h) rfl (.pointer (some ⟨b, o, none⟩)) (fun wx => by unfold execOp; exact run_value_of (ixi wx)) hS.out ?_
  simp only [Act.put, List.getElem_toArray, List.getElem_cons_succ, List.getElem_cons_zero, List.setIfInBounds_toArray, List.set_cons_zero, List.set_cons_succ]
  refine reg_move (i := 3) rfl (by kernel_rfl) (by kernel_rfl) (by kernel_rfl) (fun _ _ _ _ h => h) rfl (.pointer (some ⟨b, o, none⟩)) (fun _ => by kernel_rfl) hS.out ?_
  simp only [Act.put, List.getElem_toArray, List.getElem_cons_succ, List.getElem_cons_zero, List.setIfInBounds_toArray, List.set_cons_zero, List.set_cons_succ]
  refine reg_load1 (i := 4) rfl (by kernel_rfl) (by kernel_rfl) (by kernel_rfl) (fun _ _ _ _ h => h) rfl 3 _ rfl ⟨b, o, none⟩ rfl _ Tryz.underlying3 rfl (.int .i64 x.go) (fun w' h' => (hFH.out w' h').2.2.2.2.1) hS.out ?_
  simp only [Act.put, List.getElem_toArray, List.getElem_cons_succ, List.getElem_cons_zero, List.setIfInBounds_toArray, List.set_cons_zero, List.set_cons_succ]
  refine reg_load1 (i := 5) rfl (by kernel_rfl) (by kernel_rfl) (by kernel_rfl) (fun _ _ _ _ h => h) rfl 22 _ rfl ⟨Bt, 0, none⟩ rfl _ Tryz.underlying22 rfl (.slice la l.length lc) (fun w' h' => (hFH.out w' h').1) hS.out ?_
  simp only [Act.put, List.getElem_toArray, List.getElem_cons_succ, List.getElem_cons_zero, List.setIfInBounds_toArray, List.set_cons_zero, List.set_cons_succ]
  refine reg_move (i := 6) rfl (by kernel_rfl) (by kernel_rfl) (by kernel_rfl) (fun _ _ _ _ h => h) rfl (.int .i64 (j : Int)) (fun _ => rfl) hS.out ?_
  simp only [Act.put, List.getElem_toArray, List.getElem_cons_succ, List.getElem_cons_zero, List.setIfInBounds_toArray, List.set_cons_zero, List.set_cons_succ]
  refine reg_move (i := 7) rfl (by kernel_rfl) (by kernel_rfl) (by kernel_rfl) (fun _ _ _ _ h => h) rfl (.pointer (some ⟨c, q, none⟩)) (fun wx => by unfold execOp; exact run_value_of (ixj wx)) hS.out ?_
  simp only [Act.put, List.getElem_toArray, List.getElem_cons_succ, List.getElem_cons_zero, List.setIfInBounds_toArray, List.set_cons_zero, List.set_cons_succ]
  refine reg_move (i := 8) rfl (by kernel_rfl) (by kernel_rfl) (by kernel_rfl) (fun _ _ _ _ h => h) rfl (.pointer (some ⟨c, q, none⟩)) (fun _ => by kernel_rfl) hS.out ?_
  simp only [Act.put, List.getElem_toArray, List.getElem_cons_succ, List.getElem_cons_zero, List.setIfInBounds_toArray, List.set_cons_zero, List.set_cons_succ]
  refine reg_load1 (i := 9) rfl (by kernel_rfl) (by kernel_rfl) (by kernel_rfl) (fun _ _ _ _ h => h) rfl 3 _ rfl ⟨c, q, none⟩ rfl _ Tryz.underlying3 rfl (.int .i64 y.go) (fun w' h' => (hFH.out w' h').2.2.2.2.2) hS.out ?_
  simp only [Act.put, List.getElem_toArray, List.getElem_cons_succ, List.getElem_cons_zero, List.setIfInBounds_toArray, List.set_cons_zero, List.set_cons_succ]
  cases hg : (x.go == y.go) with
  | true =>
    refine reg_move (i := 10) rfl (by kernel_rfl) (by kernel_rfl) (by kernel_rfl) (fun _ _ _ _ h => h) rfl (.bool false) (fun wx => by simp [execOp, go_sem, Act.eval]; simpa using hg) hS.out ?_
    simp only [Act.put, List.getElem_toArray, List.getElem_cons_succ, List.getElem_cons_zero, List.setIfInBounds_toArray, List.set_cons_zero, List.set_cons_succ]
    refine reg_move (i := 11) rfl (by kernel_rfl) (by kernel_rfl) (by kernel_rfl) (fun _ _ _ _ h => h) rfl (.bool false) (fun _ => rfl) hS.out ?_
    simp only [Act.put, List.getElem_toArray, List.getElem_cons_succ, List.getElem_cons_zero, List.setIfInBounds_toArray, List.set_cons_zero, List.set_cons_succ]
    refine reg_skip (i := 12) rfl (by kernel_rfl) (by kernel_rfl) (by kernel_rfl) (fun _ _ _ _ h => h) rfl hS.out ?_
    simp only [Act.put, List.getElem_toArray, List.getElem_cons_succ, List.getElem_cons_zero, List.setIfInBounds_toArray, List.set_cons_zero, List.set_cons_succ]
    refine reg_skip (i := 13) rfl (by kernel_rfl) (by kernel_rfl) (by kernel_rfl) (fun _ _ _ _ h => h) rfl hS.out ?_
    simp only [Act.put, List.getElem_toArray, List.getElem_cons_succ, List.getElem_cons_zero, List.setIfInBounds_toArray, List.set_cons_zero, List.set_cons_succ]
    refine reg_skip (i := 14) rfl (by kernel_rfl) (by kernel_rfl) (by kernel_rfl) (fun _ _ _ _ h => h) rfl hS.out ?_
    simp only [Act.put, List.getElem_toArray, List.getElem_cons_succ, List.getElem_cons_zero, List.setIfInBounds_toArray, List.set_cons_zero, List.set_cons_succ]
    refine reg_skip (i := 15) rfl (by kernel_rfl) (by kernel_rfl) (by kernel_rfl) (fun _ _ _ _ h => h) rfl hS.out ?_
    simp only [Act.put, List.getElem_toArray, List.getElem_cons_succ, List.getElem_cons_zero, List.setIfInBounds_toArray, List.set_cons_zero, List.set_cons_succ]
    refine reg_skip (i := 16) rfl (by kernel_rfl) (by kernel_rfl) (by kernel_rfl) (fun _ _ _ _ h => h) rfl hS.out ?_
    simp only [Act.put, List.getElem_toArray, List.getElem_cons_succ, List.getElem_cons_zero, List.setIfInBounds_toArray, List.set_cons_zero, List.set_cons_succ]
    refine reg_skip (i := 17) rfl (by kernel_rfl) (by kernel_rfl) (by kernel_rfl) (fun _ _ _ _ h => h) rfl hS.out ?_
    simp only [Act.put, List.getElem_toArray, List.getElem_cons_succ, List.getElem_cons_zero, List.setIfInBounds_toArray, List.set_cons_zero, List.set_cons_succ]
    refine reg_skip (i := 18) rfl (by kernel_rfl) (by kernel_rfl) (by kernel_rfl) (fun _ _ _ _ h => h) rfl hS.out ?_
    simp only [Act.put, List.getElem_toArray, List.getElem_cons_succ, List.getElem_cons_zero, List.setIfInBounds_toArray, List.set_cons_zero, List.set_cons_succ]
    refine reg_skip (i := 19) rfl (by kernel_rfl) (by kernel_rfl) (by kernel_rfl) (fun _ _ _ _ h => h) rfl hS.out ?_
    simp only [Act.put, List.getElem_toArray, List.getElem_cons_succ, List.getElem_cons_zero, List.setIfInBounds_toArray, List.set_cons_zero, List.set_cons_succ]
    refine reg_skip (i := 20) rfl (by kernel_rfl) (by kernel_rfl) (by kernel_rfl) (fun _ _ _ _ h => h) rfl hS.out ?_
    simp only [Act.put, List.getElem_toArray, List.getElem_cons_succ, List.getElem_cons_zero, List.setIfInBounds_toArray, List.set_cons_zero, List.set_cons_succ]
    refine reg_skip (i := 21) rfl (by kernel_rfl) (by kernel_rfl) (by kernel_rfl) (fun _ _ _ _ h => h) rfl hS.out ?_
    simp only [Act.put, List.getElem_toArray, List.getElem_cons_succ, List.getElem_cons_zero, List.setIfInBounds_toArray, List.set_cons_zero, List.set_cons_succ]
    refine reg_move (i := 22) rfl (by kernel_rfl) (by kernel_rfl) (by kernel_rfl) (fun _ _ _ _ h => h) rfl (.bool false) (fun _ => rfl) hS.out ?_
    simp only [Act.put, List.getElem_toArray, List.getElem_cons_succ, List.getElem_cons_zero, List.setIfInBounds_toArray, List.set_cons_zero, List.set_cons_succ]
    refine reg_move (i := 23) rfl (by kernel_rfl) (by kernel_rfl) (by kernel_rfl) (fun _ _ _ _ h => h) rfl _ (fun _ => rfl) hS.out ?_
    simp only [Act.put, List.getElem_toArray, List.getElem_cons_succ, List.getElem_cons_zero, List.setIfInBounds_toArray, List.set_cons_zero, List.set_cons_succ]
    refine wpAnyH_done (by kernel_rfl) (NoPanic.normal ?_) _
    go_wp2
    go_ret
    exact ⟨by rw [hR.out, hg]; rfl, hS.out⟩
  | false =>
    refine reg_move (i := 10) rfl (by kernel_rfl) (by kernel_rfl) (by kernel_rfl) (fun _ _ _ _ h => h) rfl (.bool true) (fun wx => by simp [execOp, go_sem, Act.eval]; simpa using hg) hS.out ?_
    simp only [Act.put, List.getElem_toArray, List.getElem_cons_succ, List.getElem_cons_zero, List.setIfInBounds_toArray, List.set_cons_zero, List.set_cons_succ]
    refine reg_move (i := 11) rfl (by kernel_rfl) (by kernel_rfl) (by kernel_rfl) (fun _ _ _ _ h => h) rfl (.bool true) (fun _ => rfl) hS.out ?_
    simp only [Act.put, List.getElem_toArray, List.getElem_cons_succ, List.getElem_cons_zero, List.setIfInBounds_toArray, List.set_cons_zero, List.set_cons_succ]
    refine reg_load1 (i := 12) rfl (by kernel_rfl) (by kernel_rfl) (by kernel_rfl) (fun _ _ _ _ h => h) rfl 70 _ rfl ⟨By, 0, none⟩ rfl _ Tryz.underlying70 rfl (.func (.func yf) pre post) (fun w' h' => (hFH.out w' h').2.1) hS.out ?_
    simp only [Act.put, List.getElem_toArray, List.getElem_cons_succ, List.getElem_cons_zero, List.setIfInBounds_toArray, List.set_cons_zero, List.set_cons_succ]
    refine reg_load1 (i := 13) rfl (by kernel_rfl) (by kernel_rfl) (by kernel_rfl) (fun _ _ _ _ h => h) rfl 22 _ rfl ⟨Bt, 0, none⟩ rfl _ Tryz.underlying22 rfl (.slice la l.length lc) (fun w' h' => (hFH.out w' h').1) hS.out ?_
    simp only [Act.put, List.getElem_toArray, List.getElem_cons_succ, List.getElem_cons_zero, List.setIfInBounds_toArray, List.set_cons_zero, List.set_cons_succ]
    refine reg_move (i := 14) rfl (by kernel_rfl) (by kernel_rfl) (by kernel_rfl) (fun _ _ _ _ h => h) rfl (.int .i64 (i : Int)) (fun _ => rfl) hS.out ?_
    simp only [Act.put, List.getElem_toArray, List.getElem_cons_succ, List.getElem_cons_zero, List.setIfInBounds_toArray, List.set_cons_zero, List.set_cons_succ]
    refine reg_move (i := 15) rfl (by kernel_rfl) (by kernel_rfl) (by kernel_rfl) (fun _ _ _ _ h => h) rfl (.pointer (some ⟨b, o, none⟩)) (fun wx => by unfold execOp; exact run_value_of (ixi wx)) hS.out ?_
    simp only [Act.put, List.getElem_toArray, List.getElem_cons_succ, List.getElem_cons_zero, List.setIfInBounds_toArray, List.set_cons_zero, List.set_cons_succ]
    refine reg_load (i := 16) rfl (by kernel_rfl) (by kernel_rfl) (by kernel_rfl) (fun _ _ _ _ h => h) rfl 69 _ rfl b o rfl x.cells _ (fun w' h' => (hFH.out w' h').2.2.1) Tryz.underlying69 rfl infoE26 hS.out ?_
    simp only [Act.put, List.getElem_toArray, List.getElem_cons_succ, List.getElem_cons_zero, List.setIfInBounds_toArray, List.set_cons_zero, List.set_cons_succ]
    refine reg_load1 (i := 17) rfl (by kernel_rfl) (by kernel_rfl) (by kernel_rfl) (fun _ _ _ _ h => h) rfl 22 _ rfl ⟨Bt, 0, none⟩ rfl _ Tryz.underlying22 rfl (.slice la l.length lc) (fun w' h' => (hFH.out w' h').1) hS.out ?_
    simp only [Act.put, List.getElem_toArray, List.getElem_cons_succ, List.getElem_cons_zero, List.setIfInBounds_toArray, List.set_cons_zero, List.set_cons_succ]
    refine reg_move (i := 18) rfl (by kernel_rfl) (by kernel_rfl) (by kernel_rfl) (fun _ _ _ _ h => h) rfl (.int .i64 (j : Int)) (fun _ => rfl) hS.out ?_
    simp only [Act.put, List.getElem_toArray, List.getElem_cons_succ, List.getElem_cons_zero, List.setIfInBounds_toArray, List.set_cons_zero, List.set_cons_succ]
    refine reg_move (i := 19) rfl (by kernel_rfl) (by kernel_rfl) (by kernel_rfl) (fun _ _ _ _ h => h) rfl (.pointer (some ⟨c, q, none⟩)) (fun wx => by unfold execOp; exact run_value_of (ixj wx)) hS.out ?_
    simp only [Act.put, List.getElem_toArray, List.getElem_cons_succ, List.getElem_cons_zero, List.setIfInBounds_toArray, List.set_cons_zero, List.set_cons_succ]
    refine reg_load (i := 20) rfl (by kernel_rfl) (by kernel_rfl) (by kernel_rfl) (fun _ _ _ _ h => h) rfl 69 _ rfl c q rfl y.cells _ (fun w' h' => (hFH.out w' h').2.2.2.1) Tryz.underlying69 rfl infoE26 hS.out ?_
    simp only [Act.put, List.getElem_toArray, List.getElem_cons_succ, List.getElem_cons_zero, List.setIfInBounds_toArray, List.set_cons_zero, List.set_cons_succ]
    refine reg_callv (i := 21) (by kernel_rfl) rfl rfl yf _ _ _ _ pre post rfl rfl (.agg x.cells.toArray) (.agg y.cells.toArray) rfl rfl ey _ (hy _ hS.out) ?_
    rintro e w1 ⟨rfl, hb1⟩
    have hS1 : Hid (Below w.heap.size w w1) := bthen hS.out hb1
    refine ⟨_, rfl, hS1.out, fun _ => ?_⟩
    simp only [Act.put, List.getElem_toArray, List.getElem_cons_succ, List.getElem_cons_zero, List.setIfInBounds_toArray, List.set_cons_zero, List.set_cons_succ]
    refine reg_move (i := 22) rfl (by kernel_rfl) (by kernel_rfl) (by kernel_rfl) (fun _ _ _ _ h => h) rfl (.bool Y) (fun _ => rfl) hS1.out ?_
    simp only [Act.put, List.getElem_toArray, List.getElem_cons_succ, List.getElem_cons_zero, List.setIfInBounds_toArray, List.set_cons_zero, List.set_cons_succ]
    refine reg_move (i := 23) rfl (by kernel_rfl) (by kernel_rfl) (by kernel_rfl) (fun _ _ _ _ h => h) rfl _ (fun _ => rfl) hS1.out ?_
    simp only [Act.put, List.getElem_toArray, List.getElem_cons_succ, List.getElem_cons_zero, List.setIfInBounds_toArray, List.set_cons_zero, List.set_cons_succ]
    refine wpAnyH_done (by kernel_rfl) (NoPanic.normal ?_) _
    go_wp2
    go_ret
    exact ⟨by rw [hR.out, hg]; rfl, hS1.out⟩
end Go.Proofs.YtafefnkgdnmjbaaGreatDoor.pg
/- The document's own Edge and Edges. -/
namespace Go.Proofs.YtafefnkgdnmjbaaGreatDoor.pg
open Go.ChangeShapes Go.WideShapes Go.ChangeAt Go.RowKit Go.Shelf
set_option linter.unusedVariables false
set_option linter.unusedSimpArgs false
set_option maxRecDepth 100000
attribute [local go_sem ↓] Go.wp_at_zero Go.wp_at_succ
set_option maxHeartbeats 1000000 in
theorem redge_any (lo A n : Nat) (rb : Nat → Nat) {d B : Nat → Nat → Bool} (hB : Tells d B) (i j : Nat) (w : World) (hm : Mat w lo A n n rb B) (hn : n ≤ 256) (hij : i < j) (hj : j < n) (R : Bool) (hR : Hid (R = edgeB d B i j)) :
    Calls Tryz.prog 93 #[.slice (some ⟨A, 0, none⟩) n n, .int .i64 (i : Int), .int .i64 (j : Int)] w fun e w' => e = .returned (.bool R) ∧ w' = w := by
  have hmH : Hid (Mat w lo A n n rb B) := hm
  have hnI : (n : Int) ≤ 256 := by omega
  have hiI : (i : Int) < 256 := by omega
  have hjI : (j : Int) < 256 := by omega
  have hyes : Hid (B i j = true → (∀ k, i < k → k < j → ¬ (B i k = true ∧ B k j = true)) → R = true) := fun h1 h2 => by
    rw [hR.out, edgeB_is hB]
    refine ⟨(hB i j).mp h1, fun k hk => ?_⟩
    exact h2 k hk.1.lt hk.2.lt ⟨(hB i k).mpr hk.1, (hB k j).mpr hk.2⟩
  have hno1 : Hid (B i j = false → R = false) := fun h1 => by
    rw [hR.out, Bool.eq_false_iff]
    intro q
    have := (hB i j).mpr ((edgeB_is hB).mp q).1
    rw [h1] at this; cases this
  have hno2 : Hid (∀ k, B i k = true → B k j = true → R = false) := fun k h1 h2 => by
    rw [hR.out, Bool.eq_false_iff]
    intro q
    exact ((edgeB_is hB).mp q).2 k ⟨(hB i k).mp h1, (hB k j).mp h2⟩
  have xI := ix_row A n i (by omega)
  have rI := hm.row (i := i) (by omega) (by omega)
  have xJ := ix_bool (rb i) n j hj
  have cJ := (hm.cell (i := i) (j := j) (by omega) hj).1
  clear hm hR hB
  obtain ⟨P, hP⟩ : ∃ P, B i j = P := ⟨_, rfl⟩
  rw [hP] at cJ
  have hPH : Hid (B i j = P) := hP
  clear hP
  cases P with
  | false =>
    have e : R = false := hno1.out hPH.out
    subst e
    go_enter Tryz.func93, Tryz.ntmps93
    go_wp2
    go_ret
    exact ⟨rfl, rfl⟩
  | true =>
    have hw1 : wrap64 ((i : Int) + 1) = (i : Int) + 1 := by simp only [wrap64]; omega
    go_enter Tryz.func93, Tryz.ntmps93
    go_wp2_with fail
    clear xJ cJ
    go_loopw [7] (fun u wr => ∃ k : Nat, i + 1 ≤ k ∧ k ≤ j ∧ u = .int .i64 k ∧ wr = w ∧ Hid (∀ q, i < q → q < k → ¬ (B i q = true ∧ B q j = true))) (fun u _ => j - (intOf u).toNat)
    case atStart => exact ⟨i + 1, Nat.le_refl _, by omega, by go_num, rfl, fun q h1 h2 => by omega⟩
    case round =>
      obtain ⟨k, hk1, hk2, rfl, rfl, hall⟩ := hrel
      by_cases hlt : k < j
      · have hkI : (k : Int) < j := by omega
        have xK := ix_bool (rb i) n k (by omega)
        have cK := (hmH.out.cell (i := i) (j := k) (by omega) (by omega)).1
        have xA := ix_row A n k (by omega)
        have rK := hmH.out.row (i := k) (by omega) (by omega)
        have xL := ix_bool (rb k) n j hj
        have cL := (hmH.out.cell (i := k) (j := j) (by omega) hj).1
        obtain ⟨P, hP⟩ : ∃ P, B i k = P := ⟨_, rfl⟩
        obtain ⟨Q, hQ⟩ : ∃ Q, B k j = Q := ⟨_, rfl⟩
        rw [hP] at cK
        rw [hQ] at cL
        have hPQ : Hid (B i k = P ∧ B k j = Q) := ⟨hP, hQ⟩
        have hmore : Hid (¬ (P = true ∧ Q = true) → ∀ q, i < q → q < k + 1 → ¬ (B i q = true ∧ B q j = true)) := fun h q h1 h2 => by
          by_cases e : q = k
          · rw [e, hPQ.out.1, hPQ.out.2]; exact h
          · exact hall.out q h1 (by omega)
        clear hP hQ hall
        cases P with
        | false =>
          go_wp2
          go_roundw
          case rel => exact ⟨k + 1, by omega, by omega, by go_num, trivial, hmore.out (by simp)⟩
          case measure => simp [intOf]; omega
        | true =>
          cases Q with
          | false =>
            go_wp2
            go_roundw
            case rel => exact ⟨k + 1, by omega, by omega, by go_num, trivial, hmore.out (by simp)⟩
            case measure => simp [intOf]; omega
          | true =>
            have e : R = false := hno2.out k hPQ.out.1 hPQ.out.2
            subst e
            go_wp2
            go_ret
            exact ⟨rfl, rfl⟩
      · have hk3 : k = j := by omega
        subst hk3
        have e : R = true := hyes.out hPH.out hall.out
        subst e
        go_wp2
        go_ret
        exact ⟨rfl, rfl⟩
/-- The edges from i to places below k. -/
def eRow (e : Nat → Nat → Bool) (i : Nat) : Nat → List (Nat × Nat)
  | 0 => []
  | k + 1 => eRow e i k ++ (if i < k ∧ e i k = true then [(i, k)] else [])
def eAll (e : Nat → Nat → Bool) (n : Nat) : Nat → List (Nat × Nat)
  | 0 => []
  | i + 1 => eAll e n i ++ eRow e i n
theorem eRow_len (e : Nat → Nat → Bool) (i : Nat) : ∀ k, (eRow e i k).length ≤ k
  | 0 => Nat.le_refl _
  | k + 1 => by have := eRow_len e i k; rw [eRow, List.length_append]; split <;> simp <;> omega
theorem eAll_len (e : Nat → Nat → Bool) (n : Nat) : ∀ i, (eAll e n i).length ≤ n * i
  | 0 => Nat.zero_le _
  | i + 1 => by have h1 := eAll_len e n i; have h2 := eRow_len e i n; rw [eAll, List.length_append, Nat.mul_add]; omega
theorem eRow_mem (e : Nat → Nat → Bool) (i : Nat) (p : Nat × Nat) : ∀ k, p ∈ eRow e i k ↔ p.1 = i ∧ i < p.2 ∧ p.2 < k ∧ e i p.2 = true
  | 0 => by simp [eRow]
  | k + 1 => by
    rw [eRow, List.mem_append, eRow_mem e i p k]
    constructor
    · rintro (⟨h1, h2, h3, h4⟩ | h)
      · exact ⟨h1, h2, by omega, h4⟩
      · split at h
        · rename_i c
          rw [List.mem_singleton] at h
          subst h
          exact ⟨rfl, c.1, by show k < k + 1; omega, c.2⟩
        · simp at h
    · rintro ⟨h1, h2, h3, h4⟩
      by_cases c : p.2 = k
      · right
        rw [c] at h2 h4
        rw [if_pos ⟨h2, h4⟩, List.mem_singleton]
        exact Prod.ext h1 c
      · exact .inl ⟨h1, h2, by omega, h4⟩
theorem eAll_mem (e : Nat → Nat → Bool) (n : Nat) (p : Nat × Nat) : ∀ i, p ∈ eAll e n i ↔ p.1 < i ∧ p.1 < p.2 ∧ p.2 < n ∧ e p.1 p.2 = true
  | 0 => by simp [eAll]
  | i + 1 => by
    rw [eAll, List.mem_append, eAll_mem e n p i, eRow_mem e i p n]
    constructor
    · rintro (⟨h1, h2, h3, h4⟩ | ⟨h1, h2, h3, h4⟩)
      · exact ⟨by omega, h2, h3, h4⟩
      · rw [h1]; exact ⟨by omega, h2, h3, h4⟩
    · rintro ⟨h1, h2, h3, h4⟩
      by_cases c : p.1 = i
      · right; rw [c] at h2 h4; exact ⟨c, h2, h3, h4⟩
      · exact .inl ⟨by omega, h2, h3, h4⟩
/-- Strictly one behind the other. -/
def lexS (x y : Nat × Nat) : Prop := x.1 < y.1 ∨ x.1 = y.1 ∧ x.2 < y.2
theorem eRow_up (e : Nat → Nat → Bool) (i : Nat) : ∀ k, (eRow e i k).Pairwise lexS
  | 0 => .nil
  | k + 1 => by
    rw [eRow, List.pairwise_append]
    refine ⟨eRow_up e i k, by split <;> simp, fun a ha b hb => ?_⟩
    have h1 := (eRow_mem e i a k).mp ha
    split at hb
    · rw [List.mem_singleton] at hb
      subst hb
      exact .inr ⟨h1.1, h1.2.2.1⟩
    · simp at hb
theorem eAll_up (e : Nat → Nat → Bool) (n : Nat) : ∀ i, (eAll e n i).Pairwise lexS
  | 0 => .nil
  | i + 1 => by
    rw [eAll, List.pairwise_append]
    refine ⟨eAll_up e n i, eRow_up e i n, fun a ha b hb => ?_⟩
    have h1 := (eAll_mem e n a i).mp ha
    have h2 := (eRow_mem e i b n).mp hb
    exact .inl (by omega)
/-- Sorted, the edges are the document's own list. -/
theorem edges_same {l : List Ev} (hrt : ∀ x ∈ l, rightP x) {B : Nat → Nat → Bool} (hB : Tells (dpf l) B) {D : List (Nat × Nat)} (hp : D.Perm (rel (evf l) l.length).2) (hs : D.Pairwise lex) : D = eAll (edgeB (dpf l) B) l.length l.length := by
  have hnd : (eAll (edgeB (dpf l) B) l.length l.length).Nodup := (eAll_up _ _ _).imp fun {a b} h q => by subst q; unfold lexS at h; omega
  have hD : D.Nodup := by
    rw [hp.nodup_iff, rel_list hrt hB l.length (Nat.le_refl _)]
    exact elist_nodup _ _
  refine List.Perm.eq_of_pairwise (le := lex) (fun a b _ _ h1 h2 => ?_) hs ((eAll_up _ _ _).imp fun {a b} h => ?_) ((List.perm_ext_iff_of_nodup hD hnd).mpr fun p => ?_)
  · unfold lex at h1 h2
    exact Prod.ext (by omega) (by omega)
  · unfold lexS at h; unfold lex; omega
  · rw [hp.mem_iff, edges_mem hrt hB, eAll_mem]
    constructor
    · rintro ⟨h1, h2, h3⟩; exact ⟨by omega, h1, h2, h3⟩
    · rintro ⟨_, h1, h2, h3⟩; exact ⟨h1, h2, h3⟩
theorem infoPr : (Tryz.prog.info? 71).map (fun i => (i.zero, i.size, i.bytes)) = some (some (.agg #[.int .i64 0, .int .i64 0]), 2, 16) := by kernel_rfl
theorem one2e (p : Nat × Nat) : ∀ u ∈ edg p, u.oneCell' = true := by intro u hu; simp [edg] at hu; rcases hu with rfl | rfl <;> rfl
structure PsS (w wr : World) (L : List (Nat × Nat)) (va : Option Addr) (vc : Nat) : Prop where
  be : Below w.heap.size w wr
  ow : OwnL wr w.heap.size 71 2 va vc (L.map edg)
theorem PsS.later {w wr w' : World} {L : List (Nat × Nat)} {va : Option Addr} {vc : Nat} (h : PsS w wr L va vc) (hb : Below wr.heap.size wr w') : PsS w w' L va vc :=
  ⟨bthen h.be hb, own_keep h.ow fun b hb' => hb.block b (blk_lt h.ow b hb').2⟩
theorem PsS.grown {w wr w' : World} {L : List (Nat × Nat)} {va va' : Option Addr} {vc vc' : Nat} {x : Nat × Nat} (h : PsS w wr L va vc) (hg : Grown wr w.heap.size 71 2 va (L.map edg) (edg x) va' vc' w') : PsS w w' (L ++ [x]) va' vc' :=
  ⟨below_min h.be h.be.size hg.be, by rw [List.map_append]; exact hg.ow⟩
set_option maxHeartbeats 2000000 in
theorem redges_any (l : List Ev) (la : Option Addr) (lc : Nat) (w : World) (hl : Rows w 26 la lc (l.map Ev.cells)) (hlen : l.length ≤ 256) (B : Nat → Nat → Bool) (hB : Tells (dpf l) B) :
    Calls Tryz.prog 43 #[.slice la l.length lc] w fun e w' => ∃ va vc, e = .returned (.slice va (eAll (edgeB (dpf l) B) l.length l.length).length vc) ∧ Rows w' 2 va vc ((eAll (edgeB (dpf l) B) l.length l.length).map edg) ∧ Below w.heap.size w w' := by
  have cM := rbef_any l la lc w hl hlen B hB
  have hlI : (l.length : Int) ≤ 256 := by omega
  have hBH : Hid (Tells (dpf l) B) := hB
  obtain ⟨iP, hiP, hzP, hsP, hbP⟩ := info_q infoPr
  have iPH : Hid (Tryz.prog.info? 71 = some iP ∧ iP.zero = some (.agg #[.int .i64 0, .int .i64 0]) ∧ iP.size = 2 ∧ iP.bytes = 16) := ⟨hiP, hzP, hsP, hbP⟩
  clear hl hB hiP hzP hsP hbP
  obtain ⟨ed, hed⟩ : ∃ ed, edgeB (dpf l) B = ed := ⟨_, rfl⟩
  have hedH : Hid (edgeB (dpf l) B = ed) := hed
  rw [hed]
  clear hed
  go_enter Tryz.func43, Tryz.ntmps43
  go_wp2_with (first
    | (go_at_call 69; (with_reducible refine cM.mono ?_); rintro e w1 ⟨A, rb, rfl, hm'⟩; (have hm : Hid (RbS w w1 A l.length l.length rb B) := hm'); clear hm' cM))
  have s0 : Hid (PsS w1 w1 (eAll ed l.length 0) none 0) := ⟨Below.refl _ _, own_nil_q _ _ _ _⟩
  go_loopw [4, 5] (fun o u wr => ∃ (i : Nat) (va : Option Addr) (vc : Nat), i ≤ l.length ∧ u = .int .i64 i ∧ o = .slice va (eAll ed l.length i).length vc ∧ Hid (PsS w1 wr (eAll ed l.length i) va vc)) (fun _ u _ => l.length - (intOf u).toNat)
  case atStart => exact ⟨0, none, 0, Nat.zero_le _, rfl, rfl, s0⟩
  case round =>
    obtain ⟨i, va, vc, hi, rfl, rfl, hs⟩ := hrel
    clear s0
    by_cases hlt : i < l.length
    · have hiI : (i : Int) < l.length := by omega
      have hw1 : wrap64 ((i : Int) + 1) = (i : Int) + 1 := by simp only [wrap64]; omega
      have hel := eAll_len ed l.length i
      have hel2 : Hid ((eAll ed l.length i).length ≤ 65536) := by
        show _ ≤ _
        have : l.length * i ≤ 256 * 256 := Nat.mul_le_mul hlen (by omega)
        omega
      have t0 : Hid (PsS w1 wr (eAll ed l.length i ++ eRow ed i (i + 1)) va vc) := by
        have e : eRow ed i (i + 1) = [] := by
          rw [List.eq_nil_iff_forall_not_mem]
          intro p hp
          have := (eRow_mem ed i p (i + 1)).mp hp
          omega
        rw [e, List.append_nil]; exact hs.out
      have e0 : (eAll ed l.length i ++ eRow ed i (i + 1)).length = (eAll ed l.length i).length := by
        have e : eRow ed i (i + 1) = [] := by
          rw [List.eq_nil_iff_forall_not_mem]
          intro p hp
          have := (eRow_mem ed i p (i + 1)).mp hp
          omega
        rw [e, List.append_nil]
      have e0H : Hid ((eAll ed l.length i ++ eRow ed i (i + 1)).length = (eAll ed l.length i).length) := e0
      clear hs hel e0
      go_wp2_with fail
      go_loopw [4, 6] (fun o u wq => ∃ (j : Nat) (va : Option Addr) (vc : Nat), i + 1 ≤ j ∧ j ≤ l.length ∧ u = .int .i64 j ∧ o = .slice va (eAll ed l.length i ++ eRow ed i j).length vc ∧ Hid (PsS w1 wq (eAll ed l.length i ++ eRow ed i j) va vc)) (fun _ u _ => l.length - (intOf u).toNat)
      case atStart => exact ⟨i + 1, va, vc, Nat.le_refl _, by omega, by go_num, by rw [e0H.out], t0⟩
      case round =>
        rename World => wq
        obtain ⟨j, va, vc, hj1, hj2, rfl, rfl, hs⟩ := hrel
        clear t0
        by_cases hjn : j < l.length
        · have hjI : (j : Int) < l.length := by omega
          obtain ⟨R, hR⟩ : ∃ R, Hid (R = edgeB (dpf l) B i j) := ⟨_, rfl⟩
          have cE := redge_any w.heap.size A l.length rb hBH.out i j wq ((hm.out.m.later hs.out.be)) hlen (by omega) hjn R hR
          have hmore : Hid (eRow ed i (j + 1) = eRow ed i j ++ (if R = true then [(i, j)] else [])) := by
            show _ = _
            rw [eRow, hR.out, hedH.out]
            congr 1
            by_cases c : ed i j = true
            · rw [if_pos ⟨by omega, c⟩, if_pos c]
            · rw [if_neg (fun q => c q.2), if_neg c]
          have hel3 : Hid ((eAll ed l.length i ++ eRow ed i j).length ≤ 70000) := by
            show _ ≤ _
            have h1 := hel2.out
            have h2 := eRow_len ed i j
            rw [List.length_append]; omega
          cases R with
          | true =>
            have hN : Hid (eAll ed l.length i ++ eRow ed i (j + 1) = (eAll ed l.length i ++ eRow ed i j) ++ [(i, j)]) := by show _ = _; rw [hmore.out, if_pos rfl, List.append_assoc]
            clear hmore hR
            generalize eAll ed l.length i ++ eRow ed i j = L at *
            go_wp2_with (first
              | (go_at_call 93; (refine cE.mono ?_); rintro e w5 ⟨rfl, rfl⟩; clear cE)
              | (refine wpList_buildSlice rfl 23 71 1 _ rfl (edg (i, j)).toArray iP _ Tryz.underlying23 iPH.out.1 iPH.out.2.1 (by rw [iPH.out.2.2.1]; omega) (by rw [iPH.out.2.2.1]; omega) (by simp only [iPH.out.2.2.1]; kernel_rfl) ?_)
              | (at_builtin; (refine wpList_app1 rfl (.tmp 27) (.tmp 31) 23 rfl w1.heap.size 71 iP _ 2 16 Tryz.underlying23 iPH.out.1 iPH.out.2.1 iPH.out.2.2.1 iPH.out.2.2.2 rfl (by decide) va vc (L.map edg) (by rw [List.length_map]; rfl) hs.out.ow (edg (i, j)) rfl rfl (one2e _) (by rw [List.length_map]; unfold maxLen; have := hel3.out; omega) (by rw [List.length_map]; have := hel3.out; omega) hs.out.be.size ?_); intro va' vc' w2 hg; rw [List.length_map]; (have hg2 : Hid (PsS w1 w2 (L ++ [(i, j)]) va' vc') := hs.out.grown hg); clear hg))
            go_roundw
            case rel => exact ⟨j + 1, va', vc', by omega, by omega, by go_num, by rw [hN.out, List.length_append]; rfl, by rw [hN.out]; exact hg2⟩
            case measure => simp [intOf]; omega
          | false =>
            have hN : Hid (eAll ed l.length i ++ eRow ed i (j + 1) = eAll ed l.length i ++ eRow ed i j) := by show _ = _; rw [hmore.out, if_neg Bool.false_ne_true, List.append_nil]
            clear hmore hR
            generalize eAll ed l.length i ++ eRow ed i j = L at *
            go_wp2_with (first
              | (go_at_call 93; (refine cE.mono ?_); rintro e w5 ⟨rfl, rfl⟩; clear cE))
            go_roundw
            case rel => exact ⟨j + 1, va, vc, by omega, by omega, by go_num, by rw [hN.out], by rw [hN.out]; exact hs⟩
            case measure => simp [intOf]; omega
        · have hj3 : j = l.length := by omega
          subst hj3
          have hN : Hid (eAll ed l.length (i + 1) = eAll ed l.length i ++ eRow ed i l.length) := rfl
          generalize eAll ed l.length i ++ eRow ed i l.length = L at *
          go_wp2
          go_roundw
          case rel => exact ⟨i + 1, va, vc, by omega, by go_num, by rw [hN.out], by rw [hN.out]; exact hs⟩
          case measure => simp [intOf]; omega
    · have hi2 : i = l.length := by omega
      subst hi2
      go_wp2
      go_ret
      exact ⟨va, vc, rfl, own_rows hs.out.ow (fun row hm => by rw [List.mem_map] at hm; obtain ⟨y, _, rfl⟩ := hm; rfl), bthen hm.out.b hs.out.be⟩
end Go.Proofs.YtafefnkgdnmjbaaGreatDoor.pg
