/- The plain variables that two events touch, one of them writing, handed out one by one; whether there is one. -/
import Derived.Test.YtafefnkgdnmjbaaGreatDoorM24
import Derived.Test.YtafefnkgdnmjbaaGreatDoorM25
import Derived.Test.YtafefnkgdnmjbaaGreatDoorM8
import Derived.Test.YtafefnkgdnmjbaaGreatDoorM4
import Derived.Test.YtafefnkgdnmjbaaGreatDoorM21
import Derived.Test.YtafefnkgdnmjbaaGreatDoorM22
import Derived.Test.YtafefnkgdnmjbaaGreatDoorM1
namespace Go.Proofs.YtafefnkgdnmjbaaGreatDoor.pg
open Go.ChangeShapes Go.WideShapes Go.ChangeAt Go.RowKit Go.Shelf
set_option linter.unusedVariables false
set_option linter.unusedSimpArgs false
set_option maxRecDepth 100000
attribute [local go_sem] Oper.semAt_some
attribute [local go_sem ↓] Go.wp_at_zero Go.wp_at_succ
abbrev objV (v : Nat → Bool) : Obj := .cells (boolRow 8 v) 86
abbrev objEv (x : Ev) : Obj := .cells x.cells.toArray 69
def boolL (v : Nat → Bool) : List Value := (List.range 8).map fun j => Value.bool (v j)
theorem range_ofR {w : World} {B : Nat} {l : List Value} {t : TypeId} {fr : Nat × Nat} (h : w.heap[B]? = some (.cells l.toArray t fr)) : w.rangeAt B 0 l := fun j v hj => by
  rw [Nat.zero_add]
  exact cell_of h (by simpa using hj)
theorem yieldAnyR {m : Nat} (m' : Nat) {P : Program} {l : Nat} {args : Array Value} {W : World} {R : Ending → World → Prop} (h : YieldAt Fence.wide m P l args W R) : YieldAt Fence.wide m' P l args W R := by
  obtain ⟨fn, tmps, assign, body, hy, hR⟩ := h
  exact ⟨fn, tmps, assign, body, hy, hR.1, fun c cs _ => hR.2 c cs (fun d q => by cases q)⟩
theorem ix_pl (B k : Nat) (h : k < 8) : ∀ wx, (Instr.indexAt 86 (.pointer (some ⟨B, 0, none⟩)) (.int .i64 (k : Int))).run Tryz.prog wx = .ok (.pointer (some ⟨B, k, none⟩)) wx := by
  intro wx
  have u := Tryz.underlying86
  have z := Tryz.sizeOf4
  have q1 : (k : Int) < 8 := by omega
  have q2 : ¬ (k : Int) < 0 := by omega
  simp [Instr.indexAt, run_underlying u, asIntOf, go_sem, z, q1, q2]
  intro q
  omega
/-- An access to a plain variable. -/
def hasP (v : Nat → Bool) (a : Acc) : Bool := (a.kind == 1) && v a.num.toNat
set_option maxHeartbeats 1000000 in
theorem has_any (v : Nat → Bool) (a : Acc) (w : World) (ha : a.kind = 1 → 0 ≤ a.num ∧ a.num < 8) (R : Bool) (hR : Hid (R = hasP v a)) : Calls Tryz.prog 96 #[.agg (boolRow 8 v), a.val] w fun e w' => e = .returned (.bool R) ∧ Below w.heap.size w w' := by
  have hb := bthen (boxed w (objV v)) (boxed (w.alloc (objV v)) (objA a))
  have hv : ((w.alloc (objV v)).alloc (objA a)).heap[w.heap.size]? = some (objV v) := ((boxed (w.alloc (objV v)) (objA a)).block _ (by rw [World.size_alloc]; omega)).trans (heap_alloc_new w _)
  by_cases h1 : a.kind = 1
  · obtain ⟨n, hn⟩ : ∃ n : Nat, a.num = (n : Int) := ⟨a.num.toNat, by have := ha h1; omega⟩
    have hn8 : n < 8 := by have := ha h1; omega
    have hx := ix_pl w.heap.size n hn8
    have hc := cell_of hv (boolRow_at hn8)
    have hRR : Hid (R = v n) := by show _ = _; rw [hR.out]; unfold hasP; rw [h1, hn]; rfl
    have hbH : Hid _ := hb
    obtain ⟨ak, an, aw⟩ := a
    simp only at h1 hn
    subst h1 hn
    clear hb hv ha hR
    go_enter Tryz.func96, Tryz.ntmps96
    go_wp2
    go_ret
    exact ⟨by rw [hRR.out]; rfl, hbH.out⟩
  · have hb1 : (a.kind == 1) = false := by simpa using h1
    have hRR : Hid (R = false) := by show _ = _; rw [hR.out]; unfold hasP; rw [hb1]; rfl
    have hbH : Hid _ := hb
    clear hb hv ha hR h1
    go_enter Tryz.func96, Tryz.ntmps96
    go_wp2
    go_ret
    exact ⟨by rw [hRR.out]; rfl, hbH.out⟩
/-- Which of an event's accesses are told. -/
def upB (v : Nat → Bool) (y : Ev) (a : Acc) : Bool := hasP v a && clash [a] y.of
def upK (v : Nat → Bool) (x y : Ev) (k : Nat) : List Int := ((x.of.take k).filter (upB v y)).map Acc.num
theorem upK_more {v : Nat → Bool} {x y : Ev} {k : Nat} {a : Acc} (h : x.of[k]? = some a) : upK v x y (k + 1) = upK v x y k ++ (if upB v y a = true then [a.num] else []) := by
  unfold upK
  rw [List.take_add_one, h, List.filter_append, List.map_append]
  congr 1
  cases hb : upB v y a <;> simp [List.filter, hb]
theorem upK_len (v : Nat → Bool) (x y : Ev) (k : Nat) : (upK v x y k).length ≤ k := by
  unfold upK
  rw [List.length_map]
  exact Nat.le_trans (List.length_filter_le _ _) (by rw [List.length_take]; omega)
theorem slice_one (B k : Nat) (h : k < 6) : ∀ wx, (Instr.sliceAt 67 (.pointer (some ⟨B, 7, none⟩)) (some (.int .i64 (k : Int))) (some (.int .i64 ((k : Int) + 1))) none).run Tryz.prog wx = .ok (.slice (some ⟨B, 7 + k * 3, none⟩) 1 (6 - k)) wx := by
  have u := Tryz.underlying67
  have z := Tryz.sizeOf66
  have h6 : k = 0 ∨ k = 1 ∨ k = 2 ∨ k = 3 ∨ k = 4 ∨ k = 5 := by omega
  intro wx
  rcases h6 with rfl | rfl | rfl | rfl | rfl | rfl <;> simp [Instr.sliceAt, run_underlying u, asIntOf, go_sem, z]
theorem box_of {w : World} {B : Nat} {x : Ev} (h : w.heap[B]? = some (objEv x)) : BoxE w B x := by
  have k : ∀ i v, x.cells[i]? = some v → w.cell? ⟨B, i, none⟩ = some v := fun i v hv => cell_of h (by simpa using hv)
  refine ⟨?_, ?_, ?_, ?_, ?_, ?_, ?_, ?_, ?_, ?_, ?_, ?_, ?_, ?_, ?_, ?_, ?_, ?_, ?_, ?_, ?_, ?_, ?_, ?_, ?_, ?_⟩ <;> exact k _ _ rfl
theorem rows_one {w : World} {B k : Nat} {x : Ev} {a : Acc} (h : BoxE w B x) (hk : x.list[k]? = some a) : Rows w 3 (some ⟨B, 7 + k * 3, none⟩) (6 - k) ([a].map Acc.cells) := by
  have hl : x.list.length = 6 := rfl
  have hlt : k < 6 := by have := (List.getElem?_eq_some_iff.mp hk).1; omega
  have hr := rows_rest (N := k) (ra := ⟨B, 7 + k * 3, none⟩) h (by omega) (fun _ => rfl)
  obtain ⟨r1, r2, r3, r4⟩ := hr
  refine ⟨by simp; omega, by omega, by simp, ?_⟩
  right
  rcases r4 with r4 | ⟨b, o, e1, e2, e3⟩
  · rw [List.map_eq_nil_iff] at r4
    have := congrArg List.length r4
    rw [List.length_drop, hl] at this
    simp at this
    omega
  · refine ⟨b, o, e1, e2, fun i row hi => ?_⟩
    match i, hi with
    | 0, hi =>
      simp at hi
      subst hi
      exact e3 0 _ (by rw [List.getElem?_map, List.getElem?_drop, Nat.add_zero, hk]; rfl)
theorem y_call2 {P : Program} {ops : Array Oper} {Q : Exit → Act → World → Prop} {md : Region.Mode} {S : World → Prop} {n y : Nat} {fuel : Nat} {listed : Array Bool} {a : Act} {w : World} {i : Nat} {o : Oper} (hr : Region.ready md ops listed = [i]) (hiy : (i == y) = false) (ho : ops[i]? = some o) (hw : Region.wanted o (yielded ops a.tmps) = true) (f : FuncId) (x1 x2 : Operand) (t1 t2 : TypeId)
    (hc0 : o.op = .call { callee := .value (.func f), args := #[x1, x2], argTypes := #[t1, t2] }) (v1 v2 : Value) (h1 : a.eval x1 = v1) (h2 : a.eval x2 = v2) (hcf : (callFunc f #[v1, v2]).run P w = .ok (.enter f #[v1, v2]) w) (R : Ending → World → Prop) (hc : Calls P f #[v1, v2] w R)
    (hK : ∀ e w', R e w' → ∃ v, e = .returned v ∧ S w' ∧ wpAnyY n P md ops Q S y fuel (listed.setIfInBounds i true) (a.put o.dst v) w') :
    wpAnyY n P md ops Q S y (fuel + 1) listed a w := y_call hr hiy ho hw f #[x1, x2] #[t1, t2] hc0 #[v1, v2] (by simp [h1, h2]) hcf R hc hK
/-- The three boxes of the iterator. -/
structure Up3 (A V Bb : Nat) (x : Ev) (v : Nat → Bool) (y : Ev) (W : World) : Prop where
  a : W.heap[A]? = some (objEv x)
  v : W.heap[V]? = some (objV v)
  b : W.heap[Bb]? = some (objEv y)
theorem Up3.later {A V Bb : Nat} {x : Ev} {v : Nat → Bool} {y : Ev} {W W' : World} (h : Up3 A V Bb x v y W) (hb : Below W.heap.size W W') : Up3 A V Bb x v y W' :=
  ⟨(hb.block _ (Array.getElem?_eq_some_iff.mp h.a).1).trans h.a, (hb.block _ (Array.getElem?_eq_some_iff.mp h.v).1).trans h.v, (hb.block _ (Array.getElem?_eq_some_iff.mp h.b).1).trans h.b⟩
def Kp3 (A V Bb : Nat) (W W' : World) : Prop := W'.heap[A]? = W.heap[A]? ∧ W'.heap[V]? = W.heap[V]? ∧ W'.heap[Bb]? = W.heap[Bb]?
theorem Kp3.trans {A V Bb : Nat} {X Y Z : World} (h : Kp3 A V Bb X Y) (k : Kp3 A V Bb Y Z) : Kp3 A V Bb X Z := ⟨k.1.trans h.1, k.2.1.trans h.2.1, k.2.2.trans h.2.2⟩
theorem Up3.keep {A V Bb : Nat} {x : Ev} {v : Nat → Bool} {y : Ev} {W W' : World} (h : Up3 A V Bb x v y W) (hk : Kp3 A V Bb W W') : Up3 A V Bb x v y W' := ⟨hk.1.trans h.a, hk.2.1.trans h.v, hk.2.2.trans h.b⟩
theorem kp3_b {A V Bb : Nat} {w : World} (h1 : A < w.heap.size) (h2 : V < w.heap.size) (h3 : Bb < w.heap.size) (W : World) (l : Nat) (o o' : Obj) (hl : w.heap.size ≤ l) (h : W.heap[l]? = some o) (_ : o.isCells = false) (_ : o.isWalk = false) : Kp3 A V Bb W (W.putObj l o') :=
  ⟨World.putObj_heap_other (by omega), World.putObj_heap_other (by omega), World.putObj_heap_other (by omega)⟩
theorem add_oneV (k : Nat) (hk : k < 6) : wrap64 ((k : Int) + 1) = (k : Int) + 1 := by unfold wrap64; omega
set_option maxHeartbeats 4000000 in
theorem upon1_in (n : Nat) (x y : Ev) (v : Nat → Bool) (hx : rightP x) (hy : rightP y) (ll AB A V Bb : Nat) (J Jx : List Int → World → Prop) (hJ : AbidesFrom AB J)
    (hY : ∀ m pre (z : Int) W, J pre W → pre.length < 6 → YieldAt Fence.wide m Tryz.prog ll #[.int .i64 z] W fun e W' => (e = .returned (.bool true) ∧ J (pre ++ [z]) W' ∧ Kp3 A V Bb W W') ∨ (e = .returned (.bool false) ∧ Jx (pre ++ [z]) W'))
    (W : World) (hU : Up3 A V Bb x v y W) (h0 : J [] W) :
    CallsIn Fence.wide n Tryz.prog 95 #[.func (.yield ll) #[] #[], .pointer (some ⟨A, 0, none⟩), .pointer (some ⟨V, 0, none⟩), .pointer (some ⟨Bb, 0, none⟩)] W fun e W' => (∃ v, e = .returned v) ∧ (J (upK v x y 6) W' ∨ ∃ pre z, pre ++ [z] <+: upK v x y 6 ∧ Jx (pre ++ [z]) W') := by
  obtain ⟨⟨_, _, hn1, hn6⟩, hok, _, _⟩ := hx
  obtain ⟨⟨_, _, hm1, hm6⟩, _, _, _⟩ := hy
  obtain ⟨N, hN⟩ : ∃ N : Nat, x.n = (N : Int) := ⟨x.n.toNat, by omega⟩
  obtain ⟨M, hM⟩ : ∃ M : Nat, y.n = (M : Int) := ⟨y.n.toNat, by omega⟩
  have hNl : x.of.length = N := by have h1 := tN_eq hn1 hn6; rw [Ev.of_len]; omega
  have hMl : y.of.length = M := by have h1 := tN_eq hm1 hm6; rw [Ev.of_len]; omega
  have hbx := box_of hU.a
  have kn : W.cell? ⟨A, 25, none⟩ = some (.int .i64 (N : Int)) := by rw [← hN]; exact hbx.at 25 _ rfl
  have sN := (slice_two A N (by omega) (by omega)).1
  have hNI : (N : Int) ≤ 6 := by omega
  have hall : Hid (upK v x y 6 = upK v x y N) := by
    show _ = _
    unfold upK
    rw [List.take_of_length_le (by omega), List.take_of_length_le (by omega)]
  have hs0 : Hid (J (upK v x y 0) W ∧ Up3 A V Bb x v y W) := ⟨h0, hU⟩
  have hJH : Hid (AbidesFrom AB J) := hJ
  have hYH : Hid (∀ m pre (z : Int) W, J pre W → pre.length < 6 → YieldAt Fence.wide m Tryz.prog ll #[.int .i64 z] W fun e W' => (e = .returned (.bool true) ∧ J (pre ++ [z]) W' ∧ Kp3 A V Bb W W') ∨ (e = .returned (.bool false) ∧ Jx (pre ++ [z]) W')) := hY
  have hokH : Hid (∀ i, i < tN x.n → okA x.list i) := hok
  have hMH : Hid (y.n = (M : Int) ∧ y.of.length = M ∧ 1 ≤ M ∧ M ≤ 6) := ⟨hM, hMl, by omega, by omega⟩
  have hNH : Hid (x.n = (N : Int) ∧ x.of.length = N ∧ N ≤ 6 ∧ tN x.n = N) := ⟨hN, hNl, by omega, by have h1 := tN_eq hn1 hn6; omega⟩
  clear h0 hU hJ hY hok hM hMl hN hNl hbx hn1 hn6 hm1 hm6
  refine callsIn_of_wp Tryz.func95 rfl trivial ?_ rfl
  simp only [Tryz.ntmps95, List.size_toArray, List.length_cons, List.length_nil, Nat.reduceAdd, Nat.reduceSub, Array.replicate_succ, Array.replicate_zero, List.push_toArray, List.append_toArray, List.nil_append, List.cons_append]
  gi_wp2
  clear kn sN
  gi_loopw [12] (fun u wr => ∃ k : Nat, k ≤ N ∧ u = .int .i64 (k : Int) ∧ Hid (J (upK v x y k) wr ∧ Up3 A V Bb x v y wr)) (fun u _ => N - (intOf u).toNat)
  case atStart => exact ⟨0, Nat.zero_le _, rfl, hs0⟩
  case round =>
    clear hs0
    obtain ⟨k, hk, rfl, hs⟩ := hrel
    by_cases hlt : k < N
    · have hkI : (k : Int) < N := by omega
      have hk6 : k < 6 := by omega
      obtain ⟨a, ha⟩ : ∃ a, x.of[k]? = some a := ⟨_, List.getElem?_eq_getElem (by have := hNH.out.2.1; omega)⟩
      have hal : x.list[k]? = some a := by rw [← of_at (by have := hNH.out.2.2.2; omega)]; exact ha
      have hnum : Hid (a.kind = 1 → 0 ≤ a.num ∧ a.num < 8) := fun h1 => by
        have := (hokH.out k (by have := hNH.out.2.2.2; omega) a hal).1
        rw [h1] at this
        exact this
      obtain ⟨b0, o0, hix, hbl, k0, k1, k2⟩ := acc_ix (rowsE (box_of hs.out.2.a)) k a ha
      rw [hNH.out.2.1] at hix
      have hmore : Hid (upK v x y (k + 1) = upK v x y k ++ (if upB v y a = true then [a.num] else [])) := upK_more ha
      have hlen : Hid ((upK v x y k).length < 6) := by have := upK_len v x y k; show _ < _; omega
      have hpre : Hid (upK v x y (k + 1) <+: upK v x y 6) := by
        rw [hall.out]
        unfold upK
        exact List.IsPrefix.map _ (List.IsPrefix.filter _ (List.take_prefix_take_left (by omega)))
      have hadd := add_oneV k hk6
      have hsl := slice_one A k hk6
      have hsM := (slice_two Bb M (by have := hMH.out; omega) (by have := hMH.out; omega)).1
      obtain ⟨S0, hS0d⟩ : ∃ S0 : World → Prop, S0 = fun w' => Up3 A V Bb x v y w' ∧ w'.heap[wr.heap.size]? = some (objA a) := ⟨_, rfl⟩
      obtain ⟨W1, hW1⟩ : ∃ W1, W1 = (wr.alloc (objA a)).drew := ⟨_, rfl⟩
      have hS' : Up3 A V Bb x v y W1 ∧ W1.heap[wr.heap.size]? = some (objA a) := by rw [hW1]; exact ⟨hs.out.2.later (bthen (boxed _ _) (bey_drew _)), heap_alloc_new _ _⟩
      have hJ1 : Hid (J (upK v x y k) W1) := by rw [hW1]; exact abideV hJH.out hs.out.1 (bthen (boxed _ _) (bey_drew _))
      have cH : ∀ wx, Calls Tryz.prog 96 #[.agg (boolRow 8 v), a.val] wx fun e w' => e = .returned (.bool (hasP v a)) ∧ Below wx.heap.size wx w' := fun wx => has_any v a wx hnum.out _ rfl
      have cC : ∀ wx, Up3 A V Bb x v y wx → Calls Tryz.prog 97 #[.slice (some ⟨A, 7 + k * 3, none⟩) 1 (6 - k), .slice (some ⟨Bb, 7, none⟩) M 6] wx fun e w' => e = .returned (.bool (clash [a] y.of)) ∧ Below wx.heap.size wx w' := fun wx h => by
        have := clash_short [a] y.of _ _ _ _ wx (rows_one (box_of h.a) hal) (rowsE (box_of h.b)) (.inl (by simp)) _ rfl
        rw [hMH.out.2.1] at this
        exact this
      gi_wp2
      refine y_region S0 19 (by kernel_rfl) ?_
      subst hS0d
      rw [← hW1]
      generalize wr.heap.size = Bk at *
      clear hW1 hs hix k0 k1 k2 hbl
      have hS := hS'
      refine y_loads (i := 0) rfl (by kernel_rfl) (by kernel_rfl) (by kernel_rfl) (by kernel_rfl) rfl (fun _ _ _ _ h => h) rfl 86 _ rfl V 0 rfl (boolL v) _ (fun w' h' => range_ofR h'.1.v) Tryz.underlying86 rfl (by kernel_rfl) hS ?_
      simp only [Act.put, List.getElem_toArray, List.getElem_cons_succ, List.getElem_cons_zero, List.setIfInBounds_toArray, List.set_cons_zero, List.set_cons_succ]
      refine y_loads (i := 1) rfl (by kernel_rfl) (by kernel_rfl) (by kernel_rfl) (by kernel_rfl) rfl (fun _ _ _ _ h => h) rfl 66 _ rfl Bk 0 rfl a.cells _ (fun w' h' => range_ofR h'.2) Tryz.underlying66 rfl (by kernel_rfl) hS ?_
      simp only [Act.put, List.getElem_toArray, List.getElem_cons_succ, List.getElem_cons_zero, List.setIfInBounds_toArray, List.set_cons_zero, List.set_cons_succ]
      refine y_call2 (i := 2) (by kernel_rfl) rfl rfl rfl 96 _ _ _ _ rfl (.agg (boolRow 8 v)) a.val rfl rfl (cf_fn Tryz.func96 (by kernel_rfl) (by kernel_rfl) _ _) _ (cH _) ?_
      rintro e w1 ⟨rfl, hb1⟩
      have hS1 : Up3 A V Bb x v y w1 ∧ w1.heap[Bk]? = some (objA a) := ⟨hS.1.later hb1, (hb1.block Bk (Array.getElem?_eq_some_iff.mp hS.2).1).trans hS.2⟩
      have hJ2 : Hid (J (upK v x y k) w1) := abideV hJH.out hJ1.out hb1
      refine ⟨_, rfl, hS1, ?_⟩
      simp only [Act.put, List.getElem_toArray, List.getElem_cons_succ, List.getElem_cons_zero, List.setIfInBounds_toArray, List.set_cons_zero, List.set_cons_succ]
      obtain ⟨hp, hph⟩ : ∃ hp, hasP v a = hp := ⟨_, rfl⟩
      rw [hph]
      clear cH hS hJ1 hS' hb1
      cases hp with
      | false =>
        refine y_move (i := 3) rfl (by kernel_rfl) (by kernel_rfl) (by kernel_rfl) (by kernel_rfl) rfl (fun _ _ _ _ h => h) rfl (.bool false) (fun _ => rfl) hS1 ?_
        simp only [Act.put, List.getElem_toArray, List.getElem_cons_succ, List.getElem_cons_zero, List.setIfInBounds_toArray, List.set_cons_zero, List.set_cons_succ]
        refine y_skip (i := 4) rfl (by kernel_rfl) (by kernel_rfl) (by kernel_rfl) (by kernel_rfl) rfl (fun _ _ _ _ h => h) rfl hS1 ?_
        simp only [Act.put, List.getElem_toArray, List.getElem_cons_succ, List.getElem_cons_zero, List.setIfInBounds_toArray, List.set_cons_zero, List.set_cons_succ]
        refine y_skip (i := 5) rfl (by kernel_rfl) (by kernel_rfl) (by kernel_rfl) (by kernel_rfl) rfl (fun _ _ _ _ h => h) rfl hS1 ?_
        simp only [Act.put, List.getElem_toArray, List.getElem_cons_succ, List.getElem_cons_zero, List.setIfInBounds_toArray, List.set_cons_zero, List.set_cons_succ]
        refine y_skip (i := 6) rfl (by kernel_rfl) (by kernel_rfl) (by kernel_rfl) (by kernel_rfl) rfl (fun _ _ _ _ h => h) rfl hS1 ?_
        simp only [Act.put, List.getElem_toArray, List.getElem_cons_succ, List.getElem_cons_zero, List.setIfInBounds_toArray, List.set_cons_zero, List.set_cons_succ]
        refine y_skip (i := 7) rfl (by kernel_rfl) (by kernel_rfl) (by kernel_rfl) (by kernel_rfl) rfl (fun _ _ _ _ h => h) rfl hS1 ?_
        simp only [Act.put, List.getElem_toArray, List.getElem_cons_succ, List.getElem_cons_zero, List.setIfInBounds_toArray, List.set_cons_zero, List.set_cons_succ]
        refine y_skip (i := 8) rfl (by kernel_rfl) (by kernel_rfl) (by kernel_rfl) (by kernel_rfl) rfl (fun _ _ _ _ h => h) rfl hS1 ?_
        simp only [Act.put, List.getElem_toArray, List.getElem_cons_succ, List.getElem_cons_zero, List.setIfInBounds_toArray, List.set_cons_zero, List.set_cons_succ]
        refine y_skip (i := 9) rfl (by kernel_rfl) (by kernel_rfl) (by kernel_rfl) (by kernel_rfl) rfl (fun _ _ _ _ h => h) rfl hS1 ?_
        simp only [Act.put, List.getElem_toArray, List.getElem_cons_succ, List.getElem_cons_zero, List.setIfInBounds_toArray, List.set_cons_zero, List.set_cons_succ]
        refine y_skip (i := 10) rfl (by kernel_rfl) (by kernel_rfl) (by kernel_rfl) (by kernel_rfl) rfl (fun _ _ _ _ h => h) rfl hS1 ?_
        simp only [Act.put, List.getElem_toArray, List.getElem_cons_succ, List.getElem_cons_zero, List.setIfInBounds_toArray, List.set_cons_zero, List.set_cons_succ]
        refine y_skip (i := 11) rfl (by kernel_rfl) (by kernel_rfl) (by kernel_rfl) (by kernel_rfl) rfl (fun _ _ _ _ h => h) rfl hS1 ?_
        simp only [Act.put, List.getElem_toArray, List.getElem_cons_succ, List.getElem_cons_zero, List.setIfInBounds_toArray, List.set_cons_zero, List.set_cons_succ]
        refine y_skip (i := 12) rfl (by kernel_rfl) (by kernel_rfl) (by kernel_rfl) (by kernel_rfl) rfl (fun _ _ _ _ h => h) rfl hS1 ?_
        simp only [Act.put, List.getElem_toArray, List.getElem_cons_succ, List.getElem_cons_zero, List.setIfInBounds_toArray, List.set_cons_zero, List.set_cons_succ]
        refine y_skip (i := 13) rfl (by kernel_rfl) (by kernel_rfl) (by kernel_rfl) (by kernel_rfl) rfl (fun _ _ _ _ h => h) rfl hS1 ?_
        simp only [Act.put, List.getElem_toArray, List.getElem_cons_succ, List.getElem_cons_zero, List.setIfInBounds_toArray, List.set_cons_zero, List.set_cons_succ]
        refine y_move (i := 14) rfl (by kernel_rfl) (by kernel_rfl) (by kernel_rfl) (by kernel_rfl) rfl (fun _ _ _ _ h => h) rfl (.bool false) (fun _ => rfl) hS1 ?_
        simp only [Act.put, List.getElem_toArray, List.getElem_cons_succ, List.getElem_cons_zero, List.setIfInBounds_toArray, List.set_cons_zero, List.set_cons_succ]
        refine y_move (i := 15) rfl (by kernel_rfl) (by kernel_rfl) (by kernel_rfl) (by kernel_rfl) rfl (fun _ _ _ _ h => h) rfl (.bool false) (fun _ => rfl) hS1 ?_
        simp only [Act.put, List.getElem_toArray, List.getElem_cons_succ, List.getElem_cons_zero, List.setIfInBounds_toArray, List.set_cons_zero, List.set_cons_succ]
        refine y_skip (i := 16) rfl (by kernel_rfl) (by kernel_rfl) (by kernel_rfl) (by kernel_rfl) rfl (fun _ _ _ _ h => h) rfl hS1 ?_
        simp only [Act.put, List.getElem_toArray, List.getElem_cons_succ, List.getElem_cons_zero, List.setIfInBounds_toArray, List.set_cons_zero, List.set_cons_succ]
        refine y_skip (i := 17) rfl (by kernel_rfl) (by kernel_rfl) (by kernel_rfl) (by kernel_rfl) rfl (fun _ _ _ _ h => h) rfl hS1 ?_
        simp only [Act.put, List.getElem_toArray, List.getElem_cons_succ, List.getElem_cons_zero, List.setIfInBounds_toArray, List.set_cons_zero, List.set_cons_succ]
        refine y_skip (i := 18) rfl (by kernel_rfl) (by kernel_rfl) (by kernel_rfl) (by kernel_rfl) rfl (fun _ _ _ _ h => h) rfl hS1 ?_
        simp only [Act.put, List.getElem_toArray, List.getElem_cons_succ, List.getElem_cons_zero, List.setIfInBounds_toArray, List.set_cons_zero, List.set_cons_succ]
        refine y_pass (by kernel_rfl) rfl rfl ?_
        simp only [Act.put, List.getElem_toArray, List.getElem_cons_succ, List.getElem_cons_zero, List.setIfInBounds_toArray, List.set_cons_zero, List.set_cons_succ]
        refine wpAnyIn_take (i := 20) (v := undef) rfl rfl (by kernel_rfl) (by kernel_rfl) (by kernel_rfl) (fun _ _ _ h => h) ⟨Or.inr ⟨by rfl, rfl⟩, fun _ => rfl⟩ ?_
        simp only [Act.put, List.getElem_toArray, List.getElem_cons_succ, List.getElem_cons_zero, List.setIfInBounds_toArray, List.set_cons_zero, List.set_cons_succ]
        refine wpAnyIn_take (i := 21) (v := (.bool false)) rfl rfl (by kernel_rfl) (by kernel_rfl) (by kernel_rfl) (fun _ _ _ h => h) ⟨Or.inl ⟨by rfl, fun _ => rfl⟩, fun _ => rfl⟩ ?_
        simp only [Act.put, List.getElem_toArray, List.getElem_cons_succ, List.getElem_cons_zero, List.setIfInBounds_toArray, List.set_cons_zero, List.set_cons_succ]
        refine wpAnyIn_done (by kernel_rfl) ?_ _
        have hs2 : Hid (J (upK v x y (k + 1)) w1 ∧ Up3 A V Bb x v y w1) := ⟨by rw [hmore.out, if_neg (by unfold upB; rw [hph]; simp)]; rw [List.append_nil]; exact hJ2.out, hS1.1⟩
        clear hmore hnum hpre hlen hsl hsM cC hJ2 hS1
        gi_wp2
        go_roundw
        case rel => exact ⟨k + 1, by omega, by go_num, hs2⟩
        case measure => simp [intOf]; omega
      | true =>
        refine y_move (i := 3) rfl (by kernel_rfl) (by kernel_rfl) (by kernel_rfl) (by kernel_rfl) rfl (fun _ _ _ _ h => h) rfl (.bool true) (fun _ => rfl) hS1 ?_
        simp only [Act.put, List.getElem_toArray, List.getElem_cons_succ, List.getElem_cons_zero, List.setIfInBounds_toArray, List.set_cons_zero, List.set_cons_succ]
        refine y_move (i := 4) rfl (by kernel_rfl) (by kernel_rfl) (by kernel_rfl) (by kernel_rfl) rfl (fun _ _ _ _ h => h) rfl (.pointer (some ⟨A, 7, none⟩)) (fun _ => by kernel_rfl) hS1 ?_
        simp only [Act.put, List.getElem_toArray, List.getElem_cons_succ, List.getElem_cons_zero, List.setIfInBounds_toArray, List.set_cons_zero, List.set_cons_succ]
        refine y_move (i := 5) rfl (by kernel_rfl) (by kernel_rfl) (by kernel_rfl) (by kernel_rfl) rfl (fun _ _ _ _ h => h) rfl (.int .i64 (k : Int)) (fun _ => rfl) hS1 ?_
        simp only [Act.put, List.getElem_toArray, List.getElem_cons_succ, List.getElem_cons_zero, List.setIfInBounds_toArray, List.set_cons_zero, List.set_cons_succ]
        refine y_move (i := 6) rfl (by kernel_rfl) (by kernel_rfl) (by kernel_rfl) (by kernel_rfl) rfl (fun _ _ _ _ h => h) rfl (.int .i64 (k : Int)) (fun _ => rfl) hS1 ?_
        simp only [Act.put, List.getElem_toArray, List.getElem_cons_succ, List.getElem_cons_zero, List.setIfInBounds_toArray, List.set_cons_zero, List.set_cons_succ]
        refine y_move (i := 7) rfl (by kernel_rfl) (by kernel_rfl) (by kernel_rfl) (by kernel_rfl) rfl (fun _ _ _ _ h => h) rfl (.int .i64 ((k : Int) + 1)) (fun wx => by simp [execOp, go_sem, Act.eval, hadd, IntKind.wrap_i64]; omega) hS1 ?_
        simp only [Act.put, List.getElem_toArray, List.getElem_cons_succ, List.getElem_cons_zero, List.setIfInBounds_toArray, List.set_cons_zero, List.set_cons_succ]
        refine y_move (i := 8) rfl (by kernel_rfl) (by kernel_rfl) (by kernel_rfl) (by kernel_rfl) rfl (fun _ _ _ _ h => h) rfl (.slice (some ⟨A, 7 + k * 3, none⟩) 1 (6 - k)) (fun wx => by unfold execOp; exact run_value_of (hsl wx)) hS1 ?_
        simp only [Act.put, List.getElem_toArray, List.getElem_cons_succ, List.getElem_cons_zero, List.setIfInBounds_toArray, List.set_cons_zero, List.set_cons_succ]
        refine y_move (i := 9) rfl (by kernel_rfl) (by kernel_rfl) (by kernel_rfl) (by kernel_rfl) rfl (fun _ _ _ _ h => h) rfl (.pointer (some ⟨Bb, 7, none⟩)) (fun _ => by kernel_rfl) hS1 ?_
        simp only [Act.put, List.getElem_toArray, List.getElem_cons_succ, List.getElem_cons_zero, List.setIfInBounds_toArray, List.set_cons_zero, List.set_cons_succ]
        refine y_move (i := 10) rfl (by kernel_rfl) (by kernel_rfl) (by kernel_rfl) (by kernel_rfl) rfl (fun _ _ _ _ h => h) rfl (.pointer (some ⟨Bb, 25, none⟩)) (fun _ => by kernel_rfl) hS1 ?_
        simp only [Act.put, List.getElem_toArray, List.getElem_cons_succ, List.getElem_cons_zero, List.setIfInBounds_toArray, List.set_cons_zero, List.set_cons_succ]
        refine y_load1 (i := 11) rfl (by kernel_rfl) (by kernel_rfl) (by kernel_rfl) (by kernel_rfl) rfl (fun _ _ _ _ h => h) rfl 3 _ rfl ⟨Bb, 25, none⟩ rfl _ Tryz.underlying3 rfl (.int .i64 (M : Int)) (fun w' h' => by rw [← hMH.out.1]; exact (box_of h'.1.b).at 25 _ rfl) hS1 ?_
        simp only [Act.put, List.getElem_toArray, List.getElem_cons_succ, List.getElem_cons_zero, List.setIfInBounds_toArray, List.set_cons_zero, List.set_cons_succ]
        refine y_move (i := 12) rfl (by kernel_rfl) (by kernel_rfl) (by kernel_rfl) (by kernel_rfl) rfl (fun _ _ _ _ h => h) rfl (.slice (some ⟨Bb, 7, none⟩) M 6) (fun wx => by unfold execOp; exact run_value_of (hsM wx)) hS1 ?_
        simp only [Act.put, List.getElem_toArray, List.getElem_cons_succ, List.getElem_cons_zero, List.setIfInBounds_toArray, List.set_cons_zero, List.set_cons_succ]
        refine y_call2 (i := 13) (by kernel_rfl) rfl rfl rfl 97 _ _ _ _ rfl (.slice (some ⟨A, 7 + k * 3, none⟩) 1 (6 - k)) (.slice (some ⟨Bb, 7, none⟩) M 6) rfl rfl (cf_fn Tryz.func97 (by kernel_rfl) (by kernel_rfl) _ _) _ (cC _ hS1.1) ?_
        rintro e w2 ⟨rfl, hb2⟩
        have hS2 : Up3 A V Bb x v y w2 ∧ w2.heap[Bk]? = some (objA a) := ⟨hS1.1.later hb2, (hb2.block Bk (Array.getElem?_eq_some_iff.mp hS1.2).1).trans hS1.2⟩
        have hJ3 : Hid (J (upK v x y k) w2) := abideV hJH.out hJ2.out hb2
        refine ⟨_, rfl, hS2, ?_⟩
        simp only [Act.put, List.getElem_toArray, List.getElem_cons_succ, List.getElem_cons_zero, List.setIfInBounds_toArray, List.set_cons_zero, List.set_cons_succ]
        obtain ⟨cp, hcp⟩ : ∃ cp, clash [a] y.of = cp := ⟨_, rfl⟩
        rw [hcp]
        clear hS1 hJ2 hb2
        cases cp with
        | false =>
          refine y_move (i := 14) rfl (by kernel_rfl) (by kernel_rfl) (by kernel_rfl) (by kernel_rfl) rfl (fun _ _ _ _ h => h) rfl (.bool false) (fun _ => rfl) hS2 ?_
          simp only [Act.put, List.getElem_toArray, List.getElem_cons_succ, List.getElem_cons_zero, List.setIfInBounds_toArray, List.set_cons_zero, List.set_cons_succ]
          refine y_move (i := 15) rfl (by kernel_rfl) (by kernel_rfl) (by kernel_rfl) (by kernel_rfl) rfl (fun _ _ _ _ h => h) rfl (.bool false) (fun _ => rfl) hS2 ?_
          simp only [Act.put, List.getElem_toArray, List.getElem_cons_succ, List.getElem_cons_zero, List.setIfInBounds_toArray, List.set_cons_zero, List.set_cons_succ]
          refine y_skip (i := 16) rfl (by kernel_rfl) (by kernel_rfl) (by kernel_rfl) (by kernel_rfl) rfl (fun _ _ _ _ h => h) rfl hS2 ?_
          simp only [Act.put, List.getElem_toArray, List.getElem_cons_succ, List.getElem_cons_zero, List.setIfInBounds_toArray, List.set_cons_zero, List.set_cons_succ]
          refine y_skip (i := 17) rfl (by kernel_rfl) (by kernel_rfl) (by kernel_rfl) (by kernel_rfl) rfl (fun _ _ _ _ h => h) rfl hS2 ?_
          simp only [Act.put, List.getElem_toArray, List.getElem_cons_succ, List.getElem_cons_zero, List.setIfInBounds_toArray, List.set_cons_zero, List.set_cons_succ]
          refine y_skip (i := 18) rfl (by kernel_rfl) (by kernel_rfl) (by kernel_rfl) (by kernel_rfl) rfl (fun _ _ _ _ h => h) rfl hS2 ?_
          simp only [Act.put, List.getElem_toArray, List.getElem_cons_succ, List.getElem_cons_zero, List.setIfInBounds_toArray, List.set_cons_zero, List.set_cons_succ]
          refine y_pass (by kernel_rfl) rfl rfl ?_
          simp only [Act.put, List.getElem_toArray, List.getElem_cons_succ, List.getElem_cons_zero, List.setIfInBounds_toArray, List.set_cons_zero, List.set_cons_succ]
          refine wpAnyIn_take (i := 20) (v := undef) rfl rfl (by kernel_rfl) (by kernel_rfl) (by kernel_rfl) (fun _ _ _ h => h) ⟨Or.inr ⟨by rfl, rfl⟩, fun _ => rfl⟩ ?_
          simp only [Act.put, List.getElem_toArray, List.getElem_cons_succ, List.getElem_cons_zero, List.setIfInBounds_toArray, List.set_cons_zero, List.set_cons_succ]
          refine wpAnyIn_take (i := 21) (v := (.bool false)) rfl rfl (by kernel_rfl) (by kernel_rfl) (by kernel_rfl) (fun _ _ _ h => h) ⟨Or.inl ⟨by rfl, fun _ => rfl⟩, fun _ => rfl⟩ ?_
          simp only [Act.put, List.getElem_toArray, List.getElem_cons_succ, List.getElem_cons_zero, List.setIfInBounds_toArray, List.set_cons_zero, List.set_cons_succ]
          refine wpAnyIn_done (by kernel_rfl) ?_ _
          have hs2 : Hid (J (upK v x y (k + 1)) w2 ∧ Up3 A V Bb x v y w2) := ⟨by rw [hmore.out, if_neg (by unfold upB; rw [hcp]; simp)]; rw [List.append_nil]; exact hJ3.out, hS2.1⟩
          clear hmore hnum hpre hlen hsl hsM cC hJ3 hS2
          gi_wp2
          go_roundw
          case rel => exact ⟨k + 1, by omega, by go_num, hs2⟩
          case measure => simp [intOf]; omega
        | true =>
          refine y_move (i := 14) rfl (by kernel_rfl) (by kernel_rfl) (by kernel_rfl) (by kernel_rfl) rfl (fun _ _ _ _ h => h) rfl (.bool true) (fun _ => rfl) hS2 ?_
          simp only [Act.put, List.getElem_toArray, List.getElem_cons_succ, List.getElem_cons_zero, List.setIfInBounds_toArray, List.set_cons_zero, List.set_cons_succ]
          refine y_move (i := 15) rfl (by kernel_rfl) (by kernel_rfl) (by kernel_rfl) (by kernel_rfl) rfl (fun _ _ _ _ h => h) rfl (.bool true) (fun _ => rfl) hS2 ?_
          simp only [Act.put, List.getElem_toArray, List.getElem_cons_succ, List.getElem_cons_zero, List.setIfInBounds_toArray, List.set_cons_zero, List.set_cons_succ]
          refine y_move (i := 16) rfl (by kernel_rfl) (by kernel_rfl) (by kernel_rfl) (by kernel_rfl) rfl (fun _ _ _ _ h => h) rfl (.func (.yield ll) #[] #[]) (fun _ => rfl) hS2 ?_
          simp only [Act.put, List.getElem_toArray, List.getElem_cons_succ, List.getElem_cons_zero, List.setIfInBounds_toArray, List.set_cons_zero, List.set_cons_succ]
          refine y_move (i := 17) rfl (by kernel_rfl) (by kernel_rfl) (by kernel_rfl) (by kernel_rfl) rfl (fun _ _ _ _ h => h) rfl (.pointer (some ⟨Bk, 1, none⟩)) (fun _ => by kernel_rfl) hS2 ?_
          simp only [Act.put, List.getElem_toArray, List.getElem_cons_succ, List.getElem_cons_zero, List.setIfInBounds_toArray, List.set_cons_zero, List.set_cons_succ]
          refine y_load1 (i := 18) rfl (by kernel_rfl) (by kernel_rfl) (by kernel_rfl) (by kernel_rfl) rfl (fun _ _ _ _ h => h) rfl 3 _ rfl ⟨Bk, 1, none⟩ rfl _ Tryz.underlying3 rfl (.int .i64 a.num) (fun w' h' => cell_of h'.2 rfl) hS2 ?_
          simp only [Act.put, List.getElem_toArray, List.getElem_cons_succ, List.getElem_cons_zero, List.setIfInBounds_toArray, List.set_cons_zero, List.set_cons_succ]
          have hNs : Hid (upK v x y (k + 1) = upK v x y k ++ [a.num]) := by (show _ = _; rw [hmore.out, if_pos (by unfold upB; rw [hph, hcp]; rfl)])
          refine y_yield1 (m := 0) (l := ll) (by kernel_rfl) rfl rfl _ _ _ rfl rfl (.int .i64 a.num) rfl _ (hYH.out 0 (upK v x y k) a.num w2 hJ3.out hlen.out) ?_
          rintro e W3 (⟨rfl, hJ3', hk3⟩ | ⟨rfl, hJx3⟩)
          · refine ⟨_, rfl, ?_⟩
            simp only [Act.put, List.getElem_toArray, List.getElem_cons_succ, List.getElem_cons_zero, List.setIfInBounds_toArray, List.set_cons_zero, List.set_cons_succ]
            refine wpAnyIn_take (i := 20) (v := (.bool false)) rfl rfl (by kernel_rfl) (by kernel_rfl) (by kernel_rfl) (fun _ _ _ h => h) ⟨Or.inl ⟨by rfl, fun _ => rfl⟩, fun _ => rfl⟩ ?_
            simp only [Act.put, List.getElem_toArray, List.getElem_cons_succ, List.getElem_cons_zero, List.setIfInBounds_toArray, List.set_cons_zero, List.set_cons_succ]
            refine wpAnyIn_take (i := 21) (v := (.bool false)) rfl rfl (by kernel_rfl) (by kernel_rfl) (by kernel_rfl) (fun _ _ _ h => h) ⟨Or.inl ⟨by rfl, fun _ => rfl⟩, fun _ => rfl⟩ ?_
            simp only [Act.put, List.getElem_toArray, List.getElem_cons_succ, List.getElem_cons_zero, List.setIfInBounds_toArray, List.set_cons_zero, List.set_cons_succ]
            refine wpAnyIn_done (by kernel_rfl) ?_ _
            have hs2 : Hid (J (upK v x y (k + 1)) W3 ∧ Up3 A V Bb x v y W3) := ⟨by rw [hNs.out]; exact hJ3', hS2.1.keep hk3⟩
            clear hmore hnum hpre hlen hsl hsM cC hJ3 hS2 hNs hJ3' hk3
            gi_wp2
            go_roundw
            case rel => exact ⟨k + 1, by omega, by go_num, hs2⟩
            case measure => simp [intOf]; omega
          · refine ⟨_, rfl, ?_⟩
            simp only [Act.put, List.getElem_toArray, List.getElem_cons_succ, List.getElem_cons_zero, List.setIfInBounds_toArray, List.set_cons_zero, List.set_cons_succ]
            refine wpAnyIn_take (i := 20) (v := (.bool true)) rfl rfl (by kernel_rfl) (by kernel_rfl) (by kernel_rfl) (fun _ _ _ h => h) ⟨Or.inl ⟨by rfl, fun _ => rfl⟩, fun _ => rfl⟩ ?_
            simp only [Act.put, List.getElem_toArray, List.getElem_cons_succ, List.getElem_cons_zero, List.setIfInBounds_toArray, List.set_cons_zero, List.set_cons_succ]
            refine wpAnyIn_take (i := 21) (v := (.bool true)) rfl rfl (by kernel_rfl) (by kernel_rfl) (by kernel_rfl) (fun _ _ _ h => h) ⟨Or.inl ⟨by rfl, fun _ => rfl⟩, fun _ => rfl⟩ ?_
            simp only [Act.put, List.getElem_toArray, List.getElem_cons_succ, List.getElem_cons_zero, List.setIfInBounds_toArray, List.set_cons_zero, List.set_cons_succ]
            refine wpAnyIn_done (by kernel_rfl) ?_ _
            have hfin : Hid (∃ pre z, pre ++ [z] <+: upK v x y 6 ∧ Jx (pre ++ [z]) W3) := ⟨upK v x y k, a.num, by rw [← hNs.out]; exact hpre.out, hJx3⟩
            clear hmore hnum hpre hlen hsl hsM cC hJ3 hS2 hNs hJx3
            gi_wp2
            refine bodyPost_ret (results_none rfl _ _ _) rfl ?_
            exact ⟨⟨_, rfl⟩, .inr hfin.out⟩
    · have hkN : k = N := by omega
      have hfin : Hid (J (upK v x y 6) wr) := by rw [hall.out, ← hkN]; exact hs.out.1
      subst hkN
      clear hs hall
      gi_wp2
      go_end0
      exact ⟨⟨_, rfl⟩, .inl hfin.out⟩
theorem upon_stops (n : Nat) (x y : Ev) (v : Nat → Bool) (hx : rightP x) (hy : rightP y) (A V Bb : Nat) (w : World) (hU : Up3 A V Bb x v y w) :
    SeqStopsK Fence.wide n Tryz.prog 95 #[.pointer (some ⟨A, 0, none⟩), .pointer (some ⟨V, 0, none⟩), .pointer (some ⟨Bb, 0, none⟩)] (fun z : Int => #[.int .i64 z]) (Kp3 A V Bb) (fun ys => ys = upK v x y 6) (fun pre => pre <+: upK v x y 6) 6 w :=
  fun l J Jx W hW hJ _ hY h0 => (upon1_in n x y v hx hy l _ A V Bb J Jx hJ (fun m pre z W h1 h2 => yieldAnyR m (hY pre z W h1 h2)) W (hU.later hW) h0).mono fun e W' ⟨h1, h2⟩ => ⟨h1, h2.elim (fun q => .inl ⟨_, rfl, q⟩) (fun ⟨pre, z, q1, q2⟩ => .inr ⟨_, q1, q2⟩)⟩
set_option maxHeartbeats 1000000 in
theorem upon_any (x y : Ev) (v : Nat → Bool) (w : World) : Calls Tryz.prog 46 #[.agg (boolRow 8 v), .agg x.cells.toArray, .agg y.cells.toArray] w fun e w' => e = .returned (.func (.func 95) #[] #[.pointer (some ⟨w.heap.size + 1, 0, none⟩), .pointer (some ⟨w.heap.size, 0, none⟩), .pointer (some ⟨w.heap.size + 2, 0, none⟩)]) ∧ w' = ((w.alloc (objV v)).alloc (objEv x)).alloc (objEv y) := by
  go_enter Tryz.func46, Tryz.ntmps46
  go_wp2
  go_ret
  exact ⟨rfl, rfl⟩
end Go.Proofs.YtafefnkgdnmjbaaGreatDoor.pg
/- Whether two events touch one plain variable, one of them writing. -/
namespace Go.Proofs.YtafefnkgdnmjbaaGreatDoor.pg
open Go.ChangeShapes Go.WideShapes Go.ChangeAt Go.RowKit Go.Shelf
set_option linter.unusedVariables false
set_option linter.unusedSimpArgs false
set_option maxRecDepth 100000
attribute [local go_sem] Oper.semAt_some
attribute [local go_sem ↓] Go.wp_at_zero Go.wp_at_succ
def clP (v : Nat → Bool) (x y : Ev) : Bool := x.of.any (upB v y)
theorem clP_true {v : Nat → Bool} {x y : Ev} (hx : rightP x) {z : Int} {pre : List Int} (h : pre ++ [z] <+: upK v x y 6) : clP v x y = true := by
  obtain ⟨t, ht⟩ := h
  have hm : z ∈ upK v x y 6 := by rw [← ht]; simp
  unfold upK at hm
  rw [List.mem_map] at hm
  obtain ⟨a, ha, _⟩ := hm
  rw [List.mem_filter] at ha
  exact List.any_eq_true.mpr ⟨a, List.mem_of_mem_take ha.1, ha.2⟩
theorem clP_false {v : Nat → Bool} {x y : Ev} (hx : rightP x) (h : [] = upK v x y 6) : clP v x y = false := by
  rw [Bool.eq_false_iff]
  intro q
  obtain ⟨a, h1, h2⟩ := List.any_eq_true.mp q
  have hl : x.of.length ≤ 6 := by rw [Ev.of_len]; exact tN_le _
  have hm : a.num ∈ upK v x y 6 := by
    unfold upK
    rw [List.take_of_length_le hl]
    exact List.mem_map.mpr ⟨a, List.mem_filter.mpr ⟨h1, h2⟩, rfl⟩
  rw [← h] at hm
  cases hm
theorem infoPl (v : Nat → Bool) : (Tryz.prog.info? 86).map (·.size) = some (boolRow 8 v).size := by rw [boolRow_size]; kernel_rfl
theorem infoEvR (x : Ev) : (Tryz.prog.info? 69).map (·.size) = some x.cells.toArray.size := by rw [List.size_toArray]; show _ = some 26; kernel_rfl
theorem res_bool {fn : Func} {t : Tmp} (h : fn.results = #[.cell t 4]) (tmps : Array Value) (w : World) {B : Nat} {r : Bool} (ht : tmps[t]?.getD undef = .pointer (some ⟨B, 0, none⟩)) (hc : w.cell? ⟨B, 0, none⟩ = some (.bool r)) : (results fn tmps).run Tryz.prog w = .ok (.bool r) w := by
  have u := Tryz.underlying4
  simp [results, h, ht, go_sem, u, hc]
theorem zeroB : ∀ w, (zeroValue 4).run Tryz.prog w = .ok (.bool false) w := fun w => by kernel_rfl
theorem alloc7 (w : World) (o1 o2 o3 o4 o5 o6 o7 : Obj) : ∃ W, W = ((((((w.alloc o1).alloc o2).alloc o3).alloc o4).alloc o5).alloc o6).alloc o7 ∧ W.heap.size = w.heap.size + 7 ∧ Below w.heap.size w W ∧ W.heap[w.heap.size + 3]? = some o4 ∧ W.heap[w.heap.size + 4]? = some o5 ∧ W.heap[w.heap.size + 5]? = some o6 ∧ W.heap[w.heap.size + 6]? = some o7 := by
  refine ⟨_, rfl, ?_, ?_, ?_, ?_, ?_, ?_⟩
  · simp [World.size_alloc]
  · exact bthen (bthen (bthen (bthen (bthen (bthen (boxed _ _) (boxed _ _)) (boxed _ _)) (boxed _ _)) (boxed _ _)) (boxed _ _)) (boxed _ _)
  · have h := heap_alloc_new (((w.alloc o1).alloc o2).alloc o3) o4
    simp only [World.size_alloc] at h
    refine ((boxed _ _).block _ (by simp [World.size_alloc])).trans (((boxed _ _).block _ (by simp [World.size_alloc])).trans (((boxed _ _).block _ (by simp [World.size_alloc])).trans h))
  · have h := heap_alloc_new ((((w.alloc o1).alloc o2).alloc o3).alloc o4) o5
    simp only [World.size_alloc] at h
    refine ((boxed _ _).block _ (by simp [World.size_alloc])).trans (((boxed _ _).block _ (by simp [World.size_alloc])).trans h)
  · have h := heap_alloc_new (((((w.alloc o1).alloc o2).alloc o3).alloc o4).alloc o5) o6
    simp only [World.size_alloc] at h
    exact ((boxed _ _).block _ (by simp [World.size_alloc])).trans h
  · have h := heap_alloc_new ((((((w.alloc o1).alloc o2).alloc o3).alloc o4).alloc o5).alloc o6) o7
    simp only [World.size_alloc] at h
    exact h
/-- How clash stands: its answer's cell, and what the iterator reads. -/
structure ClS (w W : World) (x y : Ev) (v : Nat → Bool) (r : Bool) : Prop where
  r : W.heap[w.heap.size + 3]? = some (.cells #[.bool r] 4)
  b : Below w.heap.size w W
theorem ClS.keep {w W W' : World} {x y : Ev} {v : Nat → Bool} {r : Bool} (h : ClS w W x y v r) (hk : ∀ (b : Nat) (o : Obj), W.heap[b]? = some o → o.isCells = true → W'.heap[b]? = some o) (hb : Below w.heap.size W W') : ClS w W' x y v r := ⟨hk _ _ h.r rfl, h.b.trans hb⟩
theorem ClS.own {w W W' : World} {x y : Ev} {v : Nat → Bool} {r : Bool} {B : Nat} {row : Option Nat} (h : ClS w W x y v r) (hB : w.heap.size ≤ B) (hgr : W.grownBy W' row)
    (hr : ∀ r, row = some r → B ≤ r ∧ ∃ o : Obj, W.heap[r]? = some o ∧ o.isCells = false) : ClS w W' x y v r := by
  refine h.keep (fun b o q1 q2 => ?_) ((Below.refl w.heap.size W).grown hgr h.b.size fun k e => by have := (hr k e).1; omega)
  rw [hgr.block b (Array.getElem?_eq_some_iff.mp q1).1 fun e => ?_]
  · exact q1
  · obtain ⟨_, o', h2, h3⟩ := hr b e.symm
    rw [q1] at h2; cases h2; rw [q2] at h3; cases h3
set_option maxHeartbeats 4000000 in
theorem clashV_any (x y : Ev) (v : Nat → Bool) (hx : rightP x) (hy : rightP y) (w : World) : Calls Tryz.prog 45 #[.agg (boolRow 8 v), .agg x.cells.toArray, .agg y.cells.toArray] w fun e w' => e = .returned (.bool (clP v x y)) ∧ Below w.heap.size w w' := by
  have cU : ∀ wx, Calls Tryz.prog 46 #[.agg (boolRow 8 v), .agg x.cells.toArray, .agg y.cells.toArray] wx fun e w' => e = .returned (.func (.func 95) #[] #[.pointer (some ⟨wx.heap.size + 1, 0, none⟩), .pointer (some ⟨wx.heap.size, 0, none⟩), .pointer (some ⟨wx.heap.size + 2, 0, none⟩)]) ∧ w' = ((wx.alloc (objV v)).alloc (objEv x)).alloc (objEv y) := fun wx => upon_any x y v wx
  obtain ⟨Wz, hWz, z7, b7, p3, p4, p5, p6⟩ := alloc7 w (objV v) (objEv x) (objEv y) (.cells #[.bool false] 4) (objV v) (objEv x) (objEv y)
  have l1 : ((((w.alloc (objV v)).alloc (objEv x)).alloc (objEv y)).alloc (.cells #[.bool false] 4)).heap[w.heap.size]? = some (objV v) ∧ ((((w.alloc (objV v)).alloc (objEv x)).alloc (objEv y)).alloc (.cells #[.bool false] 4)).heap[w.heap.size + 1]? = some (objEv x) ∧ ((((w.alloc (objV v)).alloc (objEv x)).alloc (objEv y)).alloc (.cells #[.bool false] 4)).heap[w.heap.size + 1 + 1]? = some (objEv y) := by
    obtain ⟨q1, q2, q3, q4, q5, q6⟩ := alloc4 w (objV v) (objEv x) (objEv y) (.cells #[.bool false] 4)
    exact ⟨q1, q2, q3⟩
  have l1H : Hid _ := l1
  have huV : Hid (Tryz.prog.underlying 86 = _) := Tryz.underlying86
  have huE : Hid (Tryz.prog.underlying 69 = _) := Tryz.underlying69
  have z4 : ((((w.alloc (objV v)).alloc (objEv x)).alloc (objEv y)).alloc (.cells #[.bool false] 4)).heap.size = w.heap.size + 4 := by simp [World.size_alloc]
  have hWH : Hid _ := hWz
  have z4H : Hid _ := z4
  clear l1 hWz z4
  refine (callsIn_wide (n := 3)).1 ?_
  refine callsIn_of_wp_marks Tryz.func45 rfl trivial ?_ rfl
  simp only [Tryz.ntmps45, List.size_toArray, List.length_cons, List.length_nil, Nat.reduceAdd, Nat.reduceSub, Array.replicate_succ, Array.replicate_zero, List.push_toArray, List.append_toArray, List.nil_append, List.cons_append]
  refine wpIn_wide.2 ?_
  go_wp2_with (first
    | (refine wpList_load_row rfl 86 _ rfl w.heap.size rfl _ _ _ _ l1H.out.1 huV.out rfl (infoPl v) ?_)
    | (refine wpList_load_row rfl 69 _ rfl (w.heap.size + 1) rfl _ _ _ _ l1H.out.2.1 huE.out rfl (infoEvR x) ?_)
    | (refine wpList_load_row rfl 69 _ rfl (w.heap.size + 1 + 1) rfl _ _ _ _ l1H.out.2.2 huE.out rfl (infoEvR y) ?_)
    | (go_at_call 46; (refine (cU _).mono ?_); rintro e w1 ⟨rfl, hw1⟩))
  refine Eq.mp (congrArg (Code.wp Tryz.prog _ _ _) hWH.out) ?_
  have hU : Up3 (w.heap.size + 5) (w.heap.size + 4) (w.heap.size + 6) x v y Wz := ⟨p5, p4, p6⟩
  have s1 : ClS w Wz x y v false := ⟨p3, b7⟩
  clear cU l1H hWH z4H p4 p5 p6
  refine (wpIn_wide (n := 3)).1 ?_
  refine wpIn_rangeFunc_ownG (n := 3) rfl (by omega) (gf := 95) (lb := #[.pointer (some ⟨w.heap.size + 5, 0, none⟩), .pointer (some ⟨w.heap.size + 4, 0, none⟩), .pointer (some ⟨w.heap.size + 6, 0, none⟩)]) rfl trivial (enters_of Tryz.func95 (by kernel_rfl) rfl)
    (upon_stops 2 x y v hx hy _ _ _ Wz hU) Kp3.trans (kp3_b (by omega) (by omega) (by omega)) (Below.refl _ _) (fun _ => rfl)
    (fun pre W => pre = [] ∧ ClS w W x y v false) (fun c pre W => c = .ret ∧ (∃ z, pre = [z]) ∧ ClS w W x y v true) ?own ?ownx ⟨rfl, s1⟩ (fun z => { tmps := #[.agg (boolRow 8 v), .agg x.cells.toArray, .agg y.cells.toArray, .pointer (some ⟨w.heap.size, 0, none⟩), .pointer (some ⟨w.heap.size + 1, 0, none⟩), .pointer (some ⟨w.heap.size + 2, 0, none⟩), .pointer (some ⟨w.heap.size + 3, 0, none⟩), .agg (boolRow 8 v), .agg x.cells.toArray, .agg y.cells.toArray, .func (.func 95) #[] #[.pointer (some ⟨w.heap.size + 5, 0, none⟩), .pointer (some ⟨w.heap.size + 4, 0, none⟩), .pointer (some ⟨w.heap.size + 6, 0, none⟩)], .int .i64 z], defers := [] }) ?assign ?body ?done ?stop
  case own =>
    rintro pre A B row ⟨h1, hs⟩ hgr hr
    exact ⟨h1, hs.own (by omega) hgr hr⟩
  case ownx =>
    rintro c pre A B row ⟨h0, h1, hs⟩ hgr hr
    exact ⟨h0, h1, hs.own (by omega) hgr hr⟩
  case assign =>
    intro l z W2 K hK
    gi_wp2
    simpa using hK
  case body =>
    rintro l pre z W2 ⟨rfl, hs⟩ hlen
    have hc := cell_of (k := 0) hs.r rfl
    have hf : W2.frozen? ⟨w.heap.size + 3, 0, none⟩ = false := frozen_of_row _ _ _ _ _ hs.r
    have nx : Hid (∀ W', W' = W2.setCell ⟨w.heap.size + 3, 0, none⟩ (.bool true) → KeepsFrom Wz.heap.size W2 W' ∧ ClS w W' x y v true) := fun W' e => by
      rw [e]
      refine ⟨(KeepsOthers.setCell _ _ _).from _, ?_, (hs.b).setCell (p := ⟨w.heap.size + 3, 0, none⟩) (by show w.heap.size ≤ w.heap.size + 3; omega) _⟩
      rw [setCell_eq_setRow W2 (w.heap.size + 3) 0 _ _ _ _ hs.r, setRow_heap W2 (w.heap.size + 3) _ _ _ _ hs.r]
      rfl
    clear hs s1 hU p3 b7
    gi_wp2_with (refine inR_list rfl (by simp) (wpList_putb rfl 4 _ _ rfl ⟨w.heap.size + 3, 0, none⟩ rfl true rfl (by kernel_rfl) _ hc hf fun W' hW' => wpList_nil ?_); (have hfin := nx.out W' hW'); clear hW'; show wpListIn (Fence.wide.inRound l) _ _ _ _ _ _ _)
    exact ⟨hfin.1, rfl, ⟨z, rfl⟩, hfin.2⟩
  case done =>
    rintro D ys W2 hD hS ⟨rfl, hs⟩ hK
    have hcl : Hid (clP v x y = false) := clP_false hx hS
    have hc := cell_of (k := 0) hs.r rfl
    have hf : W2.frozen? ⟨w.heap.size + 3, 0, none⟩ = false := frozen_of_row _ _ _ _ _ hs.r
    have hsH : Hid (ClS w W2 x y v false) := hs
    have hKH : Hid (W2.heap[D]? = some (.deferred (some []))) := hK
    clear hs hK s1 hU p3 b7
    go_wp2_with (refine wpList_putb rfl 4 _ _ rfl ⟨w.heap.size + 3, 0, none⟩ rfl false rfl (by kernel_rfl) _ hc hf fun W' hW' => ?_)
    have hs := hsH.out
    have kD : W'.heap[D]? = some (.deferred (some [])) := by rw [hW']; exact (Below.heap_setCell _ _ _ _ (by show D ≠ w.heap.size + 3; omega)).trans hKH.out
    refine ⟨by simp, .inl ⟨_, _, rfl, run_takeDeferred kD, ?_⟩⟩
    have hr : W'.heap[w.heap.size + 3]? = some (.cells #[.bool false] 4) := by
      rw [hW', setCell_eq_setRow W2 (w.heap.size + 3) 0 _ _ _ _ hs.r, setRow_heap W2 (w.heap.size + 3) _ _ _ _ hs.r]
      rfl
    have hbW : Below w.heap.size w W' := by rw [hW']; exact (hs.b).setCell (p := ⟨w.heap.size + 3, 0, none⟩) (by show w.heap.size ≤ w.heap.size + 3; omega) _
    have hb6 : Below w.heap.size W' (W'.putObj D (.deferred none)) := belowK_b (w := w) (Nat.le_refl _) W' D _ _ (by omega) kD rfl rfl
    have hh6 : (W'.putObj D (.deferred none)).heap[w.heap.size + 3]? = some (.cells #[.bool false] 4) := (World.putObj_heap_other (by omega)).trans hr
    exact ⟨_, res_bool Tryz.results45 _ _ rfl (cell_of (k := 0) hh6 rfl), by rw [hcl.out], hbW.trans hb6⟩
  case stop =>
    rintro D cd pre W2 hD hpre ⟨rfl, ⟨z, rfl⟩, hs⟩ hK
    have hcl : Hid (clP v x y = true) := clP_true (pre := []) (z := z) hx (by simpa using hpre)
    have hsH : Hid (ClS w W2 x y v true) := hs
    have hKH : Hid (W2.heap[D]? = some (.deferred (some []))) := hK
    clear hs hK s1 hU p3 b7 hpre
    refine wpIn_wide.2 ?_
    go_wp2_with fail
    have hs := hsH.out
    refine ⟨by simp, .inl ⟨_, _, rfl, run_takeDeferred hKH.out, ?_⟩⟩
    have hb6 : Below w.heap.size W2 (W2.putObj D (.deferred none)) := belowK_b (w := w) (Nat.le_refl _) W2 D _ _ (by omega) hKH.out rfl rfl
    have hh6 : (W2.putObj D (.deferred none)).heap[w.heap.size + 3]? = some (.cells #[.bool true] 4) := (World.putObj_heap_other (by omega)).trans hs.r
    exact ⟨_, res_bool Tryz.results45 _ _ rfl (cell_of (k := 0) hh6 rfl), by rw [hcl.out], hs.b.trans hb6⟩
end Go.Proofs.YtafefnkgdnmjbaaGreatDoor.pg
/- What is wrong with a program, as plain mathematics: by package prog's order and by the document's own; where they agree. -/
namespace Go.Proofs.YtafefnkgdnmjbaaGreatDoor.pg
set_option linter.unusedVariables false
/-- The first error of a list's elements, 0 if none has one; and at which place. -/
def firstE {α : Type} (g : α → Int) : List α → Int
  | [] => 0
  | x :: t => if g x = 0 then firstE g t else g x
def firstAt {α : Type} (g : α → Int) : List α → Nat → Int × Nat
  | [], k => (0, k)
  | x :: t, k => if g x = 0 then firstAt g t (k + 1) else (g x, k)
theorem firstE_zero {α : Type} (g : α → Int) (l : List α) (h : ∀ x ∈ l, g x = 0) : firstE g l = 0 := by
  induction l with
  | nil => rfl
  | cons x t ih => simp only [firstE, h x (by simp), if_true]; exact ih fun y hy => h y (by simp [hy])
theorem firstE_iff {α : Type} (g : α → Int) (l : List α) : firstE g l = 0 ↔ ∀ x ∈ l, g x = 0 := by
  constructor
  · intro h
    induction l with
    | nil => simp
    | cons x t ih =>
      simp only [firstE] at h
      by_cases hx : g x = 0
      · simp only [hx, if_true] at h
        intro y hy
        rcases List.mem_cons.mp hy with rfl | hy
        · exact hx
        · exact ih h y hy
      · simp only [hx, if_false] at h
  · exact firstE_zero g l
theorem firstE_hit {α : Type} (g : α → Int) (l : List α) (k : Nat) (x : α) (hk : l[k]? = some x) (h : ∀ i y, i < k → l[i]? = some y → g y = 0) (hx : g x ≠ 0) : firstE g l = g x := by
  induction l generalizing k with
  | nil => simp at hk
  | cons y t ih =>
    cases k with
    | zero =>
      simp at hk
      subst hk
      simp [firstE, hx]
    | succ k =>
      simp at hk
      simp only [firstE, h 0 y (by omega) rfl, if_true]
      exact ih k hk fun i z hi hz => h (i + 1) z (by omega) (by simpa using hz)
theorem firstAt_zero {α : Type} (g : α → Int) (l : List α) (j : Nat) (h : ∀ x ∈ l, g x = 0) : firstAt g l j = (0, j + l.length) := by
  induction l generalizing j with
  | nil => rfl
  | cons x t ih =>
    simp only [firstAt, h x (by simp), if_true]
    rw [ih (j + 1) fun y hy => h y (by simp [hy])]
    simp; omega
theorem firstAt_hit {α : Type} (g : α → Int) (l : List α) (j k : Nat) (x : α) (hk : l[k]? = some x) (h : ∀ i y, i < k → l[i]? = some y → g y = 0) (hx : g x ≠ 0) : firstAt g l j = (g x, j + k) := by
  induction l generalizing k j with
  | nil => simp at hk
  | cons y t ih =>
    cases k with
    | zero =>
      simp at hk
      subst hk
      simp [firstAt, hx]
    | succ k =>
      simp at hk
      simp only [firstAt, h 0 y (by omega) rfl, if_true]
      rw [ih (j + 1) k hk fun i z hi hz => h (i + 1) z (by omega) (by simpa using hz)]
      simp; omega
theorem firstAt_fst {α : Type} (g : α → Int) (l : List α) (j : Nat) : (firstAt g l j).1 = firstE g l := by
  induction l generalizing j with
  | nil => rfl
  | cons x t ih =>
    by_cases hx : g x = 0
    · simp only [firstAt, firstE, hx, if_true]; exact ih _
    · simp only [firstAt, firstE, hx, if_false]
/-- How the letters of an operation's form lie: the letter's byte at a place; 0 of what is no operation. -/
def formOf (op : Int) : List Int :=
  if 1 ≤ op ∧ op ≤ 15 then [114, 114, 45, 45] else if 16 ≤ op ∧ op ≤ 36 then [114, 114, 114, 45] else
  if op = 40 ∨ op = 44 ∨ op = 65 then [114, 45, 45, 110] else if op = 41 then [114, 114, 45, 45] else if op = 42 then [116, 45, 45, 45] else if op = 43 then [114, 116, 45, 45] else
  if op = 45 ∨ op = 64 then [45, 45, 45, 45] else if op = 50 then [114, 118, 45, 45] else if op = 51 then [118, 114, 45, 45] else if op = 52 then [111, 97, 114, 45] else if op = 53 then [114, 97, 114, 119] else
  if op = 54 then [97, 114, 45, 45] else if op = 55 ∨ op = 56 then [108, 45, 45, 45] else if op = 57 then [114, 108, 45, 45] else if op = 58 then [99, 114, 45, 45] else if op = 59 then [111, 99, 111, 45] else
  if op = 60 then [99, 45, 45, 45] else if op = 61 then [115, 45, 45, 45] else if op = 62 then [111, 102, 112, 45] else if op = 63 then [114, 45, 45, 45] else []
def lt (op : Int) (j : Nat) : Int := (formOf op).getD j 0
abbrev known (op : Int) : Prop := formOf op ≠ []
def Ins.x (i : Ins) : Nat → Int
  | 0 => i.a
  | 1 => i.b
  | 2 => i.c
  | _ => i.n
abbrev inRp (x n : Int) : Prop := 0 ≤ x ∧ x < n
/-- k parameters from the register first on. -/
abbrev roomP (k first regs : Int) : Prop := if k = 0 then first = 0 else if first < 0 then False else first + k ≤ regs
abbrev roomR (k x regs : Int) : Prop := ¬ (k = 0 ∧ x ≠ 0 ∨ 0 < k ∧ (x < 0 ∨ regs - k < x))
def Pr.par (P : Pr) (b : Int) : Int := match P.fns[b.toNat]? with | some f => f.params | none => 0
def Pr.atom (P : Pr) (b : Int) : Bool := match P.vars[b.toNat]? with | some f => f.atomic | none => false
/-- What is wrong with an operand, by its letter; r: whether the parameters have room. -/
def opndE (r : Prop) [Decidable r] (P : Pr) (f : Fn) (l x : Int) : Int :=
  if l = 111 ∧ x = -1 then 0 else
  if l = 111 ∨ l = 114 ∨ l = 119 then (if inRp x f.regs then 0 else 35) else
  if l = 112 then (if r then 0 else 35) else
  if l = 97 then (if inRp x P.vars.length then (if P.atom x = true then 0 else 37) else 36) else
  if l = 118 then (if inRp x P.vars.length then 0 else 36) else
  if l = 108 then (if inRp x P.locks then 0 else 36) else
  if l = 99 then (if inRp x P.chans.length then 0 else 36) else
  if l = 115 then (if inRp x f.sels.length then 0 else 36) else
  if l = 102 then (if inRp x P.fns.length then 0 else 36) else
  if l = 116 then (if inRp x f.code.length then 0 else 38) else 0
def fst4 (a b c d : Int) : Int := if a = 0 then (if b = 0 then (if c = 0 then d else c) else b) else a
abbrev unused (i : Ins) : Prop := lt i.op 0 = 45 ∧ i.a ≠ 0 ∨ lt i.op 1 = 45 ∧ i.b ≠ 0 ∨ lt i.op 2 = 45 ∧ i.c ≠ 0 ∨ lt i.op 3 = 45 ∧ i.n ≠ 0
/-- What is wrong with an instruction. -/
def insE (r : Prop) [Decidable r] (P : Pr) (f : Fn) (i : Ins) : Int :=
  if known i.op then (if unused i then 34 else fst4 (opndE r P f (lt i.op 0) i.a) (opndE r P f (lt i.op 1) i.b) (opndE r P f (lt i.op 2) i.c) (opndE r P f (lt i.op 3) i.n)) else 33
def insP (P : Pr) (f : Fn) (i : Ins) : Int := insE (roomP (P.par i.b) i.c f.regs) P f i
def insR (P : Pr) (f : Fn) (i : Ins) : Int := insE (roomR (P.par i.b) i.c f.regs) P f i
def Pr.room (P : Pr) (c : Int) : Int := match P.chans[c.toNat]? with | some x => x | none => 0
/-- What is wrong with a case, a select. -/
def casE (P : Pr) (f : Fn) (c : Cas) : Int :=
  if inRp c.ch P.chans.length then (if inRp c.reg f.regs ∨ c.reg = -1 ∧ c.send = false then (if c.send = true ∧ P.room c.ch = 0 then 37 else if inRp c.to f.code.length then 0 else 38) else 35) else 36
def selE (P : Pr) (f : Fn) (s : Sel) : Int :=
  if firstE (casE P f) s.cases = 0 then (if s.els = -1 ∨ inRp s.els f.code.length then 0 else 38) else firstE (casE P f) s.cases
abbrev shaped (f : Fn) : Prop := (0 ≤ f.regs ∧ f.regs ≤ 8) ∧ (0 ≤ f.params ∧ f.params ≤ f.regs) ∧ (1 ≤ f.code.length ∧ f.code.length ≤ 64) ∧ f.sels.length ≤ 4 ∧ ∀ s ∈ f.sels, 1 ≤ s.cases.length ∧ s.cases.length ≤ 4
abbrev ends (op : Int) : Prop := op = 42 ∨ op = 45 ∨ op = 61
def lastOp (f : Fn) : Int := match f.code.getLast? with | some i => i.op | none => 0
/-- What is wrong with a function, and at which place. -/
def fnE (ins : Pr → Fn → Ins → Int) (P : Pr) (n : Nat) (f : Fn) : Int × Int :=
  if shaped f ∧ (n = 0 → f.params = 0) then
    (if firstE (selE P f) f.sels = 0 then
      (if firstE (ins P f) f.code = 0 then (if ends (lastOp f) then (0, 0) else (39, (f.code.length : Int) - 1)) else ((firstAt (ins P f) f.code 0).1, ((firstAt (ins P f) f.code 0).2 : Int)))
    else (firstE (selE P f) f.sels, 0))
  else (32, 0)
def sizesE (P : Pr) : Int :=
  if P.vars.length ≤ 8 ∧ (0 ≤ P.locks ∧ P.locks ≤ 4) ∧ P.chans.length ≤ 4 ∧ (1 ≤ P.fns.length ∧ P.fns.length ≤ 8) then firstE (fun c => if 0 ≤ c ∧ c ≤ 4 then 0 else 31) P.chans else 30
def fnsE (ins : Pr → Fn → Ins → Int) (P : Pr) : List Fn → Nat → Int × Int × Int
  | [], _ => (0, 0, 0)
  | f :: t, n => if (fnE ins P n f).1 = 0 then fnsE ins P t (n + 1) else ((fnE ins P n f).1, n, (fnE ins P n f).2)
def chk (ins : Pr → Fn → Ins → Int) (P : Pr) : Int × Int × Int := if sizesE P = 0 then fnsE ins P P.fns 0 else (sizesE P, 0, 0)
theorem fnsE_zero (ins : Pr → Fn → Ins → Int) (P : Pr) (l : List Fn) (j : Nat) (h : ∀ i f, l[i]? = some f → (fnE ins P (j + i) f).1 = 0) : fnsE ins P l j = (0, 0, 0) := by
  induction l generalizing j with
  | nil => rfl
  | cons x t ih =>
    have h0 := h 0 x rfl
    rw [Nat.add_zero] at h0
    simp only [fnsE, h0, if_true]
    exact ih (j + 1) fun i f hf => by have := h (i + 1) f (by simpa using hf); rwa [show j + 1 + i = j + (i + 1) by omega]
theorem fnsE_hit (ins : Pr → Fn → Ins → Int) (P : Pr) (l : List Fn) (j k : Nat) (x : Fn) (hk : l[k]? = some x) (h : ∀ i f, i < k → l[i]? = some f → (fnE ins P (j + i) f).1 = 0) (hx : (fnE ins P (j + k) x).1 ≠ 0) :
    fnsE ins P l j = ((fnE ins P (j + k) x).1, ((j + k : Nat) : Int), (fnE ins P (j + k) x).2) := by
  induction l generalizing j k with
  | nil => simp at hk
  | cons y t ih =>
    cases k with
    | zero =>
      simp at hk
      subst hk
      rw [Nat.add_zero] at hx ⊢
      simp only [fnsE, hx, if_false]
    | succ k =>
      simp at hk
      have h0 := h 0 y (by omega) rfl
      rw [Nat.add_zero] at h0
      simp only [fnsE, h0, if_true]
      rw [show j + (k + 1) = j + 1 + k by omega] at hx ⊢
      exact ih (j + 1) k hk (fun i f hi hf => by have := h (i + 1) f (by omega) (by simpa using hf); rwa [show j + 1 + i = j + (i + 1) by omega]) hx
theorem casE_obj {P : Pr} {f : Fn} {c : Cas} (h : ¬ inRp c.ch P.chans.length) : casE P f c = 36 := by unfold casE; rw [if_neg h]
theorem casE_reg {P : Pr} {f : Fn} {c : Cas} (h : inRp c.ch P.chans.length) (h2 : ¬ (inRp c.reg f.regs ∨ c.reg = -1 ∧ c.send = false)) : casE P f c = 35 := by unfold casE; rw [if_pos h, if_neg h2]
theorem casE_kind {P : Pr} {f : Fn} {c : Cas} (h : inRp c.ch P.chans.length) (h2 : inRp c.reg f.regs ∨ c.reg = -1 ∧ c.send = false) (h3 : c.send = true ∧ P.room c.ch = 0) : casE P f c = 37 := by unfold casE; rw [if_pos h, if_pos h2, if_pos h3]
theorem casE_target {P : Pr} {f : Fn} {c : Cas} (h : inRp c.ch P.chans.length) (h2 : inRp c.reg f.regs ∨ c.reg = -1 ∧ c.send = false) (h3 : ¬ (c.send = true ∧ P.room c.ch = 0)) (h4 : ¬ inRp c.to f.code.length) : casE P f c = 38 := by
  unfold casE; rw [if_pos h, if_pos h2, if_neg h3, if_neg h4]
theorem casE_ok {P : Pr} {f : Fn} {c : Cas} (h : inRp c.ch P.chans.length) (h2 : inRp c.reg f.regs ∨ c.reg = -1 ∧ c.send = false) (h3 : ¬ (c.send = true ∧ P.room c.ch = 0)) (h4 : inRp c.to f.code.length) : casE P f c = 0 := by
  unfold casE; rw [if_pos h, if_pos h2, if_neg h3, if_pos h4]
end Go.Proofs.YtafefnkgdnmjbaaGreatDoor.pg
