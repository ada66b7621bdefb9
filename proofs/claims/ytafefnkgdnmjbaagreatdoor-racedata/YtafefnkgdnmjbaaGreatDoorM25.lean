/- Package race's races and Pairs. -/
import Derived.Test.YtafefnkgdnmjbaaGreatDoorM24
import Derived.Test.YtafefnkgdnmjbaaGreatDoorM13
import Derived.OrdersHeld
namespace Go.Proofs.YtafefnkgdnmjbaaGreatDoor.pg
open Go.ChangeShapes Go.WideShapes Go.ChangeAt Go.RowKit Go.Shelf
set_option linter.unusedVariables false
set_option linter.unusedSimpArgs false
set_option maxRecDepth 100000
attribute [local go_sem ↓] Go.wp_at_zero Go.wp_at_succ
theorem prAt_of {w : World} {da : Option Addr} {dc : Nat} {E : List (Nat × Nat)} (hE : Rows w 2 da dc (E.map edg)) {n : Nat} {w' : World} (hn : w.heap.size ≤ n) (hb : Below w.heap.size w w') : PrAt n w' da E.length dc (fun i => E.getD i (0, 0)) := fun i hi => by
  obtain ⟨b, o, h1, h2, h3⟩ := hE.ix 23 71 Tryz.underlying23 (by kernel_rfl) (fun wx => Tryz.sizeOf71 wx) i (row := edg (E.getD i (0, 0))) (by rw [List.getElem?_map, List.getD_eq_getElem?_getD, List.getElem?_eq_getElem hi]; rfl)
  rw [List.length_map] at h1
  exact ⟨b, o, h1, by omega, range_block h3 (hb.block b h2)⟩
/-- The edges of a trace, in order. -/
def edL (B : Nat → Nat → Bool) (l : List Ev) : List (Nat × Nat) := eAll (edgeB (dpf l) B) l.length l.length
theorem edL_in {B : Nat → Nat → Bool} {l : List Ev} {p : Nat × Nat} (h : p ∈ edL B l) : p.1 < p.2 ∧ p.2 < l.length := by
  have := (eAll_mem (edgeB (dpf l) B) l.length p l.length).mp h
  omega
theorem edL_len {B : Nat → Nat → Bool} {l : List Ev} (h : l.length ≤ 256) : (edL B l).length ≤ 65536 := by
  have h1 := eAll_len (edgeB (dpf l) B) l.length l.length
  have h2 := Nat.mul_le_mul h h
  unfold edL
  omega
def rcF (l : List Ev) (yes : Nat → Nat → Bool) (i j : Nat) : Bool := !((evf l i).go == (evf l j).go) && yes i j
/-- Those edges between two goroutines that a function says yes to. -/
def rcL (B : Nat → Nat → Bool) (l : List Ev) (yes : Nat → Nat → Bool) : List (Nat × Nat) := (edL B l).filter fun p => rcF l yes p.1 p.2
theorem edges_is (l : List Ev) (la : Option Addr) (lc : Nat) (w : World) (hl : Rows w 26 la lc (l.map Ev.cells)) (hlen : l.length ≤ 256) (hrt : ∀ x ∈ l, rightP x) (B : Nat → Nat → Bool) (hB : Tells (dpf l) B) :
    Calls Tryz.prog 89 #[.slice la l.length lc] w fun e w' => ∃ da dc, e = .returned (.tuple #[.slice da (edL B l).length dc, .int .i64 0]) ∧ Rows w' 2 da dc ((edL B l).map edg) ∧ Below w.heap.size w w' :=
  (edges_ok l la lc w hl hlen hrt).mono fun e w' ⟨da, dc, D, he, hp, hs, hr, hb⟩ => by
    have e1 : D = edL B l := edges_same hrt hB hp hs
    rw [e1] at he hr
    exact ⟨da, dc, he, hr, hb⟩
set_option maxHeartbeats 2000000 in
theorem races_ok (yf : Nat) (pre post : Array Value) (ey : ∀ args w, (callFunc yf args).run Tryz.prog w = .ok (.enter yf args) w) (l : List Ev) (la : Option Addr) (lc : Nat) (w : World) (hl : Rows w 26 la lc (l.map Ev.cells)) (hlen : l.length ≤ 256) (hrt : ∀ x ∈ l, rightP x) (B : Nat → Nat → Bool) (hB : Tells (dpf l) B) (yes : Nat → Nat → Bool)
    (hy : ∀ i j, i < l.length → j < l.length → ∀ wx, Below w.heap.size w wx → Calls Tryz.prog yf (pre ++ #[.agg (evf l i).cells.toArray, .agg (evf l j).cells.toArray] ++ post) wx fun e w' => e = .returned (.bool (yes i j)) ∧ Below wx.heap.size wx w') :
    Calls Tryz.prog 38 #[.slice la l.length lc, .func (.func yf) pre post] w fun e w' => ∃ da dc, e = .returned (.tuple #[.slice da (rcL B l yes).length dc, .int .i64 0]) ∧ Rows w' 2 da dc ((rcL B l yes).map edg) ∧ Below w.heap.size w w' := by
  have cE : ∀ wx, Below w.heap.size w wx → Calls Tryz.prog 89 #[.slice la l.length lc] wx _ := fun wx hb => edges_is l la lc wx (hl.later hb) hlen hrt B hB
  have hin : ∀ p ∈ edL B l, p.1 < p.2 ∧ p.2 < l.length := fun p hp => edL_in hp
  have hDl : (edL B l).length ≤ 65536 := edL_len hlen
  have hF : Hid (rcL B l yes = (edL B l).filter fun p => rcF l yes p.1 p.2) := rfl
  have cP : ∀ (wx : World) (da : Option Addr) (dc : Nat), Below w.heap.size w wx → wx.heap[w.heap.size]? = some (.cells #[.slice la l.length lc] 22) → wx.heap[w.heap.size + 1]? = some (.cells #[.func (.func yf) pre post] 70) → Rows wx 2 da dc ((edL B l).map edg) → ∀ w2, w2 = wx.alloc (.cells #[.slice da (edL B l).length dc] 23) →
      Calls Tryz.prog 61 #[fnV 123 #[.pointer (some ⟨wx.heap.size, 0, none⟩)], fnV 91 #[.pointer (some ⟨w.heap.size, 0, none⟩), .pointer (some ⟨w.heap.size + 1, 0, none⟩)]] w2 fun e w' => ∃ da dc, e = .returned (.slice da (rcL B l yes).length dc) ∧ Rows w' 2 da dc ((rcL B l yes).map edg) ∧ Below w2.heap.size w2 w' := by
    intro wx da dc hb h1 h2 hr w2 hw2
    have hz : w2.heap.size = wx.heap.size + 1 := by rw [hw2, World.size_alloc]
    have hbx : Below wx.heap.size wx w2 := by rw [hw2]; exact boxed _ _
    have hBs : w2.heap[wx.heap.size]? = some (.cells #[.slice da (edL B l).length dc] 23) := by rw [hw2]; exact heap_alloc_new _ _
    have hr2 := hr.later hbx
    refine (put_any _ _ _ _ (edL B l) hDl (rcF l yes) w2 (enters_of Tryz.func123 (by kernel_rfl) rfl) (enters_of Tryz.func91 (by kernel_rfl) rfl) ?_ ?_).mono ?_
    · intro w3 hb3
      exact val_stops Fence.wide 2 trivial rfl (by omega) wx.heap.size w2.heap.size (edL B l).length dc da _ hDl w3 (by omega) hb3.size ((hb3.block _ (by omega)).trans hBs) (prAt_of hr2 (Nat.le_refl _) hb3)
    · intro p hp w3 hb3
      obtain ⟨q1, q2⟩ := hin p hp
      have hbw : Below w.heap.size w w3 := bthen (bthen hb hbx) hb3
      have l1 := (Array.getElem?_eq_some_iff.mp h1).1
      have l2 := (Array.getElem?_eq_some_iff.mp h2).1
      exact races1_any yf pre post ey l la lc w3 (hl.later hbw) p.1 p.2 _ _ (evf_at (by omega)) (evf_at (by omega)) w.heap.size (w.heap.size + 1) ((hb3.block _ (by omega)).trans ((hbx.block _ l1).trans h1)) ((hb3.block _ (by omega)).trans ((hbx.block _ l2).trans h2)) (yes p.1 p.2) (fun wy hby => hy p.1 p.2 (by omega) (by omega) wy (bthen hbw hby)) _ rfl
    · rintro e w' ⟨da', dc', rfl, ho, hb'⟩
      exact ⟨da', dc', rfl, own_rows ho fun row hm => by rw [List.mem_map] at hm; obtain ⟨y, _, rfl⟩ := hm; rfl, hb'⟩
  have h12 : ((w.alloc (.cells #[.slice la l.length lc] 22)).alloc (.cells #[.func (.func yf) pre post] 70)).heap[w.heap.size]? = some (.cells #[.slice la l.length lc] 22) ∧ ((w.alloc (.cells #[.slice la l.length lc] 22)).alloc (.cells #[.func (.func yf) pre post] 70)).heap[w.heap.size + 1]? = some (.cells #[.func (.func yf) pre post] 70) := by
    refine ⟨(Below.heap_alloc _ _ _ (by simp [World.size_alloc])).trans (heap_alloc_new w _), ?_⟩
    have := heap_alloc_new (w.alloc (.cells #[.slice la l.length lc] 22)) (.cells #[.func (.func yf) pre post] 70)
    rwa [World.size_alloc] at this
  have h12H : Hid _ := h12
  have cPH : Hid _ := cP
  clear hl hlen hrt hy hin hDl cP h12
  generalize rcL B l yes = F at *
  generalize edL B l = D at *
  go_enter Tryz.func38, Tryz.ntmps38
  go_wp2_with (first
    | (go_at_call 89; (with_reducible refine (cE _ (bthen (boxed _ _) (boxed _ _))).mono ?_); rintro e w1 ⟨da, dc, rfl, hr, hb⟩; (have hB1 : Hid (Below w.heap.size w w1) := bthen (bthen (boxed _ _) (boxed _ _)) hb); (have hr1 : Hid (Rows w1 2 da dc (D.map edg)) := hr); (have hx1 : Hid (w1.heap[w.heap.size]? = some (.cells #[.slice la l.length lc] 22) ∧ w1.heap[w.heap.size + 1]? = some (.cells #[.func (.func yf) pre post] 70)) := ⟨(hb.block _ (Array.getElem?_eq_some_iff.mp h12H.out.1).1).trans h12H.out.1, (hb.block _ (Array.getElem?_eq_some_iff.mp h12H.out.2).1).trans h12H.out.2⟩); clear cE hr hb)
    | (go_at_call 90; (with_reducible refine (val_any da D.length dc _).mono ?_); rintro e w2 ⟨rfl, hw2⟩; (have cQ := cPH.out w1 da dc hB1.out hx1.out.1 hx1.out.2 hr1.out w2 hw2); (have hB2 : Hid (Below w.heap.size w w2) := by (show Below _ _ _; rw [hw2]; exact bthen hB1.out (boxed _ _))); clear hw2)
    | (go_at_call 61; (with_reducible refine cQ.mono ?_); rintro e w3 ⟨va, vc, rfl, hr3, hb3⟩))
  go_ret2
  exact ⟨va, vc, rfl, hr3, bthen hB2.out hb3⟩
set_option maxHeartbeats 1000000 in
theorem edges_bad3 (l : List Ev) (la : Option Addr) (lc : Nat) (w : World) (hl : Rows w 26 la lc (l.map Ev.cells)) (c : Int) (hc : checkP l c) (h0 : c = 2 ∨ c = 7) :
    Calls Tryz.prog 89 #[.slice la l.length lc] w fun e w' => e = .returned (.tuple #[.slice none 0 0, .int .i64 c]) ∧ Below w.heap.size w w' := by
  have c1 := look_bad l la lc (.slice none 0 0) w hl c hc h0
  have c2 : ∀ wx, Calls Tryz.prog 120 #[.slice none 0 0, .func (.func 121) #[] #[]] wx fun e w' => (∃ v, e = .returned v) ∧ w' = wx := fun wx => sort_nil wx
  have hx : ∀ w1 : World, (w1.alloc (.cells #[.slice none 0 0, .slice none 0 0, .slice none 0 0] 138)).cell? ⟨w1.heap.size, 2, none⟩ = some (.slice none 0 0) := fun w1 => cell_of (heap_alloc_new _ _) rfl
  clear hl hc h0
  go_enter Tryz.func89, Tryz.ntmps89
  go_wp2_with (first
    | (go_at_call 79; (with_reducible refine c1.mono ?_); rintro e w1 ⟨rfl, hb'⟩; (have hb : Hid (Below w.heap.size w w1) := hb'); (have hx1 := hx w1); clear hb' c1)
    | (refine wpList_store_new rfl 138 _ _ rfl rfl _ _ rfl (by kernel_rfl) rfl (one3 _ _ _ _ _ _ _ _ _) ?_)
    | (go_at_call 120; (with_reducible refine (c2 _).mono ?_); rintro e w2 ⟨⟨v, rfl⟩, rfl⟩))
  go_ret2
  exact ⟨rfl, bthen hb.out (boxed _ _)⟩
set_option maxHeartbeats 1000000 in
theorem races_bad (yv : Value) (yf : Nat) (pre post : Array Value) (hyv : yv = .func (.func yf) pre post) (l : List Ev) (la : Option Addr) (lc : Nat) (w : World) (hl : Rows w 26 la lc (l.map Ev.cells)) (c : Int) (hc : checkP l c) (h0 : c = 2 ∨ c = 7) :
    Calls Tryz.prog 38 #[.slice la l.length lc, yv] w fun e w' => e = .returned (.tuple #[.slice none 0 0, .int .i64 c]) ∧ Below w.heap.size w w' := by
  subst hyv
  have cE : ∀ wx, Below w.heap.size w wx → Calls Tryz.prog 89 #[.slice la l.length lc] wx fun e w' => e = .returned (.tuple #[.slice none 0 0, .int .i64 c]) ∧ Below wx.heap.size wx w' := fun wx hb => edges_bad3 l la lc wx (hl.later hb) c hc h0
  clear hl hc
  rcases h0 with rfl | rfl
  all_goals
    go_enter Tryz.func38, Tryz.ntmps38
    go_wp2_with (go_at_call 89; (with_reducible refine (cE _ (bthen (boxed _ _) (boxed _ _))).mono ?_); rintro e w1 ⟨rfl, hb⟩; (have hB1 : Hid (Below w.heap.size w w1) := bthen (bthen (boxed _ _) (boxed _ _)) hb); clear cE hb)
    go_ret2
    exact ⟨rfl, hB1.out⟩
theorem pairs1_any (x y : Value) (cx cy : Array Value) (hx : x = .agg cx) (hy : y = .agg cy) (w : World) : Calls Tryz.prog 39 #[x, y] w fun e w' => e = .returned (.bool true) ∧ Below w.heap.size w w' := by
  subst hx hy
  go_enter Tryz.func39, Tryz.ntmps39
  go_wp2
  go_ret
  exact ⟨rfl, bthen (boxed _ _) (boxed _ _)⟩
set_option maxHeartbeats 1000000 in
theorem pairs_ok (l : List Ev) (la : Option Addr) (lc : Nat) (w : World) (hl : Rows w 26 la lc (l.map Ev.cells)) (hlen : l.length ≤ 256) (hrt : ∀ x ∈ l, rightP x) (B : Nat → Nat → Bool) (hB : Tells (dpf l) B) :
    Calls Tryz.prog 9 #[.slice la l.length lc] w fun e w' => ∃ da dc, e = .returned (.tuple #[.slice da (rcL B l fun _ _ => true).length dc, .int .i64 0]) ∧ Rows w' 2 da dc ((rcL B l fun _ _ => true).map edg) ∧ Below w.heap.size w w' := by
  have c1 : Calls Tryz.prog 38 #[.slice la l.length lc, .func (.func 39) #[] #[]] w _ := races_ok 39 #[] #[] (enters_of Tryz.func39 (by kernel_rfl) rfl) l la lc w hl hlen hrt B hB (fun _ _ => true) (fun i j _ _ wx _ => pairs1_any _ _ _ _ rfl rfl wx)
  clear hl hlen hrt hB
  generalize rcL B l (fun _ _ => true) = F at *
  go_enter Tryz.func9, Tryz.ntmps9
  go_wp2_with (go_at_call 38; (with_reducible refine c1.mono ?_); rintro e w1 ⟨da, dc, rfl, hr, hb⟩)
  go_ret2
  exact ⟨da, dc, rfl, hr, hb⟩
set_option maxHeartbeats 1000000 in
theorem pairs_bad (l : List Ev) (la : Option Addr) (lc : Nat) (w : World) (hl : Rows w 26 la lc (l.map Ev.cells)) (c : Int) (hc : checkP l c) (h0 : c = 2 ∨ c = 7) :
    Calls Tryz.prog 9 #[.slice la l.length lc] w fun e w' => e = .returned (.tuple #[.slice none 0 0, .int .i64 c]) ∧ Below w.heap.size w w' := by
  have c1 := races_bad _ 39 #[] #[] rfl l la lc w hl c hc h0
  clear hl hc h0
  go_enter Tryz.func9, Tryz.ntmps9
  go_wp2_with (go_at_call 38; (with_reducible refine c1.mono ?_); rintro e w1 ⟨rfl, hb⟩)
  go_ret2
  exact ⟨rfl, hb⟩
end Go.Proofs.YtafefnkgdnmjbaaGreatDoor.pg
/- A region that draws its order and hands something out: reads are taken first, under a condition on the world that is held till then. -/
namespace Go.Proofs.YtafefnkgdnmjbaaGreatDoor.pg
open Go.ChangeShapes Go.WideShapes Go.ChangeAt Go.RowKit
set_option linter.unusedVariables false
set_option linter.unusedSimpArgs false
section
variable {P : Program} {ops : Array Oper} {Q : Exit → Act → World → Prop} {md : Region.Mode} {S : World → Prop} {n y : Nat}
/-- What an operation comes to, with another one's value put ahead of it. -/
theorem upon_shift {o : Oper} {a : Act} {d : Option Tmp} {v : Value} {K K' : Act → World → Prop}
    (h1 : ∀ u w', K ((a.put d v).put o.dst u) w' → K' (a.put o.dst u) w')
    (h2 : ∀ x w', K (({ a.put d v with defers := x :: (a.put d v).defers } : Act).put o.dst undef) w' → K' (({ a with defers := x :: a.defers } : Act).put o.dst undef) w')
    (h3 : ∀ c w', Q (.panic c) (a.put d v) w' → Q (.panic c) a w') (r : Result Next)
    (h : o.uponIn Fence.wide n P (a.put d v) K Q r) : o.uponIn Fence.wide n P a K' Q r := by
  cases r with
  | ok x w' =>
    cases x with
    | value u => exact h1 u w' h
    | skip => exact h1 _ w' h
    | defer c => exact h2 c w' h
    | enter f args => exact ⟨h.1, h.2.mono fun e w2 he => by
        cases e with
        | returned u => exact h1 u w2 he
        | panicked c => exact h3 c w2 he
        | outgrown => exact he⟩
    | row x args => exact ⟨h.1, h.2.mono fun u w2 he => h1 u w2 he⟩
    | round l f ts asg bd => exact ⟨h.1, h.2.mono fun e w2 he => by
        cases e with
        | returned u => exact h1 u w2 he
        | panicked c => exact h3 c w2 he
        | outgrown => exact he⟩
    | _ => exact h
  | halt x w' =>
    cases x with
    | panic u => exact h3 _ w' h
    | _ => exact h
theorem op_shift {j : Nat} {oi oj : Oper} {v : Value} (hj : ops[j]? = some oj) (hap : oi.apart ops oj = true) (hsi : ∀ cs b, oi.op ≠ .select cs b) (hsj : ∀ cs b, oj.op ≠ .select cs b)
    (hQ : ∀ c a w, Q (.panic c) (a.put oi.dst v) w → Q (.panic c) a w) {K : Act → World → Prop} {a : Act} {w : World} (hy : YieldsIf P ops S oi v a) (h : wpOpIn Fence.wide n P ops Q j K (a.put oi.dst v) w) :
    wpOpIn Fence.wide n P ops Q j (fun a' w' => YieldsIf P ops S oi v a' ∧ K (a'.put oi.dst v) w') a w := by
  obtain ⟨g1, g2, g3⟩ := Oper.apart_spec hap
  have keep : ∀ (a0 : Act), YieldsIf P ops S oi v a0 → ∀ u, YieldsIf P ops S oi v (a0.put oj.dst u) := fun a0 q u => q.of_same (execOp_put oi hsi a0 oj.dst u g3) (wanted_put oi a0 oj.dst u g3)
  unfold wpOpIn at h ⊢
  simp only [hj] at h ⊢
  rw [wanted_put oj a oi.dst v g1] at h
  by_cases hw : Region.wanted oj (yielded ops a.tmps) = true
  · rw [if_pos hw] at h ⊢
    unfold Oper.wpIn at h ⊢
    refine ⟨fun f _ => trivial, ?_⟩
    have h := h.2
    rw [show Fence.wide.round = none from rfl, Oper.semAt_none] at h ⊢
    rw [execOp_put oj hsj a oi.dst v g1] at h
    refine upon_shift (fun u w' q => ?_) (fun x w' q => ?_) (fun c w' q => hQ c a w' q) _ h
    · rw [Act.put_comm a v u g2] at q
      exact ⟨keep a hy u, q⟩
    · rw [Act.put_defers, Act.put_comm _ v undef g2] at q
      exact ⟨keep { a with defers := x :: a.defers } (hy.of_same rfl rfl) undef, q⟩
  · rw [if_neg hw] at h ⊢
    refine ⟨fun f _ => trivial, keep a hy _, ?_⟩
    rw [← Act.put_comm a v undef g2]
    exact h.2
/-- Whatever order is drawn from here on; the condition holds behind every operation till the one that hands out. -/
def wpAnyY (n : Nat) (P : Program) (md : Region.Mode) (ops : Array Oper) (Q : Exit → Act → World → Prop) (S : World → Prop) (y : Nat) : Nat → Array Bool → Act → World → Prop
  | 0, listed, a, w => Region.ready md ops listed = [] ∧ Q .normal a w
  | fuel + 1, listed, a, w => (Region.ready md ops listed = [] → Q .normal a w) ∧
    ∀ i ∈ Region.ready md ops listed, wpOpIn Fence.wide n P ops Q i (fun a' w' => if i = y then wpAnyIn Fence.wide n P md ops Q fuel (listed.setIfInBounds i true) a' w' else S w' ∧ wpAnyY n P md ops Q S y fuel (listed.setIfInBounds i true) a' w') a w
theorem any_of_y : ∀ (fuel : Nat) (listed : Array Bool) (a : Act) (w : World), wpAnyY n P md ops Q S y fuel listed a w → wpAnyIn Fence.wide n P md ops Q fuel listed a w
  | 0, _, _, _, h => h
  | fuel + 1, _, _, _, h => ⟨h.1, fun i hi => wpOpIn_mono (fun a' w' q => by
      by_cases e : i = y
      · rw [if_pos e] at q; exact q
      · rw [if_neg e] at q; exact any_of_y fuel _ a' w' q.2) (h.2 i hi)⟩
/-- What may come up while one is held back. -/
def growC (md : Region.Mode) (ops : Array Oper) (i : Nat) (C : Array Bool) : Array Bool :=
  (List.range ops.size).foldl (fun C j => if !(j == i) && ((ops[j]?).map (·.after.all fun e => !Region.binds md e || C.getD e.on false)).getD false then C.setIfInBounds j true else C) C
def okC' (md : Region.Mode) (ops : Array Oper) (i y : Nat) (listed C : Array Bool) : Bool :=
  !C.getD y true && (C.size == ops.size) && ((List.range listed.size).all fun j => !listed.getD j false || C.getD j false) &&
    ((List.range ops.size).all fun j => j == i || C.getD j false || !((ops[j]?).map (·.after.all fun e => !Region.binds md e || C.getD e.on false)).getD false)
def canY (md : Region.Mode) (ops : Array Oper) (listed : Array Bool) (i y : Nat) : Bool := okC' md ops i y listed (growC md ops i listed)
structure HeldC (md : Region.Mode) (ops : Array Oper) (i y : Nat) (C : Array Bool) : Prop where
  y : C.getD y true = false
  z : C.size = ops.size
  c : ∀ (j : Nat) (o : Oper), ops[j]? = some o → j ≠ i → (∀ e ∈ o.after, Region.binds md e = true → C.getD e.on false = true) → C.getD j false = true
theorem held_of {listed C : Array Bool} {i : Nat} (h : okC' md ops i y listed C = true) : HeldC md ops i y C ∧ ∀ j, listed.getD j false = true → C.getD j false = true := by
  unfold okC' at h
  simp only [Bool.and_eq_true, Bool.not_eq_true', beq_iff_eq] at h
  obtain ⟨⟨⟨h1, h2⟩, h3⟩, h4⟩ := h
  rw [List.all_eq_true] at h3 h4
  refine ⟨⟨h1, h2, fun j o ho hji hall => ?_⟩, fun j hj => ?_⟩
  · have hlt := (Array.getElem?_eq_some_iff.mp ho).1
    have q := h4 j (List.mem_range.mpr hlt)
    simp only [ho, Option.map_some, Option.getD_some, Bool.or_eq_true, beq_iff_eq, Bool.not_eq_true'] at q
    rcases q with (q | q) | q
    · exact absurd q hji
    · exact q
    · exfalso
      have : (o.after.all fun e => !Region.binds md e || C.getD e.on false) = true := by
        rw [Array.all_eq_true_iff_forall_mem]
        intro e he
        cases hb : Region.binds md e with
        | false => rfl
        | true => rw [hall e he hb]; rfl
      rw [this] at q; cases q
  · by_cases hl : j < listed.size
    · have q := h3 j (List.mem_range.mpr hl)
      rw [hj] at q
      simpa using q
    · exfalso
      have : listed.getD j false = false := by simp [Array.getD, hl]
      rw [this] at hj; cases hj
theorem held_ready {listed C : Array Bool} {i j : Nat} (hC : HeldC md ops i y C) (hl : ∀ j, listed.getD j false = true → C.getD j false = true) (hj : j ∈ Region.ready md ops listed) (hji : j ≠ i) : j ≠ y ∧ ∀ k, (listed.setIfInBounds j true).getD k false = true → C.getD k false = true := by
  obtain ⟨_, o, ho, hall⟩ := mem_ready.1 hj
  have hc := hC.c j o ho hji fun e he hb => hl _ (hall e he hb)
  refine ⟨fun e => ?_, fun k hk => ?_⟩
  · subst e
    have h1 := hC.y
    have hlt : j < C.size := by rw [hC.z]; exact (Array.getElem?_eq_some_iff.mp ho).1
    simp [Array.getD, hlt] at h1 hc
    rw [h1] at hc; cases hc
  · by_cases e : j = k
    · rw [← e]; exact hc
    · rw [getD_set_ne false e] at hk; exact hl k hk
theorem y_first {i : Nat} {oi : Oper} {v : Value} {C : Array Bool} (hi : ops[i]? = some oi) (hsel : ∀ (j : Nat) (o : Oper) cs b, ops[j]? = some o → o.op ≠ .select cs b)
    (hQ : ∀ c a w, Q (.panic c) (a.put oi.dst v) w → Q (.panic c) a w) (hC : HeldC md ops i y C) (hiy : i ≠ y) :
    ∀ (fuel : Nat) (listed : Array Bool) (a : Act) (w : World),
      (∀ j oj, ops[j]? = some oj → j ≠ i → listed.getD j true = false → (∀ e ∈ oj.after, Region.binds md e = true → e.on ≠ i) → oi.apart ops oj = true) →
      (∀ j, listed.getD j false = true → C.getD j false = true) →
      i ∈ Region.ready md ops listed → YieldsIf P ops S oi v a → S w →
      wpAnyY n P md ops Q S y fuel (listed.setIfInBounds i true) (a.put oi.dst v) w → wpAnyY n P md ops Q S y (fuel + 1) listed a w := by
  have own : ∀ (K : Act → World → Prop) (a : Act) (w : World), YieldsIf P ops S oi v a → S w → K (a.put oi.dst v) w → wpOpIn Fence.wide n P ops Q i K a w := fun K a w hy hS hK => by
    unfold wpOpIn
    simp only [hi]
    rcases hy with ⟨hw, hv⟩ | ⟨hw, rfl⟩
    · rw [if_pos hw]
      unfold Oper.wpIn
      refine ⟨fun f _ => trivial, ?_⟩
      rw [show Fence.wide.round = none from rfl, Oper.semAt_none, hv w hS]
      exact hK
    · rw [if_neg (by rw [hw]; simp)]
      exact ⟨fun f _ => trivial, hK⟩
  intro fuel
  induction fuel with
  | zero =>
    intro listed a w _ _ hr hy hS H
    refine ⟨fun h => (by rw [h] at hr; cases hr), fun j hj => ?_⟩
    by_cases hji : j = i
    · subst hji
      exact own _ a w hy hS (by rw [if_neg hiy]; exact ⟨hS, H⟩)
    · have := ready_mono hj hji
      rw [H.1] at this
      cases this
  | succ fuel ih =>
    intro listed a w hfree hl hr hy hS H
    refine ⟨fun h => (by rw [h] at hr; cases hr), fun j hj => ?_⟩
    by_cases hji : j = i
    · subst hji
      exact own _ a w hy hS (by rw [if_neg hiy]; exact ⟨hS, H⟩)
    · obtain ⟨hjy, hl2⟩ := held_ready hC hl hj hji
      have h1 := H.2 j (ready_mono hj hji)
      simp only [if_neg hjy] at h1 ⊢
      obtain ⟨hjun, oj, hoj, hall⟩ := mem_ready.1 hj
      have hir := (mem_ready.1 hr).1
      have hnot : ∀ e ∈ oj.after, Region.binds md e = true → e.on ≠ i := fun e he hb q => by
        have h3 := hall e he hb
        rw [q] at h3
        by_cases hs : i < listed.size
        · simp [Array.getD, hs] at hir h3
          rw [hir] at h3; cases h3
        · simp [Array.getD, hs] at h3
      have h2 := op_shift (S := S) hoj (hfree j oj hoj hji hjun hnot) (fun cs b => hsel i oi cs b hi) (fun cs b => hsel j oj cs b hoj) hQ hy h1
      refine wpOpIn_mono (fun a' w' h3 => ⟨h3.2.1, ih (listed.setIfInBounds j true) a' w' (fun k ok hk hki hun hno => hfree k ok hk hki ?_ hno) hl2 (ready_mono hr (Ne.symm hji)) h3.1 h3.2.1 ?_⟩) h2
      · by_cases e : j = k
        · subst e; exact hjun
        · rwa [getD_set_ne true e] at hun
      · rw [Array.setIfInBounds_comm _ _ hji]
        exact h3.2.2
section
variable {fuel : Nat} {listed : Array Bool} {a : Act} {w : World}
theorem y_take {i : Nat} {o : Oper} {v : Value} (hi : ops[i]? = some o) (hs : Region.noSelect ops = true) (hf : Region.free md ops listed i = true) (hr : (Region.ready md ops listed).contains i = true) (hc : canY md ops listed i y = true) (hiy : (i == y) = false)
    (hQ : ∀ c a w, Q (.panic c) (a.put o.dst v) w → Q (.panic c) a w) (hy : YieldsIf P ops S o v a) (hS : S w)
    (h : wpAnyY n P md ops Q S y fuel (listed.setIfInBounds i true) (a.put o.dst v) w) : wpAnyY n P md ops Q S y (fuel + 1) listed a w := by
  obtain ⟨h1, h2⟩ := held_of hc
  exact y_first hi (Region.noSelect_spec hs) hQ h1 (by simpa using hiy) fuel listed a w (Region.free_spec hi hf) h2 (by simpa using hr) hy hS h
/-- What yields in whatever world. -/
theorem y_move {i : Nat} {o : Oper} (hi : ops[i]? = some o) (hs : Region.noSelect ops = true) (hf : Region.free md ops listed i = true) (hr : (Region.ready md ops listed).contains i = true) (hc : canY md ops listed i y = true) (hiy : (i == y) = false)
    (hQ : ∀ c v a w, Q (.panic c) (a.put o.dst v) w → Q (.panic c) a w) (hw : Region.wanted o (yielded ops a.tmps) = true) (v : Value) (hv : ∀ w, (execOp a.eval o).run P w = .ok (.value v) w) (hS : S w)
    (h : wpAnyY n P md ops Q S y fuel (listed.setIfInBounds i true) (a.put o.dst v) w) : wpAnyY n P md ops Q S y (fuel + 1) listed a w :=
  y_take hi hs hf hr hc hiy (fun c a w => hQ c _ a w) (.inl ⟨hw, fun w _ => hv w⟩) hS h
/-- One that is passed over. -/
theorem y_skip {i : Nat} {o : Oper} (hi : ops[i]? = some o) (hs : Region.noSelect ops = true) (hf : Region.free md ops listed i = true) (hr : (Region.ready md ops listed).contains i = true) (hc : canY md ops listed i y = true) (hiy : (i == y) = false)
    (hQ : ∀ c v a w, Q (.panic c) (a.put o.dst v) w → Q (.panic c) a w) (hw : Region.wanted o (yielded ops a.tmps) = false) (hS : S w)
    (h : wpAnyY n P md ops Q S y fuel (listed.setIfInBounds i true) (a.put o.dst undef) w) : wpAnyY n P md ops Q S y (fuel + 1) listed a w :=
  y_take hi hs hf hr hc hiy (fun c a w => hQ c _ a w) (.inr ⟨hw, rfl⟩) hS h
/-- A load of one cell. -/
theorem y_load1 {i : Nat} {o : Oper} (hi : ops[i]? = some o) (hs : Region.noSelect ops = true) (hf : Region.free md ops listed i = true) (hr : (Region.ready md ops listed).contains i = true) (hc : canY md ops listed i y = true) (hiy : (i == y) = false)
    (hQ : ∀ c v a w, Q (.panic c) (a.put o.dst v) w → Q (.panic c) a w) (hw : Region.wanted o (yielded ops a.tmps) = true) (ty : TypeId) (x : Operand) (hl : o.op = .load ty x) (ad : Addr) (hx : a.eval x = .pointer (some ad)) (d : TypeDesc) (hu : P.underlying ty = some d) (hd : d.isRow = false) (v : Value)
    (hSc : ∀ w, S w → w.cell? ad = some v) (hS : S w)
    (h : wpAnyY n P md ops Q S y fuel (listed.setIfInBounds i true) (a.put o.dst v) w) : wpAnyY n P md ops Q S y (fuel + 1) listed a w :=
  y_take hi hs hf hr hc hiy (fun c a w => hQ c _ a w) (.inl ⟨hw, fun w h => run_load1 ty x hl ad hx d hu hd (hSc w h)⟩) hS h
/-- A load of many cells. -/
theorem y_loads {i : Nat} {o : Oper} (hi : ops[i]? = some o) (hs : Region.noSelect ops = true) (hf : Region.free md ops listed i = true) (hr : (Region.ready md ops listed).contains i = true) (hc : canY md ops listed i y = true) (hiy : (i == y) = false)
    (hQ : ∀ c v a w, Q (.panic c) (a.put o.dst v) w → Q (.panic c) a w) (hw : Region.wanted o (yielded ops a.tmps) = true) (ty : TypeId) (x : Operand) (hl : o.op = .load ty x) (b off : Nat) (hx : a.eval x = .pointer (some ⟨b, off, none⟩)) (cs : List Value) (d : TypeDesc)
    (hSc : ∀ w, S w → w.rangeAt b off cs) (hu : P.underlying ty = some d) (hd : d.isRow = true) (hz : (P.info? ty).map (·.size) = some cs.length) (hS : S w)
    (h : wpAnyY n P md ops Q S y fuel (listed.setIfInBounds i true) (a.put o.dst (.agg cs.toArray)) w) : wpAnyY n P md ops Q S y (fuel + 1) listed a w :=
  y_take hi hs hf hr hc hiy (fun c a w => hQ c _ a w) (yieldsIf_load_mid hw ty x hl b off hx cs d hSc hu hd hz) hS h
/-- A call, the only one that may come up. -/
theorem y_call {i : Nat} {o : Oper} (hr : Region.ready md ops listed = [i]) (hiy : (i == y) = false) (ho : ops[i]? = some o) (hw : Region.wanted o (yielded ops a.tmps) = true) (f : FuncId) (xs : Array Operand) (ts : Array TypeId)
    (hc0 : o.op = .call { callee := .value (.func f), args := xs, argTypes := ts }) (vs : Array Value) (hx : xs.map a.eval = vs) (hcf : (callFunc f vs).run P w = .ok (.enter f vs) w) (R : Ending → World → Prop) (hc : Calls P f vs w R)
    (hK : ∀ e w', R e w' → ∃ v, e = .returned v ∧ S w' ∧ wpAnyY n P md ops Q S y fuel (listed.setIfInBounds i true) (a.put o.dst v) w') :
    wpAnyY n P md ops Q S y (fuel + 1) listed a w := by
  have hne : i ≠ y := by simpa using hiy
  refine ⟨fun h => (by rw [hr] at h; cases h), fun j hj => ?_⟩
  rw [hr, List.mem_singleton] at hj
  subst hj
  simp only [if_neg hne]
  unfold wpOpIn
  simp only [ho]
  rw [if_pos hw]
  have hrun : (execOp a.eval o).run P w = .ok (.enter f vs) w := by
    have hf : a.eval (.func f) = .func (.func f) #[] #[] := rfl
    simp [execOp, hc0, resolve, invoke, hx, hf, Deferred.ofValue, hcf]
  unfold Oper.wpIn
  refine ⟨fun f _ => trivial, ?_⟩
  rw [show Fence.wide.round = none from rfl, Oper.semAt_none, hrun]
  refine ⟨fun h => (by cases h), callsIn_wide.2 (hc.mono fun e w' h => ?_)⟩
  obtain ⟨v, rfl, q⟩ := hK e w' h
  exact q
theorem y_call3 {i : Nat} {o : Oper} (hr : Region.ready md ops listed = [i]) (hiy : (i == y) = false) (ho : ops[i]? = some o) (hw : Region.wanted o (yielded ops a.tmps) = true) (f : FuncId) (x1 x2 x3 : Operand) (t1 t2 t3 : TypeId)
    (hc0 : o.op = .call { callee := .value (.func f), args := #[x1, x2, x3], argTypes := #[t1, t2, t3] }) (v1 v2 v3 : Value) (h1 : a.eval x1 = v1) (h2 : a.eval x2 = v2) (h3 : a.eval x3 = v3) (hcf : (callFunc f #[v1, v2, v3]).run P w = .ok (.enter f #[v1, v2, v3]) w) (R : Ending → World → Prop) (hc : Calls P f #[v1, v2, v3] w R)
    (hK : ∀ e w', R e w' → ∃ v, e = .returned v ∧ S w' ∧ wpAnyY n P md ops Q S y fuel (listed.setIfInBounds i true) (a.put o.dst v) w') :
    wpAnyY n P md ops Q S y (fuel + 1) listed a w := y_call hr hiy ho hw f #[x1, x2, x3] #[t1, t2, t3] hc0 #[v1, v2, v3] (by simp [h1, h2, h3]) hcf R hc hK
/-- What is handed out. -/
theorem y_yield {m l : Nat} {o : Oper} (hr : Region.ready md ops listed = [y]) (ho : ops[y]? = some o) (hw : Region.wanted o (yielded ops a.tmps) = true) (x : Operand) (xs : Array Operand) (ts : Array TypeId)
    (hc0 : o.op = .call { callee := .value x, args := xs, argTypes := ts }) (hxf : a.eval x = .func (.yield l) #[] #[]) (vs : Array Value) (hx : xs.map a.eval = vs) (R : Ending → World → Prop) (hY : YieldAt Fence.wide m P l vs w R)
    (hK : ∀ e w', R e w' → ∃ v, e = .returned v ∧ wpAnyIn Fence.wide n P md ops Q fuel (listed.setIfInBounds y true) (a.put o.dst v) w') :
    wpAnyY n P md ops Q S y (fuel + 1) listed a w := by
  refine ⟨fun h => (by rw [hr] at h; cases h), fun j hj => ?_⟩
  rw [hr, List.mem_singleton] at hj
  subst hj
  simp only [if_true]
  unfold wpOpIn
  simp only [ho]
  rw [if_pos hw]
  obtain ⟨fn, tmps, assign, body, hrun0, hR⟩ := hY
  have hrun : (execOp a.eval o).run P w = .ok (.round l fn tmps assign body) w := by
    simp [execOp, hc0, resolve, invoke, hx, hxf, Deferred.ofValue, hrun0]
  unfold Oper.wpIn
  refine ⟨fun f _ => trivial, ?_⟩
  rw [show Fence.wide.round = none from rfl, Oper.semAt_none, hrun]
  refine ⟨fun h => (by cases h), ?_⟩
  have hR2 : RoundIn Fence.wide (n - 1) P l fn tmps assign body w R := ⟨hR.1, fun c cs _ => hR.2 c cs (fun d q => by cases q)⟩
  refine hR2.mono fun e w' h => ?_
  obtain ⟨v, rfl, q⟩ := hK e w' h
  exact q
theorem y_yield1 {m l : Nat} {o : Oper} (hr : Region.ready md ops listed = [y]) (ho : ops[y]? = some o) (hw : Region.wanted o (yielded ops a.tmps) = true) (x x1 : Operand) (t1 : TypeId)
    (hc0 : o.op = .call { callee := .value x, args := #[x1], argTypes := #[t1] }) (hxf : a.eval x = .func (.yield l) #[] #[]) (v1 : Value) (h1 : a.eval x1 = v1) (R : Ending → World → Prop) (hY : YieldAt Fence.wide m P l #[v1] w R)
    (hK : ∀ e w', R e w' → ∃ v, e = .returned v ∧ wpAnyIn Fence.wide n P md ops Q fuel (listed.setIfInBounds y true) (a.put o.dst v) w') :
    wpAnyY n P md ops Q S y (fuel + 1) listed a w := y_yield hr ho hw x #[x1] #[t1] hc0 hxf #[v1] (by simp [h1]) R hY hK
theorem y_done (hr : Region.ready md ops listed = []) (h : Q .normal a w) : ∀ fuel, wpAnyY n P md ops Q S y fuel listed a w
  | 0 => ⟨hr, h⟩
  | _ + 1 => ⟨fun _ => h, by rw [hr]; simp⟩
/-- It begins. -/
theorem y_region {id : Nat} (S : World → Prop) (y : Nat) (hm : P.follows .mixedOrders = true) (h : wpAnyY n P .any ops Q S y ops.size (Array.replicate ops.size false) a w.drew) : (Code.region id ops true).wpIn Fence.wide n P Q a w :=
  wpIn_region_any hm (any_of_y _ _ _ _ h)
end
end
end Go.Proofs.YtafefnkgdnmjbaaGreatDoor.pg
/- More moves in a region that draws its order, under a condition that is held till one operation. -/
namespace Go.Proofs.YtafefnkgdnmjbaaGreatDoor.pg
open Go.ChangeShapes Go.WideShapes Go.ChangeAt Go.RowKit
set_option linter.unusedVariables false
set_option linter.unusedSimpArgs false
section
variable {P : Program} {ops : Array Oper} {Q : Exit → Act → World → Prop} {md : Region.Mode} {S : World → Prop} {n y : Nat} {fuel : Nat} {listed : Array Bool} {a : Act} {w : World}
theorem op_wide {o : Oper} {K : Act → World → Prop} (h : o.wp P a w K Q) : o.wpIn Fence.wide n P a w K Q := by
  unfold Oper.wp at h
  unfold Oper.wpIn
  refine ⟨fun f _ => trivial, ?_⟩
  rw [show Fence.wide.round = none from rfl, Oper.semAt_none]
  generalize (execOp a.eval o).run P w = r at *
  cases r with
  | ok x w' =>
    cases x <;> simp only [Oper.upon, Oper.uponIn] at h ⊢ <;> first
      | exact h
      | exact ⟨fun q => (by cases q), callsIn_wide.2 h⟩
      | exact ⟨fun q => (by cases q), fun c cs _ => let ⟨v, w', r, s⟩ := h c cs; ⟨v, w', r, stepsIn_wide.2 s⟩⟩
  | halt x w' => cases x <;> simp only [Oper.upon, Oper.uponIn] at h ⊢ <;> exact h
theorem op_of_list {i : Nat} {o : Oper} {K : Act → World → Prop} (ho : ops[i]? = some o) (hw : Region.wanted o (yielded ops a.tmps) = true) (h : wpList P ops (okQ K) [o] a w) : wpOpIn Fence.wide n P ops Q i K a w := by
  unfold wpOpIn
  simp only [ho]
  rw [if_pos hw]
  unfold wpList at h
  rw [if_pos hw] at h
  rcases h with h | h
  · exact op_wide (op_two (fun a' w' q => q) h)
  · exact (okQ_out _ h.2).elim
/-- The only one that may come up, by a law of lists. -/
theorem y_one {i : Nat} {o : Oper} (hr : Region.ready md ops listed = [i]) (hiy : (i == y) = false) (ho : ops[i]? = some o) (hw : Region.wanted o (yielded ops a.tmps) = true)
    (h : wpList P ops (okQ fun a' w' => S w' ∧ wpAnyY n P md ops Q S y fuel (listed.setIfInBounds i true) a' w') [o] a w) : wpAnyY n P md ops Q S y (fuel + 1) listed a w := by
  refine ⟨fun q => (by rw [hr] at q; cases q), fun j hj => ?_⟩
  rw [hr, List.mem_singleton] at hj
  subst hj
  simp only [if_neg (show ¬ j = y by simpa using hiy)]
  exact op_of_list ho hw h
/-- The one till which the condition is held, by a law of lists. -/
theorem y_leave {o : Oper} (hr : Region.ready md ops listed = [y]) (ho : ops[y]? = some o) (hw : Region.wanted o (yielded ops a.tmps) = true)
    (h : wpList P ops (okQ fun a' w' => wpAnyIn Fence.wide n P md ops Q fuel (listed.setIfInBounds y true) a' w') [o] a w) : wpAnyY n P md ops Q S y (fuel + 1) listed a w := by
  refine ⟨fun q => (by rw [hr] at q; cases q), fun j hj => ?_⟩
  rw [hr, List.mem_singleton] at hj
  subst hj
  simp only [if_true]
  exact op_of_list ho hw h
/-- It is passed over. -/
theorem y_pass {o : Oper} (hr : Region.ready md ops listed = [y]) (ho : ops[y]? = some o) (hw : Region.wanted o (yielded ops a.tmps) = false)
    (h : wpAnyIn Fence.wide n P md ops Q fuel (listed.setIfInBounds y true) (a.put o.dst undef) w) : wpAnyY n P md ops Q S y (fuel + 1) listed a w := by
  refine ⟨fun q => (by rw [hr] at q; cases q), fun j hj => ?_⟩
  rw [hr, List.mem_singleton] at hj
  subst hj
  simp only [if_true]
  unfold wpOpIn
  simp only [ho]
  rw [if_neg (by rw [hw]; simp)]
  exact ⟨fun f _ => trivial, h⟩
end
end Go.Proofs.YtafefnkgdnmjbaaGreatDoor.pg
