/- Lists of clocks: what is wrong with them. Join, Meet, Cmp. -/
import Derived.Test.YtafefnkgdnmjbaaGreatDoorM10
import Derived.Test.YtafefnkgdnmjbaaGreatDoorM6
namespace Go.Proofs.YtafefnkgdnmjbaaGreatDoor.pg
open Go.ChangeShapes Go.WideShapes Go.ChangeAt Go.RowKit
set_option linter.unusedVariables false
set_option linter.unusedSimpArgs false
set_option maxRecDepth 100000
attribute [local go_sem ↓] Go.wp_at_zero Go.wp_at_succ
theorem cks_ix {w : World} {a : Option Addr} {cap : Nat} {l : List Ck} (h : Rows w 6 a cap (l.map Ck.cells)) (i : Nat) (x : Ck) (hi : l[i]? = some x) :
    ∃ b o, (∀ wx, (Instr.indexAt 104 (.slice a l.length cap) (.int .i64 (i : Int))).run Tryz.prog wx = .ok (.pointer (some ⟨b, o, none⟩)) wx) ∧ b < w.heap.size ∧ w.cell? ⟨b, o, none⟩ = some (.int .i64 x.c0) ∧ w.cell? ⟨b, o + 1, none⟩ = some (.int .i64 x.c1) ∧ w.cell? ⟨b, o + 2, none⟩ = some (.int .i64 x.c2) ∧ w.cell? ⟨b, o + 3, none⟩ = some (.int .i64 x.c3) ∧ w.cell? ⟨b, o + 4, none⟩ = some (.int .i64 x.c4) ∧ w.cell? ⟨b, o + 5, none⟩ = some (.int .i64 x.c5) := by
  obtain ⟨b, o, hr, hlt, hc⟩ := h.ix 104 114 Tryz.underlying104 (by kernel_rfl) (fun wx => Tryz.sizeOf114 wx) i (row := x.cells) (by simp [hi])
  rw [List.length_map] at hr
  exact ⟨b, o, hr, hlt, hc 0 _ rfl, hc 1 _ rfl, hc 2 _ rfl, hc 3 _ rfl, hc 4 _ rfl, hc 5 _ rfl⟩
/-- What is wrong with a list of clocks. -/
def errL (l : List Ck) (c : Int) : Prop := (256 < l.length ∧ c = 2) ∨ (l.length ≤ 256 ∧ (∃ x ∈ l, ¬ x.ok) ∧ c = 1) ∨ (l.length ≤ 256 ∧ (∀ x ∈ l, x.ok) ∧ c = 0)
theorem take_more {α : Type} {p : α → Prop} {l : List α} {k : Nat} {x : α} (hx : l[k]? = some x) (h : ∀ z ∈ l.take k, p z) (hp : p x) : ∀ z ∈ l.take (k + 1), p z := by
  intro z hz
  rw [List.take_add_one, hx] at hz
  simp only [Option.toList_some, List.mem_append, List.mem_singleton] at hz
  rcases hz with hz | rfl
  · exact h z hz
  · exact hp
set_option maxHeartbeats 1000000 in
theorem checks_any (l : List Ck) (la : Option Addr) (lc : Nat) (w : World) (hl : Rows w 6 la lc (l.map Ck.cells)) (c : Int) (hc : Hid (errL l c)) : Calls Tryz.prog 110 #[.slice la l.length lc] w fun e w' => e = .returned (.int .i64 c) ∧ Below w.heap.size w w' := by
  have hlI := rows_len hl
  have hlH : Hid (Rows w 6 la lc (l.map Ck.cells)) := hl
  clear hl
  by_cases hlong : 256 < l.length
  · have hcc : c = 2 := by rcases hc.out with ⟨_, q⟩ | ⟨q, _⟩ | ⟨q, _⟩ <;> omega
    have hI : (256 : Int) < l.length := by omega
    subst hcc
    go_enter Tryz.func110, Tryz.ntmps110
    go_wp2
    go_ret
    exact ⟨rfl, Below.refl _ _⟩
  · have hI : ¬ (256 : Int) < l.length := by omega
    go_enter Tryz.func110, Tryz.ntmps110
    go_wp2
    go_loopw [11] (fun u wr => ∃ k : Nat, k ≤ l.length ∧ u = .int .i64 k ∧ Below w.heap.size w wr ∧ Hid (∀ x ∈ l.take k, x.ok)) (fun u _ => l.length - (intOf u).toNat)
    case atStart => exact ⟨0, Nat.zero_le _, rfl, Below.refl _ _, fun x hx => by simp at hx⟩
    case round =>
      obtain ⟨k, hk, rfl, hb2, hok⟩ := hrel
      by_cases hlt : k < l.length
      · obtain ⟨x, hx, hxm⟩ := get_lt l k hlt
        obtain ⟨b0, o0, hix, hbl, k0, k1, k2, k3, k4, k5⟩ := cks_ix (hlH.out.later hb2) k x hx
        have hkI : (k : Int) < l.length := by omega
        by_cases e : x.ok
        · have c1 : ∀ wx, Calls Tryz.prog 139 #[x.val] wx _ := fun wx => check_ok x e wx
          have hok2 : Hid (∀ x ∈ l.take (k + 1), x.ok) := take_more hx hok.out e
          clear e hx hxm
          go_wp2_with (go_at_call 139; (with_reducible refine (c1 _).mono ?_); rintro e w1 ⟨rfl, hb1⟩)
          go_roundw
          case rel => exact ⟨k + 1, by omega, by go_num, bthen hb2 (bthen (boxed _ _) hb1), hok2⟩
          case measure => simp [intOf]; omega
        · have c1 : ∀ wx, Calls Tryz.prog 139 #[x.val] wx _ := fun wx => check_bad x e wx
          have hcc : Hid (c = 1) := by
            rcases hc.out with ⟨q, _⟩ | ⟨_, _, q⟩ | ⟨_, q, _⟩
            · omega
            · exact q
            · exact absurd (q x hxm) e
          clear e hx hxm
          go_wp2_with (go_at_call 139; (with_reducible refine (c1 _).mono ?_); rintro e w1 ⟨rfl, hb1⟩)
          go_ret
          exact ⟨by rw [hcc.out]; rfl, bthen hb2 (bthen (boxed _ _) hb1)⟩
      · have hk2 : k = l.length := by omega
        subst hk2
        rw [List.take_length] at hok
        have hcc : Hid (c = 0) := by
          rcases hc.out with ⟨q, _⟩ | ⟨_, ⟨x, hx, q⟩, _⟩ | ⟨_, _, q⟩
          · omega
          · exact absurd (hok.out x hx) q
          · exact q
        go_wp2
        go_ret
        exact ⟨by rw [hcc.out]; rfl, hb2⟩
/-- Two clocks, laid one behind the other. -/
theorem rows_two {w : World} {b : Nat} {x y : Ck} {t : TypeId} (h : w.heap[b]? = some (.cells #[.int .i64 x.c0, .int .i64 x.c1, .int .i64 x.c2, .int .i64 x.c3, .int .i64 x.c4, .int .i64 x.c5, .int .i64 y.c0, .int .i64 y.c1, .int .i64 y.c2, .int .i64 y.c3, .int .i64 y.c4, .int .i64 y.c5] t (0, 0))) : Rows w 6 (some ⟨b, 0, none⟩) 2 ([x, y].map Ck.cells) := by
  refine ⟨by simp, by omega, by simp, .inr ⟨b, 0, rfl, (Array.getElem?_eq_some_iff.mp h).1, fun i row hi => ?_⟩⟩
  match i, hi with
  | 0, hi =>
    simp at hi
    subst hi
    refine ⟨rfl, fun j u hj => ?_⟩
    rw [cell_of_row w b _ _ _ _ h]
    match j, hj with
    | 0, hj => exact hj
    | 1, hj => exact hj
    | 2, hj => exact hj
    | 3, hj => exact hj
    | 4, hj => exact hj
    | 5, hj => exact hj
    | j + 6, hj => simp [Ck.cells] at hj
  | 1, hi =>
    simp at hi
    subst hi
    refine ⟨rfl, fun j u hj => ?_⟩
    rw [cell_of_row w b _ _ _ _ h]
    match j, hj with
    | 0, hj => exact hj
    | 1, hj => exact hj
    | 2, hj => exact hj
    | 3, hj => exact hj
    | 4, hj => exact hj
    | 5, hj => exact hj
    | j + 6, hj => simp [Ck.cells] at hj
  | i + 2, hi => simp at hi
end Go.Proofs.YtafefnkgdnmjbaaGreatDoor.pg
/- Join, Meet, Cmp of package clock. -/
namespace Go.Proofs.YtafefnkgdnmjbaaGreatDoor.pg
open Go.ChangeShapes Go.WideShapes Go.ChangeAt Go.RowKit
set_option linter.unusedVariables false
set_option linter.unusedSimpArgs false
set_option maxRecDepth 100000
attribute [local go_sem ↓] Go.wp_at_zero Go.wp_at_succ
theorem two_ok {x y : Ck} (hx : x.ok) (hy : y.ok) : errL [x, y] 0 := .inr (.inr ⟨by simp, by simp [hx, hy], rfl⟩)
theorem two_bad {x y : Ck} (h : ¬ (x.ok ∧ y.ok)) : errL [x, y] 1 := .inr (.inl ⟨by simp, by
  by_cases hx : x.ok
  · exact ⟨y, by simp, fun q => h ⟨hx, q⟩⟩
  · exact ⟨x, by simp, hx⟩, rfl⟩)
/-- Three boxes, and the list of two clocks behind them. -/
theorem boxes3 (w : World) (x y : Ck) : InB (((w.alloc (objK x)).alloc (objK y)).alloc (objK zeroK)) w.heap.size x ∧ InB (((w.alloc (objK x)).alloc (objK y)).alloc (objK zeroK)) (w.heap.size + 1) y ∧ InB (((w.alloc (objK x)).alloc (objK y)).alloc (objK zeroK)) (w.heap.size + 2) zeroK := by
  refine ⟨(inB_new w x).later (boxed2 _ _ _), ?_, ?_⟩
  · have := (inB_new (w.alloc (objK x)) y).later (boxed _ (objK zeroK))
    rwa [World.size_alloc] at this
  · have := inB_new ((w.alloc (objK x)).alloc (objK y)) zeroK
    rwa [World.size_alloc, World.size_alloc] at this
theorem new4 (w : World) (a b c o : Obj) : ((((w.alloc a).alloc b).alloc c).alloc o).heap[w.heap.size + 3]? = some o := by
  have := heap_alloc_new (((w.alloc a).alloc b).alloc c) o
  rwa [World.size_alloc, World.size_alloc, World.size_alloc] at this
theorem new3 (w : World) (a b o : Obj) : (((w.alloc a).alloc b).alloc o).heap[w.heap.size + 2]? = some o := by
  have := heap_alloc_new ((w.alloc a).alloc b) o
  rwa [World.size_alloc, World.size_alloc] at this
theorem boxes2 (w : World) (x y : Ck) : InB ((w.alloc (objK x)).alloc (objK y)) w.heap.size x ∧ InB ((w.alloc (objK x)).alloc (objK y)) (w.heap.size + 1) y := by
  refine ⟨(inB_new w x).later (boxed _ _), ?_⟩
  have := inB_new (w.alloc (objK x)) y
  rwa [World.size_alloc] at this
set_option maxHeartbeats 1000000 in
theorem join_any (x y : Ck) (hx : x.ok) (hy : y.ok) (w : World) : Calls Tryz.prog 141 #[x.val, y.val] w fun e w' => e = .returned (.tuple #[(x.join y).val, .int .i64 0]) ∧ Below w.heap.size w w' := by
  have c1 : ∀ (b : Nat) wx (t : TypeId), wx.heap[b]? = some (.cells #[.int .i64 x.c0, .int .i64 x.c1, .int .i64 x.c2, .int .i64 x.c3, .int .i64 x.c4, .int .i64 x.c5, .int .i64 y.c0, .int .i64 y.c1, .int .i64 y.c2, .int .i64 y.c3, .int .i64 y.c4, .int .i64 y.c5] t (0, 0)) → Calls Tryz.prog 110 #[.slice (some ⟨b, 0, none⟩) 2 2] wx fun e w' => e = .returned (.int .i64 0) ∧ Below wx.heap.size wx w' := fun b wx t h => checks_any [x, y] _ 2 wx (rows_two h) 0 (two_ok hx hy)
  have c2 : ∀ wx, Calls Tryz.prog 111 #[x.val, y.val] wx _ := fun wx => join_in x y wx
  have bx : Hid _ := boxes3 w x y
  clear hx hy
  go_enter Tryz.func141, Tryz.ntmps141
  go_wp2_with (first
    | (go_at_call 110; (with_reducible refine (c1 _ _ _ (new4 _ _ _ _ _)).mono ?_); rintro e w1 ⟨rfl, hb1⟩; (have hx2 := bx.out.1.later (bthen (boxed _ _) hb1)); (have hy2 := bx.out.2.1.later (bthen (boxed _ _) hb1)); (have hz2 := bx.out.2.2.later (bthen (boxed _ _) hb1)); (have hB1 : Hid (Below w.heap.size w w1) := bthen (boxed3 _ _ _ _) (bthen (boxed _ _) hb1)); clear hb1 c1)
    | (refine wpList_load_row rfl 114 _ rfl w.heap.size rfl _ _ _ _ hx2 Tryz.underlying114 rfl infoK ?_)
    | (refine wpList_load_row rfl 114 _ rfl (w.heap.size + 1) rfl _ _ _ _ hy2 Tryz.underlying114 rfl infoK ?_)
    | (go_at_call 111; (with_reducible refine (c2 _).mono ?_); rintro e w2 ⟨rfl, hb2⟩; (have hz3 := hz2.later hb2); (have hB2 : Hid (Below w.heap.size w w2) := bthen hB1.out hb2))
    | (refine wpList_store_row rfl 114 _ _ rfl (w.heap.size + 2) _ rfl rfl _ _ hz3 infoK rfl (one6 (x.join y)) ?_))
  exact bodyPost_ret (results_ck Tryz.results141 _ _ (w.heap.size + 2) (x.join y) _ rfl rfl (hz3.set (x.join y))) rfl ⟨rfl, below_setRow hB2.out (by omega) _⟩
set_option maxHeartbeats 1000000 in
theorem join_bad (x y : Ck) (hxy : ¬ (x.ok ∧ y.ok)) (w : World) : Calls Tryz.prog 141 #[x.val, y.val] w fun e w' => e = .returned (.tuple #[zeroK.val, .int .i64 1]) ∧ Below w.heap.size w w' := by
  have c1 : ∀ (b : Nat) wx (t : TypeId), wx.heap[b]? = some (.cells #[.int .i64 x.c0, .int .i64 x.c1, .int .i64 x.c2, .int .i64 x.c3, .int .i64 x.c4, .int .i64 x.c5, .int .i64 y.c0, .int .i64 y.c1, .int .i64 y.c2, .int .i64 y.c3, .int .i64 y.c4, .int .i64 y.c5] t (0, 0)) → Calls Tryz.prog 110 #[.slice (some ⟨b, 0, none⟩) 2 2] wx fun e w' => e = .returned (.int .i64 1) ∧ Below wx.heap.size wx w' := fun b wx t h => checks_any [x, y] _ 2 wx (rows_two h) 1 (two_bad hxy)
  have bx : Hid _ := boxes3 w x y
  clear hxy
  go_enter Tryz.func141, Tryz.ntmps141
  go_wp2_with (first
    | (go_at_call 110; (with_reducible refine (c1 _ _ _ (new4 _ _ _ _ _)).mono ?_); rintro e w1 ⟨rfl, hb1⟩; (have hx2 := bx.out.1.later (bthen (boxed _ _) hb1)); (have hy2 := bx.out.2.1.later (bthen (boxed _ _) hb1)); (have hz2 := bx.out.2.2.later (bthen (boxed _ _) hb1)); (have hB1 : Hid (Below w.heap.size w w1) := bthen (boxed3 _ _ _ _) (bthen (boxed _ _) hb1)); clear hb1 c1)
    | (refine wpList_store_row rfl 114 _ _ rfl (w.heap.size + 2) _ rfl rfl _ _ hz2 infoK rfl (one6 zeroK) ?_))
  exact bodyPost_ret (results_ck Tryz.results141 _ _ (w.heap.size + 2) zeroK _ rfl rfl (hz2.set zeroK)) rfl ⟨rfl, below_setRow hB1.out (by omega) _⟩

def Ck.put (x : Ck) (k : Nat) (v : Int) : Ck := match k with
  | 0 => ⟨v, x.c1, x.c2, x.c3, x.c4, x.c5⟩
  | 1 => ⟨x.c0, v, x.c2, x.c3, x.c4, x.c5⟩
  | 2 => ⟨x.c0, x.c1, v, x.c3, x.c4, x.c5⟩
  | 3 => ⟨x.c0, x.c1, x.c2, v, x.c4, x.c5⟩
  | 4 => ⟨x.c0, x.c1, x.c2, x.c3, v, x.c5⟩
  | 5 => ⟨x.c0, x.c1, x.c2, x.c3, x.c4, v⟩
  | _ => x
theorem put_list (x : Ck) (k : Nat) (v : Int) : (x.put k v).list = x.list.set k v := by
  match k with
  | 0 => rfl
  | 1 => rfl
  | 2 => rfl
  | 3 => rfl
  | 4 => rfl
  | 5 => rfl
  | k + 6 => rfl
theorem Ck.ext_list {x y : Ck} (h : x.list = y.list) : x = y := by
  cases x; cases y
  simp only [Ck.list, List.cons.injEq, and_true] at h
  simp [h]
theorem Ck.list_cells (x : Ck) : x.cells = x.list.map fun n => .int .i64 n := rfl
theorem InB.cell {w : World} {B : Nat} {z : Ck} (h : InB w B z) {k : Nat} {n : Int} (hk : z.list[k]? = some n) : w.cell? ⟨B, k, none⟩ = some (.int .i64 n) ∧ w.frozen? ⟨B, k, none⟩ = false := by
  refine ⟨?_, frozen_of_row w B k _ _ h⟩
  rw [cell_of_row w B k _ _ _ h]
  show z.cells.toArray[k]? = _
  rw [Ck.list_cells]
  simp [hk]
theorem InB.put {w : World} {B : Nat} {z : Ck} (h : InB w B z) {k : Nat} (hk : k < 6) (v : Int) : InB (w.setCell ⟨B, k, none⟩ (.int .i64 v)) B (z.put k v) := by
  rw [setCell_eq_setRow w B k _ _ _ _ h]
  refine (setRow_heap w B _ _ _ _ h).trans ?_
  match k, hk with
  | 0, _ => rfl
  | 1, _ => rfl
  | 2, _ => rfl
  | 3, _ => rfl
  | 4, _ => rfl
  | 5, _ => rfl
theorem InB.setCell {w : World} {B B' k : Nat} {z : Ck} (h : InB w B z) (hne : B ≠ B') (v : Value) : InB (w.setCell ⟨B', k, none⟩ v) B z := (heap_setCell_other w _ B v hne).trans h
theorem set_mix {α : Type} {M X : List α} {k : Nat} {v : α} (hl : M.length = X.length) (hk : k < X.length) (hv : M[k]? = some v) : (M.take k ++ X.drop k).set k v = M.take (k + 1) ++ X.drop (k + 1) := by
  have h1 : (M.take k).length = k := by rw [List.length_take]; omega
  rw [List.set_append_right _ _ (by omega), h1, Nat.sub_self, List.take_add_one, hv, List.drop_eq_getElem_cons hk, List.set_cons_zero]
  simp
theorem mix_at {α : Type} {M X : List α} {k : Nat} (hl : M.length = X.length) (hk : k < X.length) : (M.take k ++ X.drop k)[k]? = X[k]? := by
  have h1 : (M.take k).length = k := by rw [List.length_take]; omega
  rw [List.getElem?_append_right (by omega), h1, Nat.sub_self, List.getElem?_drop, Nat.add_zero]
theorem meet_at {x y : Ck} {k : Nat} {m n : Int} (hm : x.list[k]? = some m) (hn : y.list[k]? = some n) : (x.meet y).list[k]? = some (min m n) := by
  match k, hm, hn with
  | 0, hm, hn => simp [Ck.list] at hm hn ⊢; rw [hm, hn]
  | 1, hm, hn => simp [Ck.list] at hm hn ⊢; rw [hm, hn]
  | 2, hm, hn => simp [Ck.list] at hm hn ⊢; rw [hm, hn]
  | 3, hm, hn => simp [Ck.list] at hm hn ⊢; rw [hm, hn]
  | 4, hm, hn => simp [Ck.list] at hm hn ⊢; rw [hm, hn]
  | 5, hm, hn => simp [Ck.list] at hm hn ⊢; rw [hm, hn]
  | k + 6, hm, hn => simp [Ck.list] at hm
theorem join_at {x y : Ck} {k : Nat} {m n : Int} (hm : x.list[k]? = some m) (hn : y.list[k]? = some n) : (x.join y).list[k]? = some (max m n) := by
  match k, hm, hn with
  | 0, hm, hn => simp [Ck.list] at hm hn ⊢; rw [hm, hn]
  | 1, hm, hn => simp [Ck.list] at hm hn ⊢; rw [hm, hn]
  | 2, hm, hn => simp [Ck.list] at hm hn ⊢; rw [hm, hn]
  | 3, hm, hn => simp [Ck.list] at hm hn ⊢; rw [hm, hn]
  | 4, hm, hn => simp [Ck.list] at hm hn ⊢; rw [hm, hn]
  | 5, hm, hn => simp [Ck.list] at hm hn ⊢; rw [hm, hn]
  | k + 6, hm, hn => simp [Ck.list] at hm
/-- How far a loop over a clock has come: its first k numbers are M's, the others X's. -/
structure Mix (w : World) (n B C : Nat) (M X : Ck) (k : Nat) (wr : World) : Prop where
  be : Below n w wr
  zz : ∃ z : Ck, InB wr B z ∧ z.list = M.list.take k ++ X.list.drop k
  rs : InB wr C zeroK
theorem Mix.step {w wr : World} {n B C k : Nat} {M X : Ck} {v : Int} (h : Mix w n B C M X k wr) (hk : k < 6) (hv : M.list[k]? = some v) (hn : n ≤ B) (hC : C ≠ B) : Mix w n B C M X (k + 1) (wr.setCell ⟨B, k, none⟩ (.int .i64 v)) := by
  obtain ⟨z, hz, hl⟩ := h.zz
  refine ⟨h.be.setCell (p := ⟨B, k, none⟩) hn _, ⟨z.put k v, hz.put hk v, ?_⟩, h.rs.setCell hC _⟩
  rw [put_list, hl, set_mix (M := M.list) (X := X.list) rfl hk hv]
theorem Mix.stay {w wr : World} {n B C k : Nat} {M X : Ck} {v : Int} (h : Mix w n B C M X k wr) (hk : k < 6) (hv : M.list[k]? = some v) (hx : X.list[k]? = some v) : Mix w n B C M X (k + 1) wr := by
  obtain ⟨z, hz, hl⟩ := h.zz
  refine ⟨h.be, ⟨z, hz, ?_⟩, h.rs⟩
  rw [← set_mix (M := M.list) (X := X.list) rfl hk hv, hl]
  have := mix_at (M := M.list) (X := X.list) (k := k) rfl hk
  rw [hx] at this
  obtain ⟨hq, hq2⟩ := List.getElem?_eq_some_iff.mp this
  rw [← hq2, List.set_getElem_self]
theorem Mix.cell {w wr : World} {n B C k : Nat} {M X : Ck} {v : Int} (h : Mix w n B C M X k wr) (hk : k < 6) (hx : X.list[k]? = some v) : wr.cell? ⟨B, k, none⟩ = some (.int .i64 v) ∧ wr.frozen? ⟨B, k, none⟩ = false := by
  obtain ⟨z, hz, hl⟩ := h.zz
  exact hz.cell (by rw [hl, mix_at (M := M.list) (X := X.list) rfl hk]; exact hx)
theorem Mix.done {w wr : World} {n B C : Nat} {M X : Ck} (h : Mix w n B C M X 6 wr) : InB wr B M := by
  obtain ⟨z, hz, hl⟩ := h.zz
  have : z = M := Ck.ext_list (by rw [hl, List.take_of_length_le (by rw [Ck.list_len]; omega), List.drop_of_length_le (by rw [Ck.list_len]; omega), List.append_nil])
  rw [← this]; exact hz
theorem Mix.start {w wr : World} {n B C : Nat} {M X : Ck} (hb : Below n w wr) (h : InB wr B X) (hC : InB wr C zeroK) : Mix w n B C M X 0 wr := ⟨hb, ⟨X, h, by simp⟩, hC⟩
end Go.Proofs.YtafefnkgdnmjbaaGreatDoor.pg
/- below and Cmp of package clock; how two clocks stand. -/
namespace Go.Proofs.YtafefnkgdnmjbaaGreatDoor.pg
open Go.ChangeShapes Go.WideShapes Go.ChangeAt Go.RowKit
set_option linter.unusedVariables false
set_option linter.unusedSimpArgs false
set_option maxRecDepth 100000
attribute [local go_sem ↓] Go.wp_at_zero Go.wp_at_succ
/-- Not above. -/
def leK (x y : Ck) : Bool := decide (x.c0 ≤ y.c0) && decide (x.c1 ≤ y.c1) && decide (x.c2 ≤ y.c2) && decide (x.c3 ≤ y.c3) && decide (x.c4 ≤ y.c4) && decide (x.c5 ≤ y.c5)
theorem leK_iff (x y : Ck) : leK x y = true ↔ x.c0 ≤ y.c0 ∧ x.c1 ≤ y.c1 ∧ x.c2 ≤ y.c2 ∧ x.c3 ≤ y.c3 ∧ x.c4 ≤ y.c4 ∧ x.c5 ≤ y.c5 := by
  simp [leK, Bool.and_eq_true, and_assoc]
theorem max_eq_r (a b : Int) : (max a b == b) = decide (a ≤ b) := by
  rw [Bool.eq_iff_iff, beq_iff_eq, decide_eq_true_iff, Int.max_def]
  split <;> omega
theorem join_le (x y : Ck) : eqK (x.join y) y = leK x y := by
  simp only [eqK, leK, max_eq_r]
def belowK (x y : Ck) : Bool := !eqK x y && leK x y
theorem boxK_cls {W : World} {B : Nat} {x : Ck} (h : BoxK W B x) : (∀ s : Cls (Bey W), s.w.cell? ⟨B, 0, none⟩ = some (.int .i64 x.c0)) ∧ (∀ s : Cls (Bey W), s.w.cell? ⟨B, 1, none⟩ = some (.int .i64 x.c1)) ∧ (∀ s : Cls (Bey W), s.w.cell? ⟨B, 2, none⟩ = some (.int .i64 x.c2)) ∧ (∀ s : Cls (Bey W), s.w.cell? ⟨B, 3, none⟩ = some (.int .i64 x.c3)) ∧ (∀ s : Cls (Bey W), s.w.cell? ⟨B, 4, none⟩ = some (.int .i64 x.c4)) ∧ (∀ s : Cls (Bey W), s.w.cell? ⟨B, 5, none⟩ = some (.int .i64 x.c5)) :=
  ⟨fun s => (h.later s.h).1, fun s => (h.later s.h).2.1, fun s => (h.later s.h).2.2.1, fun s => (h.later s.h).2.2.2.1, fun s => (h.later s.h).2.2.2.2.1, fun s => (h.later s.h).2.2.2.2.2⟩
/-- How two clocks stand. -/
def cmpK (x y : Ck) : Int := if eqK x y then 0 else if leK x y then -1 else if leK y x then 1 else 2
theorem eqK_comm (x y : Ck) : eqK x y = eqK y x := by
  rw [Bool.eq_iff_iff, eqK_iff, eqK_iff]; exact eq_comm
theorem cmpK_cases (x y : Ck) : (eqK x y = true ∧ cmpK x y = 0) ∨ (eqK x y = false ∧ leK x y = true ∧ cmpK x y = -1) ∨ (eqK x y = false ∧ leK x y = false ∧ leK y x = true ∧ cmpK x y = 1) ∨ (eqK x y = false ∧ leK x y = false ∧ leK y x = false ∧ cmpK x y = 2) := by
  unfold cmpK
  cases eqK x y <;> cases leK x y <;> cases leK y x <;> simp
/-- Two boxes, and the list of two clocks behind them. -/
theorem check2 (x y : Ck) (c : Int) (hc : errL [x, y] c) (b : Nat) (wx : World) (t : TypeId) (h : wx.heap[b]? = some (.cells #[.int .i64 x.c0, .int .i64 x.c1, .int .i64 x.c2, .int .i64 x.c3, .int .i64 x.c4, .int .i64 x.c5, .int .i64 y.c0, .int .i64 y.c1, .int .i64 y.c2, .int .i64 y.c3, .int .i64 y.c4, .int .i64 y.c5] t (0, 0))) : Calls Tryz.prog 110 #[.slice (some ⟨b, 0, none⟩) 2 2] wx fun e w' => e = .returned (.int .i64 c) ∧ Below wx.heap.size wx w' := checks_any [x, y] _ 2 wx (rows_two h) c hc
end Go.Proofs.YtafefnkgdnmjbaaGreatDoor.pg
