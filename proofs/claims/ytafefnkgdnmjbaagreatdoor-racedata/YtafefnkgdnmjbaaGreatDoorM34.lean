/- What is found, compared and put in order. -/
import Derived.Test.YtafefnkgdnmjbaaGreatDoorM33
import Derived.Maps.OwnOps
import Derived.Maps.OwnSet
import Derived.DeepKeys4
import Derived.MapViews
import Derived.Laws.StructEq
import Derived.Test.YtafefnkgdnmjbaaGreatDoorM26
import Derived.Test.YtafefnkgdnmjbaaGreatDoorM2
import Derived.Test.YtafefnkgdnmjbaaGreatDoorM4
import Derived.Ground.SlsfProg
namespace Go.Proofs.YtafefnkgdnmjbaaGreatDoor.pg
open Go.ChangeShapes Go.WideShapes Go.ChangeAt Go.RowKit
open Go.Maps (Keyed IsMap Tidy)
set_option linter.unusedVariables false
set_option linter.unusedSimpArgs false
set_option maxRecDepth 100000
attribute [local go_sem ↓] Go.wp_at_zero Go.wp_at_succ
def RdbV (n : Nat) (t : TypeId) (cs : List Value) : Prop := ∃ y, DataW.trod (H := Unit) (fun _ => ()) Tryz.prog default 0 (fun _ => true) true n t cs = some y
theorem mapM_exV {α β : Type} (f : α → Option β) : ∀ (l : List α), (∀ x ∈ l, ∃ y, f x = some y) → ∃ ys, l.mapM f = some ys
  | [], _ => ⟨[], rfl⟩
  | x :: l, h => by
    obtain ⟨y, hy⟩ := h x (by simp)
    obtain ⟨ys, hys⟩ := mapM_exV f l fun z hz => h z (by simp [hz])
    exact ⟨y :: ys, by simp [List.mapM_cons, hy, hys]⟩
theorem rdb_intV {t : TypeId} (ht : Tryz.prog.underlying t = some (.int .i64)) (n : Nat) {z : Int} (hz : I64 z) : RdbV (n + 1) t [.int .i64 z] :=
  ⟨_, trod_int_mk n ht (by simp [Lit.wf, IntKind.min, IntKind.max, IntKind.bits, IntKind.signed]; exact hz)⟩
theorem rdb_boolV {t : TypeId} (ht : Tryz.prog.underlying t = some .bool) (n : Nat) (z : Bool) : RdbV (n + 1) t [.bool z] :=
  ⟨(.lit (.bool z), []), by simp [DataW.trod, ht, Lit.wf]⟩
theorem rdb_structV {t : TypeId} {fs : Array Field} {n : Nat} {cs : List Value} (ht : Tryz.prog.underlying t = some (.struct fs)) (hl : cs.length = Tryz.prog.cellsOf t) (h : ∀ f ∈ fs.toList, RdbV n f.type ((cs.drop f.offset).take (Tryz.prog.cellsOf f.type))) : RdbV (n + 1) t cs := by
  obtain ⟨xs, hxs⟩ := mapM_exV (fun f : Field => DataW.trod (H := Unit) (fun _ => ()) Tryz.prog default 0 (fun _ => true) true n f.type ((cs.drop f.offset).take (Tryz.prog.cellsOf f.type))) fs.toList h
  exact ⟨_, trod_struct_mk ht hl hxs⟩
theorem rdb_arrayV {t e : TypeId} {k n m : Nat} {cs : List Value} (ht : Tryz.prog.underlying t = some (.array k e)) (hl : cs.length = Tryz.prog.cellsOf t) (h : ∀ i, i < k → RdbV n e ((cs.drop (i * Tryz.prog.cellsOf e)).take (Tryz.prog.cellsOf e))) : RdbV (n + 1) t cs := by
  obtain ⟨xs, hxs⟩ := mapM_exV (fun i : Nat => DataW.trod (H := Unit) (fun _ => ()) Tryz.prog default 0 (fun _ => true) true n e ((cs.drop (i * Tryz.prog.cellsOf e)).take (Tryz.prog.cellsOf e))) (List.range k) (fun i hi => h i (List.mem_range.mp hi))
  refine ⟨(.agg (xs.map (·.1)), xs.flatMap (·.2)), ?_⟩
  unfold DataW.trod
  rw [ht]
  split <;> simp_all
theorem eq_deepV {t : TypeId} (K : Keyed Tryz.prog t) {a b : Array Value} {la lb : Lit} (ha : keyOf Tryz.prog t (.agg a) = some la) (hb : keyOf Tryz.prog t (.agg b) = some lb) (hk : Tryz.prog.keyTypeAt 6 t = true) (hw : (match Tryz.prog.underlying t with | some (.array _ _) | some (.struct _) => true | _ => false) = true) (R : Bool) (hR : R = true ↔ a = b) (w : World) :
    (Op.equalIn 10000 t (.agg a) (.agg b)).run Tryz.prog w = .ok R w := by
  obtain ⟨r, hr, hiff⟩ := run_equal_deep (P := Tryz.prog) w (m := 6) (by omega) (k := t) hk hw ha hb
  have e : r = R := by
    rw [Bool.eq_iff_iff, hiff, hR]
    constructor
    · intro q
      have := K.inj ha (q ▸ hb)
      simpa using this
    · intro q
      subst q
      rw [ha] at hb
      exact Option.some.inj hb
  rw [e] at hr
  exact hr
def Fd.wf (x : Fd) : Prop := I64 x.k ∧ I64 x.af ∧ I64 x.ap ∧ I64 x.bf ∧ I64 x.bp ∧ I64 x.n ∧ I64 x.y
theorem rdb_sp {f p : Int} (h : I64 f) (h2 : I64 p) (n : Nat) : RdbV (n + 2) 82 [.int .i64 f, .int .i64 p] := by
  refine rdb_structV Tryz.underlying82 (by show 2 = _; kernel_rfl) fun q hq => ?_
  simp only [List.mem_cons, List.not_mem_nil, or_false] at hq
  have c1 : Tryz.prog.cellsOf 3 = 1 := by kernel_rfl
  rcases hq with rfl | rfl
  · simp only [c1]; exact rdb_intV Tryz.underlying3 _ h
  · simp only [c1]; exact rdb_intV Tryz.underlying3 _ h2
theorem rdb_fd {x : Fd} (h : x.wf) (n : Nat) : RdbV (n + 3) 84 x.cells := by
  refine rdb_structV Tryz.underlying84 (by show 7 = _; kernel_rfl) fun f hf => ?_
  simp only [List.mem_cons, List.not_mem_nil, or_false] at hf
  have c1 : Tryz.prog.cellsOf 3 = 1 := by kernel_rfl
  have c2 : Tryz.prog.cellsOf 82 = 2 := by kernel_rfl
  obtain ⟨h0, h1, h2, h3, h4, h5, h6⟩ := h
  rcases hf with rfl | rfl | rfl | rfl | rfl
  · simp only [c1]; exact rdb_intV Tryz.underlying3 _ h0
  · simp only [c2]; exact rdb_sp h1 h2 _
  · simp only [c2]; exact rdb_sp h3 h4 _
  · simp only [c1]; exact rdb_intV Tryz.underlying3 _ h5
  · simp only [c1]; exact rdb_intV Tryz.underlying3 _ h6
theorem lawFd : Keyed Tryz.prog 84 := Keyed.of_law (deep_law_laid (by kernel_rfl) (m := 6) (by omega) (of_decide_eq_true (by kernel_rfl)) (by kernel_rfl) (by rw [Tryz.underlying84]))
theorem key_fd {x : Fd} (h : x.wf) : ∃ l, keyOf Tryz.prog 84 (.agg x.cells.toArray) = some l := by
  obtain ⟨⟨d, p⟩, hy⟩ := rdb_fd h 0
  exact ⟨_, (keyOf_asKey (by kernel_rfl) (by rw [Tryz.underlying84]) (by simp only [Value.formed, Tryz.underlying84, List.size_toArray]; kernel_rfl) ⟨_, hy⟩).1⟩
theorem Fd.inj {x y : Fd} (h : x.cells = y.cells) : x = y := by
  obtain ⟨a0, a1, a2, a3, a4, a5, a6⟩ := x
  obtain ⟨b0, b1, b2, b3, b4, b5, b6⟩ := y
  simp only [Fd.cells, List.cons.injEq, Value.int.injEq, true_and, and_true] at h
  simp only [Fd.mk.injEq]
  exact h
theorem eq_fd {x y : Fd} (hx : x.wf) (hy : y.wf) (R : Bool) (hR : R = true ↔ x = y) (w : World) : (binOp .eql 84 x.val y.val).run Tryz.prog w = .ok (.bool R) w := by
  obtain ⟨la, ha⟩ := key_fd hx
  obtain ⟨lb, hb⟩ := key_fd hy
  have := eq_deepV lawFd ha hb (by kernel_rfl) (by rw [Tryz.underlying84]) R (hR.trans ⟨fun q => by rw [q], fun q => Fd.inj (by simpa using q)⟩) w
  show (binOp .eql 84 (.agg x.cells.toArray) (.agg y.cells.toArray)).run Tryz.prog w = _
  rw [run_eql_struct, this]; rfl
theorem ne_fd {x y : Fd} (hx : x.wf) (hy : y.wf) (R : Bool) (hR : R = true ↔ ¬ x = y) (w : World) : (binOp .neq 84 x.val y.val).run Tryz.prog w = .ok (.bool R) w := by
  obtain ⟨la, ha⟩ := key_fd hx
  obtain ⟨lb, hb⟩ := key_fd hy
  have := eq_deepV lawFd ha hb (by kernel_rfl) (by rw [Tryz.underlying84]) (!R) ((show ((!R) = true ↔ x = y) by cases R <;> simp at hR ⊢ <;> exact hR).trans ⟨fun q => by rw [q], fun q => Fd.inj (by simpa using q)⟩) w
  show (binOp .neq 84 (.agg x.cells.toArray) (.agg y.cells.toArray)).run Tryz.prog w = _
  rw [run_neq_struct, this]; cases R <;> rfl
section
variable {H : Type} {enc : TypeId × Value → H} {w : World} {base : Nat} {spare : Nat → Bool} {held : Bool}
theorem part_inV {P : Program} {t : TypeId} {fs : Array Field} {fuel : Nat} {cs : List Value} {x : DataW H × List MemPlace} (ht : P.underlying t = some (.struct fs)) (h : DataW.trod enc P w base spare held fuel t cs = some x)
    (i : Nat) (f : Field) (hi : fs[i]? = some f) : ∃ y n, DataW.trod enc P w base spare held n f.type ((cs.drop f.offset).take (P.cellsOf f.type)) = some y := by
  obtain ⟨xs, n, _, _, _, hlen, hf⟩ := DataW.trod_struct ht h
  have h1 := hf i f hi
  have hlt : i < xs.length := by rw [hlen]; exact (Array.getElem?_eq_some_iff.mp hi).1
  rw [List.getElem?_eq_getElem hlt] at h1
  exact ⟨_, n, h1⟩
theorem sp_in {n : Nat} {c d : Value} {y : DataW H × List MemPlace} (h : DataW.trod enc Tryz.prog w base spare held n 82 [c, d] = some y) : ∃ f p : Int, c = .int .i64 f ∧ d = .int .i64 p ∧ I64 f ∧ I64 p := by
  obtain ⟨v0, _, _, e0, t0⟩ := field_in Tryz.underlying82 h 0 _ rfl rfl (by kernel_rfl) (by simp)
  obtain ⟨z0, rfl, b0⟩ := int_in Tryz.underlying3 t0
  obtain rfl : c = .int .i64 z0 := by simpa using e0
  obtain ⟨v1, _, _, e1, t1⟩ := field_in Tryz.underlying82 h 1 _ rfl rfl (by kernel_rfl) (by simp)
  obtain ⟨z1, rfl, b1⟩ := int_in Tryz.underlying3 t1
  obtain rfl : d = .int .i64 z1 := by simpa using e1
  exact ⟨z0, z1, rfl, rfl, b0, b1⟩
theorem fd_arg {n : Nat} {cs : List Value} {y : DataW H × List MemPlace} (h : DataW.trod enc Tryz.prog w base spare held n 84 cs = some y) : ∃ x : Fd, Value.agg cs.toArray = x.val ∧ x.wf := by
  have hl : cs.length = 7 := by
    obtain ⟨xs, n, _, _, hl, _⟩ := DataW.trod_struct Tryz.underlying84 h
    rw [hl]
    kernel_rfl
  match cs, hl, h with
  | [c0, c1, c2, c3, c4, c5, c6], _, h =>
    have hc2 : Tryz.prog.cellsOf 82 = 2 := by kernel_rfl
    obtain ⟨v0, _, _, e0, t0⟩ := field_in Tryz.underlying84 h 0 _ rfl rfl (by kernel_rfl) (by simp)
    obtain ⟨z0, rfl, b0⟩ := int_in Tryz.underlying3 t0
    obtain rfl : c0 = .int .i64 z0 := by simpa using e0
    obtain ⟨ya, na, ha⟩ := part_inV Tryz.underlying84 h 1 _ rfl
    change DataW.trod enc Tryz.prog w base spare held na 82 (List.take (Tryz.prog.cellsOf 82) (List.drop 1 _)) = some ya at ha
    rw [hc2] at ha
    simp only [List.drop_succ_cons, List.drop_zero, List.take_succ_cons, List.take_zero] at ha
    obtain ⟨z1, z2, rfl, rfl, b1, b2⟩ := sp_in ha
    obtain ⟨yb, nb, hb⟩ := part_inV Tryz.underlying84 h 2 _ rfl
    change DataW.trod enc Tryz.prog w base spare held nb 82 (List.take (Tryz.prog.cellsOf 82) (List.drop 3 _)) = some yb at hb
    rw [hc2] at hb
    simp only [List.drop_succ_cons, List.drop_zero, List.take_succ_cons, List.take_zero] at hb
    obtain ⟨z3, z4, rfl, rfl, b3, b4⟩ := sp_in hb
    have hc1 : Tryz.prog.cellsOf 3 = 1 := by kernel_rfl
    obtain ⟨y5, n5, h5⟩ := part_inV Tryz.underlying84 h 3 _ rfl
    change DataW.trod enc Tryz.prog w base spare held n5 3 (List.take (Tryz.prog.cellsOf 3) (List.drop 5 _)) = some y5 at h5
    rw [hc1] at h5
    simp only [List.drop_succ_cons, List.drop_zero, List.take_succ_cons, List.take_zero] at h5
    obtain ⟨z5, rfl, b5⟩ := int_in Tryz.underlying3 h5
    obtain ⟨y6, n6, h6⟩ := part_inV Tryz.underlying84 h 4 _ rfl
    change DataW.trod enc Tryz.prog w base spare held n6 3 (List.take (Tryz.prog.cellsOf 3) (List.drop 6 _)) = some y6 at h6
    rw [hc1] at h6
    simp only [List.drop_succ_cons, List.drop_zero, List.take_succ_cons, List.take_zero] at h6
    obtain ⟨z6, rfl, b6⟩ := int_in Tryz.underlying3 h6
    exact ⟨⟨z0, z1, z2, z3, z4, z5, z6⟩, rfl, b0, b1, b2, b3, b4, b5, b6⟩
end
/-- A comparison that turns about, and goes from one to the next. -/
structure GoodV {α : Type} (f : α → α → Int) : Prop where
  turn : ∀ a b, f b a = - f a b
  tr : ∀ a b c, f a b ≤ 0 → f b c ≤ 0 → f a c ≤ 0
theorem GoodV.or {α : Type} {f g : α → α → Int} (h : GoodV f) (k : GoodV g) : GoodV fun a b => orV (f a b) (g a b) where
  turn a b := by
    have h1 := h.turn a b
    have k1 := k.turn a b
    unfold orV
    split <;> split <;> omega
  tr a b c := by
    have h1 := h.tr a b c
    have h2 := h.tr b c a
    have h3 := h.tr c a b
    have t1 := h.turn a b
    have t2 := h.turn b c
    have t3 := h.turn a c
    have k1 := k.tr a b c
    simp only [orV]
    generalize f a b = x at *
    generalize f b c = y at *
    generalize f a c = z at *
    generalize f b a = x' at *
    generalize f c b = y' at *
    generalize f c a = z' at *
    split <;> split <;> split <;> omega
theorem GoodV.on {α : Type} (p : α → Int) : GoodV fun a b => cmpV (p a) (p b) where
  turn a b := by simp only [cmpV]; split <;> split <;> (try split) <;> omega
  tr a b c := by
    simp only [cmpV]
    intro h1 h2
    have q1 : p a ≤ p b := by by_cases q : p b < p a; · rw [if_neg (by omega), if_pos q] at h1; omega
                              omega
    have q2 : p b ≤ p c := by by_cases q : p c < p b; · rw [if_neg (by omega), if_pos q] at h2; omega
                              omega
    by_cases q : p a < p c
    · rw [if_pos q]; omega
    · rw [if_neg q, if_neg (by omega)]; omega
theorem goodF : GoodV cmpF := (GoodV.on Fd.k).or ((GoodV.on Fd.n).or (((GoodV.on Fd.af).or (GoodV.on Fd.ap)).or (((GoodV.on Fd.bf).or (GoodV.on Fd.bp)).or (GoodV.on Fd.y))))
theorem orV_zero {x y : Int} : orV x y = 0 ↔ x = 0 ∧ y = 0 := by unfold orV; split <;> omega
theorem cmpV_zero {x y : Int} : cmpV x y = 0 ↔ x = y := by unfold cmpV; split <;> (try split) <;> omega
theorem cmpF_zero {a b : Fd} : cmpF a b = 0 ↔ a = b := by
  obtain ⟨a0, a1, a2, a3, a4, a5, a6⟩ := a
  obtain ⟨b0, b1, b2, b3, b4, b5, b6⟩ := b
  simp only [cmpF, orV_zero, cmpV_zero, Fd.mk.injEq]
  constructor
  · rintro ⟨h0, h5, ⟨h1, h2⟩, ⟨h3, h4⟩, h6⟩; exact ⟨h0, h1, h2, h3, h4, h5, h6⟩
  · rintro ⟨h0, h1, h2, h3, h4, h5, h6⟩; exact ⟨h0, h5, ⟨h1, h2⟩, ⟨h3, h4⟩, h6⟩
def smallV (x : Int) : Prop := x = -1 ∨ x = 0 ∨ x = 1
theorem cmpV_small (x y : Int) : smallV (cmpV x y) := by unfold cmpV smallV; split <;> (try split) <;> omega
theorem orV_small {x y : Int} (h : smallV x) (k : smallV y) : smallV (orV x y) := by unfold orV; split <;> assumption
theorem cmpF_small (a b : Fd) : smallV (cmpF a b) := orV_small (cmpV_small _ _) (orV_small (cmpV_small _ _) (orV_small (orV_small (cmpV_small _ _) (cmpV_small _ _)) (orV_small (orV_small (cmpV_small _ _) (cmpV_small _ _)) (cmpV_small _ _))))
theorem cells7 {w : World} {B : Nat} {a : Fd} (h : w.heap[B]? = some (objFd a)) : w.cell? ⟨B, 0, none⟩ = some (.int .i64 a.k) ∧ w.cell? ⟨B, 1, none⟩ = some (.int .i64 a.af) ∧ w.cell? ⟨B, 2, none⟩ = some (.int .i64 a.ap) ∧ w.cell? ⟨B, 3, none⟩ = some (.int .i64 a.bf) ∧ w.cell? ⟨B, 4, none⟩ = some (.int .i64 a.bp) ∧ w.cell? ⟨B, 5, none⟩ = some (.int .i64 a.n) ∧ w.cell? ⟨B, 6, none⟩ = some (.int .i64 a.y) := ⟨cell_ofV h rfl, cell_ofV h rfl, cell_ofV h rfl, cell_ofV h rfl, cell_ofV h rfl, cell_ofV h rfl, cell_ofV h rfl⟩
theorem three0 (w : World) (o1 o2 o3 : Obj) : (((w.alloc o1).alloc o2).alloc o3).heap[w.heap.size]? = some o1 ∧ (((w.alloc o1).alloc o2).alloc o3).heap[w.heap.size + 1]? = some o2 ∧ (((w.alloc o1).alloc o2).alloc o3).heap[w.heap.size + 1 + 1]? = some o3 ∧ Gw w (((w.alloc o1).alloc o2).alloc o3) := by
  have h2 := heap_alloc_new (w.alloc o1) o2
  have h3 := heap_alloc_new ((w.alloc o1).alloc o2) o3
  rw [World.size_alloc] at h2 h3
  rw [World.size_alloc] at h3
  exact ⟨((Gw.al _ _).trans (Gw.al _ _)).blk (heap_alloc_new w o1), (Gw.al _ _).blk h2, h3, ((Gw.al _ _).trans (Gw.al _ _)).trans (Gw.al _ _)⟩
end Go.Proofs.YtafefnkgdnmjbaaGreatDoor.pg
/- Package race: places and what is found, compared and put together. -/
namespace Go.Proofs.YtafefnkgdnmjbaaGreatDoor.pg
open Go.ChangeShapes Go.WideShapes Go.ChangeAt Go.RowKit
set_option linter.unusedVariables false
set_option linter.unusedSimpArgs false
set_option maxRecDepth 100000
attribute [local go_sem ↓] Go.wp_at_zero Go.wp_at_succ
set_option maxHeartbeats 1000000 in
theorem or3_any (c0 c1 c2 : Int) (g : Nat) (w : World) (h0 : w.cell? ⟨g, 0, none⟩ = some (.int .i64 c0)) (h1 : w.cell? ⟨g, 1, none⟩ = some (.int .i64 c1)) (h2 : w.cell? ⟨g, 2, none⟩ = some (.int .i64 c2)) (R : Int) (hR : Hid (R = (orV c0 (orV c1 c2)))) : Calls Tryz.prog 51 #[.slice (some ⟨g, 0, none⟩) 3 3] w fun e w' => e = .returned (.int .i64 R) ∧ w' = w := by
  go_enter Tryz.func51, Tryz.ntmps51
  go_wp2
  go_loopw [8] (fun u wr => (u = .int .i64 0 ∨ u = .int .i64 1 ∧ c0 = 0 ∨ u = .int .i64 2 ∧ c0 = 0 ∧ c1 = 0 ∨ u = .int .i64 3 ∧ c0 = 0 ∧ c1 = 0 ∧ c2 = 0) ∧ wr = w) (fun u _ => 3 - (intOf u).toNat)
  case atStart => exact ⟨.inl rfl, rfl⟩
  case round =>
    obtain ⟨hr, rfl⟩ := hrel
    rcases hr with rfl | ⟨rfl, rfl⟩ | ⟨rfl, rfl, rfl⟩ | ⟨rfl, rfl, rfl, rfl⟩
    · by_cases hc : c0 = 0
      · subst hc
        go_wp2
        go_roundw
        case rel => exact ⟨.inr (.inl ⟨rfl, by simp⟩), by first | rfl | trivial⟩
        case measure => simp [intOf]
      · have hb : (c0 == 0) = false := by simpa using hc
        have hH : Hid (R = c0) := by show _ = _; rw [hR.out]; simp [orV, hc]
        clear hc hR
        go_wp2
        go_ret
        exact ⟨by rw [hH.out]; rfl, rfl⟩
    · by_cases hc : c1 = 0
      · subst hc
        go_wp2
        go_roundw
        case rel => exact ⟨.inr (.inr (.inl ⟨rfl, by simp⟩)), by first | rfl | trivial⟩
        case measure => simp [intOf]
      · have hb : (c1 == 0) = false := by simpa using hc
        have hH : Hid (R = c1) := by show _ = _; rw [hR.out]; simp [orV, hc]
        clear hc hR
        go_wp2
        go_ret
        exact ⟨by rw [hH.out]; rfl, rfl⟩
    · by_cases hc : c2 = 0
      · subst hc
        go_wp2
        go_roundw
        case rel => exact ⟨.inr (.inr (.inr ⟨rfl, by simp⟩)), by first | rfl | trivial⟩
        case measure => simp [intOf]
      · have hb : (c2 == 0) = false := by simpa using hc
        have hH : Hid (R = c2) := by show _ = _; rw [hR.out]; simp [orV, hc]
        clear hc hR
        go_wp2
        go_ret
        exact ⟨by rw [hH.out]; rfl, rfl⟩
    · have hH : Hid (R = 0) := by show _ = _; rw [hR.out]; simp [orV]
      clear hR
      go_wp2
      go_ret
      exact ⟨by rw [hH.out]; rfl, rfl⟩
set_option maxHeartbeats 1000000 in
theorem spotR_any (f p f2 p2 : Int) (w : World) : Calls Tryz.prog 53 #[spV f p, spV f2 p2] w fun e w' => e = .returned (.int .i64 (orV (cmpV f f2) (cmpV p p2))) ∧ Gw w w' := by
  obtain ⟨iN, hiN, hzN, hsN, hbN⟩ := info_q infoN_V
  have bA : ((w.alloc (objSp f p)).alloc (objSp f2 p2)).heap[w.heap.size]? = some (objSp f p) := (Gw.al _ _).blk (heap_alloc_new w (objSp f p))
  have bB := heap_alloc_new (w.alloc (objSp f p)) (objSp f2 p2)
  rw [World.size_alloc] at bB
  have gW : Gw w ((w.alloc (objSp f p)).alloc (objSp f2 p2)) := (Gw.al _ _).trans (Gw.al _ _)
  go_enter Tryz.func53, Tryz.ntmps53
  go_wp2_with fail
  generalize hWW : (w.alloc (objSp f p)).alloc (objSp f2 p2) = W at *
  have hS : Hid (W.drew.heap[w.heap.size]? = some (objSp f p) ∧ W.drew.heap[w.heap.size + 1]? = some (objSp f2 p2)) := ⟨bA, bB⟩
  have gH : Hid (Gw w W) := gW
  clear bA bB gW hWW
  refine wp_region_noPanic ?_
  refine wp_region_held_drew (S := fun w' => w'.heap[w.heap.size]? = some (objSp f p) ∧ w'.heap[w.heap.size + 1]? = some (objSp f2 p2)) (by kernel_rfl) hS.out (fun _ => ?_)
  refine reg_move (i := 0) rfl (by kernel_rfl) (by kernel_rfl) (by kernel_rfl) (fun _ _ _ _ h => h) rfl (.pointer (some ⟨w.heap.size, 0, none⟩)) (fun _ => rfl) hS.out ?_
  simp only [Act.put, List.getElem_toArray, List.getElem_cons_succ, List.getElem_cons_zero, List.setIfInBounds_toArray, List.set_cons_zero, List.set_cons_succ]
  refine reg_load1 (i := 1) rfl (by kernel_rfl) (by kernel_rfl) (by kernel_rfl) (fun _ _ _ _ h => h) rfl 3 _ rfl ⟨w.heap.size, 0, none⟩ rfl _ Tryz.underlying3 rfl (.int .i64 f) (fun w' h' => cell_ofV h'.1 rfl) hS.out ?_
  simp only [Act.put, List.getElem_toArray, List.getElem_cons_succ, List.getElem_cons_zero, List.setIfInBounds_toArray, List.set_cons_zero, List.set_cons_succ]
  refine reg_move (i := 2) rfl (by kernel_rfl) (by kernel_rfl) (by kernel_rfl) (fun _ _ _ _ h => h) rfl (.pointer (some ⟨(w.heap.size + 1), 0, none⟩)) (fun _ => rfl) hS.out ?_
  simp only [Act.put, List.getElem_toArray, List.getElem_cons_succ, List.getElem_cons_zero, List.setIfInBounds_toArray, List.set_cons_zero, List.set_cons_succ]
  refine reg_load1 (i := 3) rfl (by kernel_rfl) (by kernel_rfl) (by kernel_rfl) (fun _ _ _ _ h => h) rfl 3 _ rfl ⟨(w.heap.size + 1), 0, none⟩ rfl _ Tryz.underlying3 rfl (.int .i64 f2) (fun w' h' => cell_ofV h'.2 rfl) hS.out ?_
  simp only [Act.put, List.getElem_toArray, List.getElem_cons_succ, List.getElem_cons_zero, List.setIfInBounds_toArray, List.set_cons_zero, List.set_cons_succ]
  refine reg_move (i := 5) rfl (by kernel_rfl) (by kernel_rfl) (by kernel_rfl) (fun _ _ _ _ h => h) rfl (.pointer (some ⟨w.heap.size, 1, none⟩)) (fun _ => rfl) hS.out ?_
  simp only [Act.put, List.getElem_toArray, List.getElem_cons_succ, List.getElem_cons_zero, List.setIfInBounds_toArray, List.set_cons_zero, List.set_cons_succ]
  refine reg_load1 (i := 6) rfl (by kernel_rfl) (by kernel_rfl) (by kernel_rfl) (fun _ _ _ _ h => h) rfl 3 _ rfl ⟨w.heap.size, 1, none⟩ rfl _ Tryz.underlying3 rfl (.int .i64 p) (fun w' h' => cell_ofV h'.1 rfl) hS.out ?_
  simp only [Act.put, List.getElem_toArray, List.getElem_cons_succ, List.getElem_cons_zero, List.setIfInBounds_toArray, List.set_cons_zero, List.set_cons_succ]
  refine reg_move (i := 7) rfl (by kernel_rfl) (by kernel_rfl) (by kernel_rfl) (fun _ _ _ _ h => h) rfl (.pointer (some ⟨(w.heap.size + 1), 1, none⟩)) (fun _ => rfl) hS.out ?_
  simp only [Act.put, List.getElem_toArray, List.getElem_cons_succ, List.getElem_cons_zero, List.setIfInBounds_toArray, List.set_cons_zero, List.set_cons_succ]
  refine reg_load1 (i := 8) rfl (by kernel_rfl) (by kernel_rfl) (by kernel_rfl) (fun _ _ _ _ h => h) rfl 3 _ rfl ⟨(w.heap.size + 1), 1, none⟩ rfl _ Tryz.underlying3 rfl (.int .i64 p2) (fun w' h' => cell_ofV h'.2 rfl) hS.out ?_
  simp only [Act.put, List.getElem_toArray, List.getElem_cons_succ, List.getElem_cons_zero, List.setIfInBounds_toArray, List.set_cons_zero, List.set_cons_succ]
  refine reg_call2 (i := 4) (by kernel_rfl) rfl rfl 52 _ _ _ _ rfl (.int .i64 f) (.int .i64 f2) rfl rfl (cf_fn Tryz.func52 (by kernel_rfl) (by kernel_rfl) _ _) _ (cmpV_any f f2 _) ?_
  rintro e w1 ⟨rfl, rfl⟩
  refine ⟨_, rfl, hS.out, fun _ => ?_⟩
  simp only [Act.put, List.getElem_toArray, List.getElem_cons_succ, List.getElem_cons_zero, List.setIfInBounds_toArray, List.set_cons_zero, List.set_cons_succ]
  refine reg_call2 (i := 9) (by kernel_rfl) rfl rfl 52 _ _ _ _ rfl (.int .i64 p) (.int .i64 p2) rfl rfl (cf_fn Tryz.func52 (by kernel_rfl) (by kernel_rfl) _ _) _ (cmpV_any p p2 _) ?_
  rintro e w1 ⟨rfl, rfl⟩
  refine ⟨_, rfl, hS.out, fun _ => ?_⟩
  simp only [Act.put, List.getElem_toArray, List.getElem_cons_succ, List.getElem_cons_zero, List.setIfInBounds_toArray, List.set_cons_zero, List.set_cons_succ]
  refine reg_one (i := 10) (by kernel_rfl) rfl rfl ?_
  refine wpList_buildSlice rfl 33 3 2 _ rfl #[.int .i64 (cmpV f f2), .int .i64 (cmpV p p2)] iN _ Tryz.underlying33 hiN hzN (by rw [hsN]; omega) (by rw [hsN]; omega) (by simp only [hsN]; kernel_rfl) (wpList_nil (And.intro ⟨(Gw.al _ _).blk hS.out.1, (Gw.al _ _).blk hS.out.2⟩ fun _ => ?_))
  simp only [Act.put, List.getElem_toArray, List.getElem_cons_succ, List.getElem_cons_zero, List.setIfInBounds_toArray, List.set_cons_zero, List.set_cons_succ]
  refine reg_call1 (i := 11) (by kernel_rfl) rfl rfl 51 _ _ rfl (.slice (some ⟨W.drew.heap.size, 0, none⟩) 2 2) rfl (cf_fn Tryz.func51 (by kernel_rfl) (by kernel_rfl) _ _) _ (or2_any (cmpV f f2) (cmpV p p2) _ _ (World.cell?_alloc_at _ _ _ _ rfl) (World.cell?_alloc_at _ _ _ _ rfl) _ rfl) ?_
  rintro e w1 ⟨rfl, rfl⟩
  refine ⟨_, rfl, ⟨(Gw.al _ _).blk hS.out.1, (Gw.al _ _).blk hS.out.2⟩, fun _ => ?_⟩
  simp only [Act.put, List.getElem_toArray, List.getElem_cons_succ, List.getElem_cons_zero, List.setIfInBounds_toArray, List.set_cons_zero, List.set_cons_succ]
  refine reg_move (i := 12) rfl (by kernel_rfl) (by kernel_rfl) (by kernel_rfl) (fun _ _ _ _ h => h) rfl _ (fun _ => rfl) ⟨(Gw.al _ _).blk hS.out.1, (Gw.al _ _).blk hS.out.2⟩ ?_
  simp only [Act.put, List.getElem_toArray, List.getElem_cons_succ, List.getElem_cons_zero, List.setIfInBounds_toArray, List.set_cons_zero, List.set_cons_succ]
  refine wpAnyH_done (by kernel_rfl) (NoPanic.normal ?_) _
  go_wp2
  go_ret
  exact ⟨rfl, gH.out.trans ((Gw.dr _).trans (Gw.al _ _))⟩
/-- The order of races: by variable, then by both places. -/
def cmp3 (a b : Fd) : Int := orV (cmpV a.n b.n) (orV (orV (cmpV a.af b.af) (cmpV a.ap b.ap)) (orV (cmpV a.bf b.bf) (cmpV a.bp b.bp)))
theorem good3 : GoodV cmp3 := (GoodV.on Fd.n).or (((GoodV.on Fd.af).or (GoodV.on Fd.ap)).or ((GoodV.on Fd.bf).or (GoodV.on Fd.bp)))
set_option maxHeartbeats 2000000 in
theorem cmp3_any (a b : Fd) (w : World) : Calls Tryz.prog 50 #[a.val, b.val] w fun e w' => e = .returned (.int .i64 (cmp3 a b)) ∧ Gw w w' := by
  obtain ⟨iN, hiN, hzN, hsN, hbN⟩ := info_q infoN_V
  have bA : ((w.alloc (objFd a)).alloc (objFd b)).heap[w.heap.size]? = some (objFd a) := (Gw.al _ _).blk (heap_alloc_new w (objFd a))
  have bB := heap_alloc_new (w.alloc (objFd a)) (objFd b)
  rw [World.size_alloc] at bB
  have gW : Gw w ((w.alloc (objFd a)).alloc (objFd b)) := (Gw.al _ _).trans (Gw.al _ _)
  go_enter Tryz.func50, Tryz.ntmps50
  go_wp2_with fail
  generalize hWW : (w.alloc (objFd a)).alloc (objFd b) = W at *
  have hS : Hid (W.drew.heap[w.heap.size]? = some (objFd a) ∧ W.drew.heap[w.heap.size + 1]? = some (objFd b)) := ⟨bA, bB⟩
  have gH : Hid (Gw w W.drew) := gW.trans (Gw.dr _)
  clear bA bB gW hWW
  refine wp_region_noPanic ?_
  refine wp_region_held_drew (S := fun w' => w'.heap[w.heap.size]? = some (objFd a) ∧ w'.heap[w.heap.size + 1]? = some (objFd b)) (by kernel_rfl) hS.out (fun _ => ?_)
  refine reg_move (i := 0) rfl (by kernel_rfl) (by kernel_rfl) (by kernel_rfl) (fun _ _ _ _ h => h) rfl (.pointer (some ⟨w.heap.size, 5, none⟩)) (fun _ => by kernel_rfl) hS.out ?_
  simp only [Act.put, List.getElem_toArray, List.getElem_cons_succ, List.getElem_cons_zero, List.setIfInBounds_toArray, List.set_cons_zero, List.set_cons_succ]
  refine reg_load1 (i := 1) rfl (by kernel_rfl) (by kernel_rfl) (by kernel_rfl) (fun _ _ _ _ h => h) rfl 3 _ rfl ⟨w.heap.size, 5, none⟩ rfl _ Tryz.underlying3 rfl (.int .i64 a.n) (fun w' h' => cell_ofV h'.1 rfl) hS.out ?_
  simp only [Act.put, List.getElem_toArray, List.getElem_cons_succ, List.getElem_cons_zero, List.setIfInBounds_toArray, List.set_cons_zero, List.set_cons_succ]
  refine reg_move (i := 2) rfl (by kernel_rfl) (by kernel_rfl) (by kernel_rfl) (fun _ _ _ _ h => h) rfl (.pointer (some ⟨(w.heap.size + 1), 5, none⟩)) (fun _ => by kernel_rfl) hS.out ?_
  simp only [Act.put, List.getElem_toArray, List.getElem_cons_succ, List.getElem_cons_zero, List.setIfInBounds_toArray, List.set_cons_zero, List.set_cons_succ]
  refine reg_load1 (i := 3) rfl (by kernel_rfl) (by kernel_rfl) (by kernel_rfl) (fun _ _ _ _ h => h) rfl 3 _ rfl ⟨(w.heap.size + 1), 5, none⟩ rfl _ Tryz.underlying3 rfl (.int .i64 b.n) (fun w' h' => cell_ofV h'.2 rfl) hS.out ?_
  simp only [Act.put, List.getElem_toArray, List.getElem_cons_succ, List.getElem_cons_zero, List.setIfInBounds_toArray, List.set_cons_zero, List.set_cons_succ]
  refine reg_move (i := 5) rfl (by kernel_rfl) (by kernel_rfl) (by kernel_rfl) (fun _ _ _ _ h => h) rfl (.pointer (some ⟨w.heap.size, 1, none⟩)) (fun _ => by kernel_rfl) hS.out ?_
  simp only [Act.put, List.getElem_toArray, List.getElem_cons_succ, List.getElem_cons_zero, List.setIfInBounds_toArray, List.set_cons_zero, List.set_cons_succ]
  refine reg_load (i := 6) rfl (by kernel_rfl) (by kernel_rfl) (by kernel_rfl) (fun _ _ _ _ h => h) rfl 82 _ rfl w.heap.size 1 rfl [.int .i64 a.af, .int .i64 a.ap] _ (fun w' h' => range_ofV h'.1 fun j v hv => by match j, hv with | 0, hv => exact hv | 1, hv => exact hv) Tryz.underlying82 rfl infoSp hS.out ?_
  simp only [Act.put, List.getElem_toArray, List.getElem_cons_succ, List.getElem_cons_zero, List.setIfInBounds_toArray, List.set_cons_zero, List.set_cons_succ]
  refine reg_move (i := 7) rfl (by kernel_rfl) (by kernel_rfl) (by kernel_rfl) (fun _ _ _ _ h => h) rfl (.pointer (some ⟨(w.heap.size + 1), 1, none⟩)) (fun _ => by kernel_rfl) hS.out ?_
  simp only [Act.put, List.getElem_toArray, List.getElem_cons_succ, List.getElem_cons_zero, List.setIfInBounds_toArray, List.set_cons_zero, List.set_cons_succ]
  refine reg_load (i := 8) rfl (by kernel_rfl) (by kernel_rfl) (by kernel_rfl) (fun _ _ _ _ h => h) rfl 82 _ rfl (w.heap.size + 1) 1 rfl [.int .i64 b.af, .int .i64 b.ap] _ (fun w' h' => range_ofV h'.2 fun j v hv => by match j, hv with | 0, hv => exact hv | 1, hv => exact hv) Tryz.underlying82 rfl infoSp hS.out ?_
  simp only [Act.put, List.getElem_toArray, List.getElem_cons_succ, List.getElem_cons_zero, List.setIfInBounds_toArray, List.set_cons_zero, List.set_cons_succ]
  refine reg_move (i := 10) rfl (by kernel_rfl) (by kernel_rfl) (by kernel_rfl) (fun _ _ _ _ h => h) rfl (.pointer (some ⟨w.heap.size, 3, none⟩)) (fun _ => by kernel_rfl) hS.out ?_
  simp only [Act.put, List.getElem_toArray, List.getElem_cons_succ, List.getElem_cons_zero, List.setIfInBounds_toArray, List.set_cons_zero, List.set_cons_succ]
  refine reg_load (i := 11) rfl (by kernel_rfl) (by kernel_rfl) (by kernel_rfl) (fun _ _ _ _ h => h) rfl 82 _ rfl w.heap.size 3 rfl [.int .i64 a.bf, .int .i64 a.bp] _ (fun w' h' => range_ofV h'.1 fun j v hv => by match j, hv with | 0, hv => exact hv | 1, hv => exact hv) Tryz.underlying82 rfl infoSp hS.out ?_
  simp only [Act.put, List.getElem_toArray, List.getElem_cons_succ, List.getElem_cons_zero, List.setIfInBounds_toArray, List.set_cons_zero, List.set_cons_succ]
  refine reg_move (i := 12) rfl (by kernel_rfl) (by kernel_rfl) (by kernel_rfl) (fun _ _ _ _ h => h) rfl (.pointer (some ⟨(w.heap.size + 1), 3, none⟩)) (fun _ => by kernel_rfl) hS.out ?_
  simp only [Act.put, List.getElem_toArray, List.getElem_cons_succ, List.getElem_cons_zero, List.setIfInBounds_toArray, List.set_cons_zero, List.set_cons_succ]
  refine reg_load (i := 13) rfl (by kernel_rfl) (by kernel_rfl) (by kernel_rfl) (fun _ _ _ _ h => h) rfl 82 _ rfl (w.heap.size + 1) 3 rfl [.int .i64 b.bf, .int .i64 b.bp] _ (fun w' h' => range_ofV h'.2 fun j v hv => by match j, hv with | 0, hv => exact hv | 1, hv => exact hv) Tryz.underlying82 rfl infoSp hS.out ?_
  simp only [Act.put, List.getElem_toArray, List.getElem_cons_succ, List.getElem_cons_zero, List.setIfInBounds_toArray, List.set_cons_zero, List.set_cons_succ]
  refine reg_call2 (i := 4) (by kernel_rfl) rfl rfl 52 _ _ _ _ rfl (.int .i64 a.n) (.int .i64 b.n) rfl rfl (cf_fn Tryz.func52 (by kernel_rfl) (by kernel_rfl) _ _) _ (cmpV_any a.n b.n _) ?_
  rintro e w0 ⟨rfl, rfl⟩
  refine ⟨_, rfl, hS.out, fun _ => ?_⟩
  simp only [Act.put, List.getElem_toArray, List.getElem_cons_succ, List.getElem_cons_zero, List.setIfInBounds_toArray, List.set_cons_zero, List.set_cons_succ]
  refine reg_call2 (i := 9) (by kernel_rfl) rfl rfl 53 _ _ _ _ rfl (spV a.af a.ap) (spV b.af b.ap) rfl rfl (cf_fn Tryz.func53 (by kernel_rfl) (by kernel_rfl) _ _) _ (spotR_any a.af a.ap b.af b.ap _) ?_
  rintro e w1 ⟨rfl, g1⟩
  refine ⟨_, rfl, ⟨g1.blk hS.out.1, g1.blk hS.out.2⟩, fun _ => ?_⟩
  simp only [Act.put, List.getElem_toArray, List.getElem_cons_succ, List.getElem_cons_zero, List.setIfInBounds_toArray, List.set_cons_zero, List.set_cons_succ]
  have hS1 : Hid (w1.heap[w.heap.size]? = some (objFd a) ∧ w1.heap[w.heap.size + 1]? = some (objFd b)) := ⟨g1.blk hS.out.1, g1.blk hS.out.2⟩
  have gH1 : Hid (Gw w w1) := gH.out.trans g1
  refine reg_call2 (i := 14) (by kernel_rfl) rfl rfl 53 _ _ _ _ rfl (spV a.bf a.bp) (spV b.bf b.bp) rfl rfl (cf_fn Tryz.func53 (by kernel_rfl) (by kernel_rfl) _ _) _ (spotR_any a.bf a.bp b.bf b.bp _) ?_
  rintro e w2 ⟨rfl, g2⟩
  refine ⟨_, rfl, ⟨g2.blk hS1.out.1, g2.blk hS1.out.2⟩, fun _ => ?_⟩
  simp only [Act.put, List.getElem_toArray, List.getElem_cons_succ, List.getElem_cons_zero, List.setIfInBounds_toArray, List.set_cons_zero, List.set_cons_succ]
  have hS2 : Hid (w2.heap[w.heap.size]? = some (objFd a) ∧ w2.heap[w.heap.size + 1]? = some (objFd b)) := ⟨g2.blk hS1.out.1, g2.blk hS1.out.2⟩
  have gH2 : Hid (Gw w w2) := gH1.out.trans g2
  refine reg_one (i := 15) (by kernel_rfl) rfl rfl ?_
  refine wpList_buildSlice rfl 33 3 3 _ rfl #[.int .i64 (cmpV a.n b.n), .int .i64 (orV (cmpV a.af b.af) (cmpV a.ap b.ap)), .int .i64 (orV (cmpV a.bf b.bf) (cmpV a.bp b.bp))] iN _ Tryz.underlying33 hiN hzN (by rw [hsN]; omega) (by rw [hsN]; omega) (by simp only [hsN]; kernel_rfl) (wpList_nil (And.intro ⟨(Gw.al _ _).blk hS2.out.1, (Gw.al _ _).blk hS2.out.2⟩ fun _ => ?_))
  simp only [Act.put, List.getElem_toArray, List.getElem_cons_succ, List.getElem_cons_zero, List.setIfInBounds_toArray, List.set_cons_zero, List.set_cons_succ]
  refine reg_call1 (i := 16) (by kernel_rfl) rfl rfl 51 _ _ rfl (.slice (some ⟨w2.heap.size, 0, none⟩) 3 3) rfl (cf_fn Tryz.func51 (by kernel_rfl) (by kernel_rfl) _ _) _ (or3_any (cmpV a.n b.n) (orV (cmpV a.af b.af) (cmpV a.ap b.ap)) (orV (cmpV a.bf b.bf) (cmpV a.bp b.bp)) _ _ (World.cell?_alloc_at _ _ _ _ rfl) (World.cell?_alloc_at _ _ _ _ rfl) (World.cell?_alloc_at _ _ _ _ rfl) _ rfl) ?_
  rintro e w9 ⟨rfl, rfl⟩
  refine ⟨_, rfl, ⟨(Gw.al _ _).blk hS2.out.1, (Gw.al _ _).blk hS2.out.2⟩, fun _ => ?_⟩
  simp only [Act.put, List.getElem_toArray, List.getElem_cons_succ, List.getElem_cons_zero, List.setIfInBounds_toArray, List.set_cons_zero, List.set_cons_succ]
  refine reg_move (i := 17) rfl (by kernel_rfl) (by kernel_rfl) (by kernel_rfl) (fun _ _ _ _ h => h) rfl _ (fun _ => rfl) ⟨(Gw.al _ _).blk hS2.out.1, (Gw.al _ _).blk hS2.out.2⟩ ?_
  simp only [Act.put, List.getElem_toArray, List.getElem_cons_succ, List.getElem_cons_zero, List.setIfInBounds_toArray, List.set_cons_zero, List.set_cons_succ]
  refine wpAnyH_done (by kernel_rfl) (NoPanic.normal ?_) _
  go_wp2
  go_ret
  exact ⟨rfl, gH2.out.trans (Gw.al _ _)⟩
set_option maxHeartbeats 1000000 in
theorem place_any3 (x : Ev) (w : World) : Calls Tryz.prog 48 #[.agg x.cells.toArray] w fun e w' => e = .returned (spV x.fn x.pc) ∧ Below w.heap.size w w' := by
  have hx : ∀ W, W = (w.alloc (objEv x)).alloc (.cells #[.int .i64 0, .int .i64 0] 82) → W.cell? ⟨w.heap.size, 1, none⟩ = some (.int .i64 x.fn) ∧ W.cell? ⟨w.heap.size, 2, none⟩ = some (.int .i64 x.pc) := fun W e => by
    have h0 := box_of (heap_alloc_new w (objEv x))
    have h1 := h0.later (boxed (w.alloc (objEv x)) (.cells #[.int .i64 0, .int .i64 0] 82))
    rw [e]
    exact ⟨h1.at 1 _ rfl, h1.at 2 _ rfl⟩
  obtain ⟨h1, h2⟩ := hx _ rfl
  have hb := bthen (boxed w (objEv x)) (boxed (w.alloc (objEv x)) (.cells #[.int .i64 x.fn, .int .i64 x.pc] 82))
  clear hx
  go_enter Tryz.func48, Tryz.ntmps48
  go_wp2
  have hn := heap_alloc_new (w.alloc (objEv x)) (.cells #[.int .i64 x.fn, .int .i64 x.pc] 82)
  rw [World.size_alloc] at hn
  exact bodyPost_ret (results_cell_row Tryz.results48 _ _ (w.heap.size + 1) 82 _ (0, 0) _ rfl hn Tryz.underlying82 rfl infoSp) rfl ⟨rfl, hb⟩
end Go.Proofs.YtafefnkgdnmjbaaGreatDoor.pg
/- Package race: places and what is found, compared and put together. -/
namespace Go.Proofs.YtafefnkgdnmjbaaGreatDoor.pg
open Go.ChangeShapes Go.WideShapes Go.ChangeAt Go.RowKit
set_option linter.unusedVariables false
set_option linter.unusedSimpArgs false
set_option maxRecDepth 100000
attribute [local go_sem ↓] Go.wp_at_zero Go.wp_at_succ
/-- A race of two places upon a variable. -/
def fdR (f p f2 p2 n : Int) : Fd := if 0 < orV (cmpV f f2) (cmpV p p2) then ⟨5, f2, p2, f, p, n, 0⟩ else ⟨5, f, p, f2, p2, n, 0⟩
abbrev objZ7 : Obj := .cells #[.int .i64 0, .int .i64 0, .int .i64 0, .int .i64 0, .int .i64 0, .int .i64 0, .int .i64 0] 84
set_option maxHeartbeats 4000000 in
theorem found_any (f p f2 p2 n : Int) (w : World) : Calls Tryz.prog 47 #[spV f p, spV f2 p2, .int .i64 n] w fun e w' => e = .returned (fdR f p f2 p2 n).val ∧ Below w.heap.size w w' := by
  obtain ⟨ha, hb, hc, hg'⟩ := three0 w (objSp f p) (objSp f2 p2) objZ7
  have hg : Hid (Gw w (((w.alloc (objSp f p)).alloc (objSp f2 p2)).alloc objZ7)) := hg'
  have cC : ∀ wx, Calls Tryz.prog 53 #[spV f p, spV f2 p2] wx fun e w' => e = .returned (.int .i64 (orV (cmpV f f2) (cmpV p p2))) ∧ Gw wx w' := fun wx => spotR_any f p f2 p2 wx
  have hR : Hid (fdR f p f2 p2 n = if 0 < orV (cmpV f f2) (cmpV p p2) then ⟨5, f2, p2, f, p, n, 0⟩ else ⟨5, f, p, f2, p2, n, 0⟩) := rfl
  have hbl : Hid (((((w.alloc (objSp f p)).alloc (objSp f2 p2)).alloc objZ7).heap[w.heap.size]? = some (objSp f p)) ∧ ((((w.alloc (objSp f p)).alloc (objSp f2 p2)).alloc objZ7).heap[w.heap.size + 1]? = some (objSp f2 p2)) ∧ ((((w.alloc (objSp f p)).alloc (objSp f2 p2)).alloc objZ7).heap[w.heap.size + 1 + 1]? = some objZ7)) := ⟨ha, hb, hc⟩
  have huF : Hid (Tryz.prog.underlying 84 = _) := Tryz.underlying84
  clear hg' ha hb hc
  generalize orV (cmpV f f2) (cmpV p p2) = r at *
  by_cases h0 : 0 < r
  · have h1 : decide (0 < r) = true := by simpa using h0
    have hRR : Hid (fdR f p f2 p2 n = ⟨5, f2, p2, f, p, n, 0⟩) := by show _ = _; rw [hR.out, if_pos h0]
    clear hR h0
    go_enter Tryz.func47, Tryz.ntmps47
    go_wp2_with (first
      | (go_at_call 53; (with_reducible refine (cC _).mono ?_); rintro e w1 ⟨rfl, g1⟩; (have ka := g1.blk hbl.out.1); (have kb := g1.blk hbl.out.2.1); (have kc : Hid _ := g1.blk hbl.out.2.2); (have a0 := cell_ofV (k := 0) ka rfl); (have a1 := cell_ofV (k := 1) ka rfl); (have b0 := cell_ofV (k := 0) kb rfl); (have b1 := cell_ofV (k := 1) kb rfl); (have kaH : Hid _ := ka); (have kbH : Hid _ := kb); (have gH : Hid (Below w.heap.size w w1) := (hg.out.trans g1).below); clear ka kb g1)
      | (refine wpList_store_row rfl 82 _ _ rfl w.heap.size #[.int .i64 f2, .int .i64 p2] rfl rfl _ _ kaH.out infoSp rfl (by simp [Value.oneCell']) ?_; (obtain ⟨W2, hW2⟩ : ∃ W2, W2 = w1.setRow w.heap.size #[.int .i64 f2, .int .i64 p2] := ⟨_, rfl⟩); rw [← hW2]; (have ka2 : Hid (W2.heap[w.heap.size]? = some (objSp f2 p2) ∧ W2.heap[w.heap.size + 1]? = some (objSp f2 p2) ∧ W2.heap[w.heap.size + 1 + 1]? = some objZ7 ∧ Below w.heap.size w W2) := by (rw [hW2]; exact ⟨setRow_heap _ _ _ _ _ _ kaH.out, (setRow_other _ _ _ _ (by omega)).trans kbH.out, (setRow_other _ _ _ _ (by omega)).trans kc.out, below_setRow gH.out (Nat.le_refl _) _⟩)); clear hW2 a0 a1 b0 b1)
      | (refine wpList_store_row rfl 82 _ _ rfl (w.heap.size + 1) #[.int .i64 f, .int .i64 p] rfl rfl _ _ ka2.out.2.1 infoSp rfl (by simp [Value.oneCell']) ?_; (obtain ⟨W3, hW3⟩ : ∃ W3, W3 = W2.setRow (w.heap.size + 1) #[.int .i64 f, .int .i64 p] := ⟨_, rfl⟩); rw [← hW3]; (have ka3 : Hid (W3.heap[w.heap.size]? = some (objSp f2 p2) ∧ W3.heap[w.heap.size + 1]? = some (objSp f p) ∧ W3.heap[w.heap.size + 1 + 1]? = some objZ7 ∧ Below w.heap.size w W3) := by (rw [hW3]; exact ⟨(setRow_other _ _ _ _ (by omega)).trans ka2.out.1, setRow_heap _ _ _ _ _ _ ka2.out.2.1, (setRow_other _ _ _ _ (by omega)).trans ka2.out.2.2.1, below_setRow ka2.out.2.2.2 (by omega) _⟩)); (have a0 := cell_ofV (k := 0) ka3.out.1 rfl); (have a1 := cell_ofV (k := 1) ka3.out.1 rfl); (have b0 := cell_ofV (k := 0) ka3.out.2.1 rfl); (have b1 := cell_ofV (k := 1) ka3.out.2.1 rfl); clear hW3)
      | (refine wpList_store_row rfl 84 _ _ rfl (w.heap.size + 1 + 1) #[.int .i64 5, .int .i64 f2, .int .i64 p2, .int .i64 f, .int .i64 p, .int .i64 n, .int .i64 0] rfl rfl _ _ ka3.out.2.2.1 infoFd rfl (by simp [Value.oneCell']) ?_))
    exact bodyPost_ret (results_cell_row Tryz.results47 _ _ (w.heap.size + 1 + 1) 84 _ (0, 0) _ rfl (setRow_heap W3 (w.heap.size + 1 + 1) _ #[.int .i64 5, .int .i64 f2, .int .i64 p2, .int .i64 f, .int .i64 p, .int .i64 n, .int .i64 0] _ _ ka3.out.2.2.1) huF.out rfl infoFd) rfl ⟨by rw [hRR.out], below_setRow ka3.out.2.2.2 (by omega) _⟩
  · have h1 : decide (0 < r) = false := by simpa using h0
    have hRR : Hid (fdR f p f2 p2 n = ⟨5, f, p, f2, p2, n, 0⟩) := by show _ = _; rw [hR.out, if_neg h0]
    clear hR h0
    go_enter Tryz.func47, Tryz.ntmps47
    go_wp2_with (first
      | (go_at_call 53; (with_reducible refine (cC _).mono ?_); rintro e w1 ⟨rfl, g1⟩; (have ka := g1.blk hbl.out.1); (have kb := g1.blk hbl.out.2.1); (have kc : Hid _ := g1.blk hbl.out.2.2); (have a0 := cell_ofV (k := 0) ka rfl); (have a1 := cell_ofV (k := 1) ka rfl); (have b0 := cell_ofV (k := 0) kb rfl); (have b1 := cell_ofV (k := 1) kb rfl); (have gH : Hid (Below w.heap.size w w1) := (hg.out.trans g1).below); clear ka kb g1)
      | (refine wpList_store_row rfl 84 _ _ rfl (w.heap.size + 1 + 1) #[.int .i64 5, .int .i64 f, .int .i64 p, .int .i64 f2, .int .i64 p2, .int .i64 n, .int .i64 0] rfl rfl _ _ kc.out infoFd rfl (by simp [Value.oneCell']) ?_))
    exact bodyPost_ret (results_cell_row Tryz.results47 _ _ (w.heap.size + 1 + 1) 84 _ (0, 0) _ rfl (setRow_heap w1 (w.heap.size + 1 + 1) _ #[.int .i64 5, .int .i64 f, .int .i64 p, .int .i64 f2, .int .i64 p2, .int .i64 n, .int .i64 0] _ _ kc.out) huF.out rfl infoFd) rfl ⟨by rw [hRR.out], below_setRow gH.out (by omega) _⟩
end Go.Proofs.YtafefnkgdnmjbaaGreatDoor.pg
