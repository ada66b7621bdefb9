/- StateDistincts, walked. -/
import Derived.Test.YtmlkcaocgklilaaSd2
import Derived.Deep.DeepCutAuto
namespace Go.Proofs.Ytmlkcaocgklilaa.pg
open Go.ChangeShapes Go.WideShapes Go.ChangeAt Go.RowKit
set_option linter.unusedVariables false
set_option linter.unusedSimpArgs false
set_option maxRecDepth 100000
attribute [local go_sem ↓] Go.wp_at_zero Go.wp_at_succ
set_option maxHeartbeats 1000000 in
theorem sameInts_q (l : List Int) (a b : Option Addr) (ca cb : Nat) (w : World) (ha : Rows w 1 a ca (l.map chCells)) (hb : Rows w 1 b cb (l.map chCells)) :
    Calls Try.prog 8 #[.slice a l.length ca, .slice b l.length cb] w fun e w' => e = .returned (.bool true) ∧ Below w.heap.size w w' := by
  have hlI : (l.length : Int) ≤ 9223372036854775807 := rows_len ha
  go_enter Try.func8, Try.ntmps8
  go_wp2_with fail
  go_loopw [13] (fun u wr => ∃ k : Nat, k ≤ l.length ∧ u = .int .i64 k ∧ Below w.heap.size w wr) (fun u _ => l.length - (intOf u).toNat)
  case atStart => exact ⟨0, Nat.zero_le _, rfl, Below.refl _ _⟩
  case round =>
    obtain ⟨k, hk, rfl, hbe⟩ := hrel
    by_cases hlt : k < l.length
    · obtain ⟨y, hy, hym⟩ := get_lt l k hlt
      obtain ⟨b1, o1, hix1, hbl1, c1⟩ := ch_ix (ha.later hbe) k y hy
      obtain ⟨b2, o2, hix2, hbl2, c2⟩ := ch_ix (hb.later hbe) k y hy
      have hkI : (k : Int) < l.length := by omega
      go_wp2_with fail
      go_quiet (fail)
      go_wp2
      go_roundw
      case rel => exact ⟨k + 1, by omega, by go_num, below_drewN hbe _⟩
      case measure => simp [intOf]; omega
    · have hk2 : k = l.length := by omega
      subst hk2
      go_wp2
      go_ret
      exact ⟨rfl, hbe⟩
def zs : List Value := [.int .i64 0, .int .i64 0, .int .i64 0, .int .i64 0, .int .i64 0, .int .i64 0, .int .i64 0, .int .i64 0, .int .i64 0, .int .i64 0, .int .i64 0, .int .i64 0, .int .i64 0, .int .i64 0, .int .i64 0, .int .i64 0, .int .i64 0, .bool false, .int .i64 0, .int .i64 0, .int .i64 0, .int .i64 0, .int .i64 0, .int .i64 0, .int .i64 0, .int .i64 0, .bool false, .int .i64 0, .int .i64 0, .int .i64 0, .int .i64 0, .int .i64 0, .int .i64 0, .int .i64 0, .int .i64 0, .bool false, .int .i64 0, .int .i64 0, .int .i64 0, .int .i64 0, .int .i64 0, .int .i64 0, .int .i64 0, .int .i64 0, .bool false, .int .i64 0, .int .i64 0, .int .i64 0, .int .i64 0, .int .i64 0, .int .i64 0, .int .i64 0, .int .i64 0, .int .i64 0, .int .i64 0, .int .i64 0, .int .i64 0, .int .i64 0, .int .i64 0, .int .i64 0, .int .i64 0, .int .i64 0, .int .i64 0, .int .i64 0, .int .i64 0, .int .i64 0, .int .i64 0, .int .i64 0, .int .i64 0, .int .i64 0, .int .i64 0, .int .i64 0, .int .i64 0, .int .i64 0, .int .i64 0, .int .i64 0, .int .i64 0, .int .i64 0, .int .i64 0, .int .i64 0, .int .i64 0, .int .i64 0, .int .i64 0, .int .i64 0, .int .i64 0, .int .i64 0, .int .i64 0, .int .i64 0, .int .i64 0, .int .i64 0, .int .i64 0, .int .i64 0, .int .i64 0, .int .i64 0, .int .i64 0, .int .i64 0, .int .i64 0, .int .i64 0, .int .i64 0, .int .i64 0, .int .i64 0, .int .i64 0, .int .i64 0, .int .i64 0, .int .i64 0, .int .i64 0, .int .i64 0, .int .i64 0, .int .i64 0, .int .i64 0, .int .i64 0, .int .i64 0, .int .i64 0, .int .i64 0, .int .i64 0, .int .i64 0, .int .i64 0, .int .i64 0, .int .i64 0, .int .i64 0, .int .i64 0]
def os1 : List Value := [.int .i64 0, .int .i64 0, .int .i64 0, .int .i64 0, .int .i64 0, .int .i64 0, .int .i64 0, .int .i64 0, .int .i64 0, .int .i64 0, .int .i64 0, .int .i64 0, .int .i64 0, .int .i64 0, .int .i64 0, .int .i64 0, .int .i64 0, .bool false, .int .i64 0, .int .i64 0, .int .i64 0, .int .i64 0, .int .i64 0, .int .i64 0, .int .i64 0, .int .i64 0, .bool false, .int .i64 0, .int .i64 0, .int .i64 0, .int .i64 0, .int .i64 0, .int .i64 0, .int .i64 0, .int .i64 0, .bool false, .int .i64 0, .int .i64 0, .int .i64 0, .int .i64 0, .int .i64 0, .int .i64 0, .int .i64 0, .int .i64 0, .bool false, .int .i64 0, .int .i64 0, .int .i64 0, .int .i64 0, .int .i64 0, .int .i64 0, .int .i64 0, .int .i64 0, .int .i64 0, .int .i64 0, .int .i64 0, .int .i64 0, .int .i64 0, .int .i64 0, .int .i64 0, .int .i64 0, .int .i64 0, .int .i64 0, .int .i64 0, .int .i64 0, .int .i64 0, .int .i64 0, .int .i64 0, .int .i64 0, .int .i64 0, .int .i64 0, .int .i64 0, .int .i64 0, .int .i64 0, .int .i64 0, .int .i64 0, .int .i64 0, .int .i64 0, .int .i64 0, .int .i64 0, .int .i64 0, .int .i64 0, .int .i64 0, .int .i64 0, .int .i64 0, .int .i64 0, .int .i64 0, .int .i64 0, .int .i64 0, .int .i64 0, .int .i64 0, .int .i64 0, .int .i64 0, .int .i64 0, .int .i64 0, .int .i64 0, .int .i64 0, .int .i64 0, .int .i64 0, .int .i64 0, .int .i64 0, .int .i64 0, .int .i64 0, .int .i64 0, .int .i64 0, .int .i64 0, .int .i64 0, .int .i64 0, .int .i64 0, .int .i64 0, .int .i64 0, .int .i64 0, .int .i64 0, .int .i64 0, .int .i64 0, .int .i64 0, .int .i64 0, .int .i64 0, .int .i64 0, .int .i64 0, .int .i64 1]
theorem sta_of (cs : List Value) (hl : cs.length = 121) (h : (keyOf Try.prog 36 (.agg cs.toArray)).isSome = true) : ∃ x : Sta, x.cs = cs := by
  obtain ⟨k, hk⟩ := Option.isSome_iff_exists.mp h
  exact ⟨⟨cs, hl, k, hk⟩, rfl⟩
theorem z_ex : ∃ x : Sta, x.cs = zs := sta_of zs rfl (by kernel_rfl)
theorem o_ex : ∃ x : Sta, x.cs = os1 := sta_of os1 rfl (by kernel_rfl)
theorem run_b0 (w : World) : (Instr.build 36 #[]).run Try.prog w = .ok (.agg zs.toArray) w := by kernel_rfl
theorem run_b1 (w : World) : (Instr.build 36 #[(4, .int .i64 1)]).run Try.prog w = .ok (.agg os1.toArray) w := by kernel_rfl
theorem run_bs (w : World) : (Instr.buildSlice 22 3 #[(0, .agg zs.toArray), (1, .agg os1.toArray), (2, .agg zs.toArray)]).run Try.prog w = .ok (.slice (some ⟨w.heap.size, 0, none⟩) 3 3) (w.alloc (.cells (zs ++ (os1 ++ zs)).toArray 36)) := by kernel_rfl
theorem rows_bs (w : World) (z o : Sta) (hz : z.cs = zs) (ho : o.cs = os1) : Rows (w.alloc (.cells (zs ++ (os1 ++ zs)).toArray 36)) 121 (some ⟨w.heap.size, 0, none⟩) 3 ([z, o, z].map Sta.cs) := by
  have hr : ∀ row ∈ [z, o, z].map Sta.cs, row.length = 121 := by
    intro r hr
    obtain ⟨x, _, rfl⟩ := List.mem_map.mp hr
    exact x.len
  refine ⟨by simp, by omega, by simp, .inr ⟨w.heap.size, 0, rfl, by simp, fun i row hi => ⟨hr row (List.mem_of_getElem? hi), fun j u hj => ?_⟩⟩⟩
  have hrl := hr row (List.mem_of_getElem? hi)
  have hj2 : j < 121 := by have := (List.getElem?_eq_some_iff.mp hj).1; omega
  have h1 := flatten_at _ hr i row hi j hj2
  rw [Nat.zero_add]
  refine (World.cell?_alloc_at _ _ _ _ rfl).trans ?_
  rw [hj] at h1
  rw [← h1]
  simp [hz, ho]
/-- An operation whose run is known. -/
theorem wpList_known {P : Program} {ops : Array Oper} {rest : List Oper} {op : Oper} {a : Act} {w w1 : World} {Q : Exit → Act → World → Prop} {v : Value} (hw : Region.wanted op (yielded ops a.tmps) = true) (hr : (execOp a.eval op).run P w = .ok (.value v) w1) (h : wpList P ops Q rest (a.put op.dst v) w1) : wpList P ops Q (op :: rest) a w :=
  BigFrame.wpList_want hw fun _ hK => by
    unfold Oper.wp
    rw [hr]
    exact hK _ _ h
theorem exec_build {P : Program} {op : Oper} {a : Act} {w w1 : World} {t : TypeId} {v : Value} {ps : Array (Nat × Operand)} (ho : op.op = .build t ps) (vs : Array (Nat × Value)) (hv : (ps.map fun (i, x) => (i, a.eval x)) = vs) (hr : (Instr.build t vs).run P w = .ok v w1) : (execOp a.eval op).run P w = .ok (.value v) w1 := by
  simp [execOp, ho, hv, hr, Result.andThen]
theorem exec_buildSlice {P : Program} {op : Oper} {a : Act} {w w1 : World} {t : TypeId} {n : Nat} {v : Value} {ps : Array (Nat × Operand)} (ho : op.op = .buildSlice t n ps) (vs : Array (Nat × Value)) (hv : (ps.map fun (i, x) => (i, a.eval x)) = vs) (hr : (Instr.buildSlice t n vs).run P w = .ok v w1) : (execOp a.eval op).run P w = .ok (.value v) w1 := by
  simp [execOp, ho, hv, hr, Result.andThen]
theorem exec_build0 {P : Program} {op : Oper} {a : Act} {w w1 : World} {t : TypeId} {v : Value} (ho : op.op = .build t #[]) (hr : (Instr.build t #[]).run P w = .ok v w1) : (execOp a.eval op).run P w = .ok (.value v) w1 := exec_build ho #[] (by simp) hr
theorem exec_build1 {P : Program} {op : Oper} {a : Act} {w w1 : World} {t : TypeId} {v u : Value} {i : Nat} {x : Operand} (ho : op.op = .build t #[(i, x)]) (hx : a.eval x = u) (hr : (Instr.build t #[(i, u)]).run P w = .ok v w1) : (execOp a.eval op).run P w = .ok (.value v) w1 := exec_build ho #[(i, u)] (by simp [hx]) hr
theorem exec_buildSlice3 {P : Program} {op : Oper} {a : Act} {w w1 : World} {t : TypeId} {n : Nat} {v u1 u2 u3 : Value} {x y z : Operand} (ho : op.op = .buildSlice t n #[(0, x), (1, y), (2, z)]) (hx : a.eval x = u1) (hy : a.eval y = u2) (hz : a.eval z = u3) (hr : (Instr.buildSlice t n #[(0, u1), (1, u2), (2, u3)]).run P w = .ok v w1) : (execOp a.eval op).run P w = .ok (.value v) w1 := exec_buildSlice ho #[(0, u1), (1, u2), (2, u3)] (by simp [hx, hy, hz]) hr
/-- The first places of one, another, and the first again. -/
def P3 : Nat → Nat
  | 1 => 1
  | _ => 0
theorem p3_fst (z o : Sta) (hz : z.cs = zs) (ho : o.cs = os1) : ∀ i, i < [z, o, z].length → IsFst ([z, o, z].map Sta.key) i (P3 i) := by
  have hne : z.key ≠ o.key := fun q => by
    have := sta_eq.mp q
    rw [hz, ho] at this
    have h2 : zs[120]? = os1[120]? := by rw [this]
    simp [zs, os1] at h2
  intro i hi
  match i, hi with
  | 0, _ => exact ⟨Nat.le_refl _, rfl, fun q hq => absurd hq (Nat.not_lt_zero _)⟩
  | 1, _ => exact ⟨Nat.le_refl _, rfl, fun q hq => by
      have hq2 : q < 1 := hq
      obtain rfl : q = 0 := by omega
      simpa using hne⟩
  | 2, _ => exact ⟨Nat.zero_le _, rfl, fun q hq => absurd hq (Nat.not_lt_zero _)⟩
theorem rows_lit (w : World) : Rows (w.alloc (.cells #[.int .i64 0, .int .i64 1, .int .i64 0] 3)) 1 (some ⟨w.heap.size, 0, none⟩) 3 ([0, 1, 0].map chCells) := by
  refine ⟨by simp, by omega, by simp, .inr ⟨w.heap.size, 0, rfl, by simp, fun i row hi => ?_⟩⟩
  match i with
  | 0 => simp at hi; subst hi; exact ⟨rfl, fun j u hj => by match j with | 0 => simp [chCells] at hj; subst hj; exact World.cell?_alloc_at _ _ _ _ rfl | j + 1 => simp [chCells] at hj⟩
  | 1 => simp at hi; subst hi; exact ⟨rfl, fun j u hj => by match j with | 0 => simp [chCells] at hj; subst hj; exact World.cell?_alloc_at _ _ _ _ rfl | j + 1 => simp [chCells] at hj⟩
  | 2 => simp at hi; subst hi; exact ⟨rfl, fun j u hj => by match j with | 0 => simp [chCells] at hj; subst hj; exact World.cell?_alloc_at _ _ _ _ rfl | j + 1 => simp [chCells] at hj⟩
  | i + 3 => simp at hi
/-- A list of states that came in. -/
def StatesIn (w : World) (b : Option Addr) (c : Nat) (l : List Sta) : Prop := Rows w 121 b c (l.map Sta.cs) ∧ l.length * 8 ≤ reachBytes
set_option maxHeartbeats 1000000 in
theorem distincts_any (l : List Sta) (la : Option Addr) (lc : Nat) (w : World) (hl : StatesIn w la lc l) :
    Calls Try.prog 3 #[.slice la l.length lc] w fun e w' => e = .returned (.bool true) ∧ Below w.heap.size w w' := by
  obtain ⟨P, hP⟩ : ∃ P : Nat → Nat, ∀ i, IsFst (l.map Sta.key) i (P i) := Classical.axiomOfChoice fun i => fst_ex (l.map Sta.key) i
  obtain ⟨z, hz⟩ := z_ex
  obtain ⟨o, ho⟩ := o_ex
  have c1 : ∀ wx, Below w.heap.size w wx → Calls Try.prog 6 #[.slice la l.length lc] wx _ := fun wx h => distinct_any l la lc wx (hl.1.later h) hl.2 P fun i _ => hP i
  have c2 : ∀ wx, Below w.heap.size w wx → Calls Try.prog 7 #[.slice la l.length lc] wx _ := fun wx h => rdistinct_any l la lc wx (hl.1.later h) hl.2 P fun i _ => hP i
  have c3 : ∀ wx : World, Calls Try.prog 6 #[.slice (some ⟨wx.heap.size, 0, none⟩) 3 3] (wx.alloc (.cells (zs ++ (os1 ++ zs)).toArray 36)) fun e w' => ∃ g, e = .returned (.tuple #[.int .i64 2, .slice (some ⟨g, 0, none⟩) 3 3]) ∧ Rows w' 1 (some ⟨g, 0, none⟩) 3 ([0, 1, 0].map chCells) ∧ Below (wx.alloc (.cells (zs ++ (os1 ++ zs)).toArray 36)).heap.size (wx.alloc (.cells (zs ++ (os1 ++ zs)).toArray 36)) w' := fun wx => distinct_any [z, o, z] _ _ _ (rows_bs wx z o hz ho) (by unfold reachBytes; simp) P3 (p3_fst z o hz ho)
  have c4 : ∀ va vc ua uc wx, Rows wx 1 va vc (((List.range l.length).map fun i => (P i : Int)).map chCells) → Rows wx 1 ua uc (((List.range l.length).map fun i => (P i : Int)).map chCells) → Calls Try.prog 8 #[.slice va l.length vc, .slice ua l.length uc] wx _ := fun va vc ua uc wx h1 h2 => by
    have := sameInts_q ((List.range l.length).map fun i => (P i : Int)) va ua vc uc wx h1 h2
    simp only [List.length_map, List.length_range] at this
    exact this
  have c5 : ∀ va ua vc uc wx, Rows wx 1 va vc ([0, 1, 0].map chCells) → Rows wx 1 ua uc ([0, 1, 0].map chCells) → Calls Try.prog 8 #[.slice va 3 vc, .slice ua 3 uc] wx _ := fun va ua vc uc wx h1 h2 => sameInts_q [0, 1, 0] va ua vc uc wx h1 h2
  have hr3 : Hid (∀ (wx w' : World), Below (wx.alloc (.cells #[.int .i64 0, .int .i64 1, .int .i64 0] 3)).heap.size (wx.alloc (.cells #[.int .i64 0, .int .i64 1, .int .i64 0] 3)) w' → Rows w' 1 (some ⟨wx.heap.size, 0, none⟩) 3 ([0, 1, 0].map chCells)) := fun wx w' hb => Rows.later (rows_lit wx) hb
  clear hl hP
  go_enter Try.func3, Try.ntmps3
  go_upto_region 3 with (first
    | (go_at_call 6; (with_reducible refine (c1 _ (Below.refl _ _)).mono ?_); rintro e w1 ⟨g1, rfl, hr1, hb1⟩)
    | (go_at_call 7; (with_reducible refine (c2 _ hb1).mono ?_); rintro e w2 ⟨va, vc, rfl, hr2, hb2⟩; (have hB2 : Hid (Below w.heap.size w w2) := bthen hb1 hb2); (have hr1b := hr1.later hb2)))
  have hr1H : Hid (Rows w2 1 _ _ _) := hr1b
  have hr2H : Hid (Rows w2 1 _ _ _) := hr2
  clear hr1 hr2 hr1b hb1 hb2 c1 c2
  refine wp_region_lit ?_
  refine wpList_known rfl (exec_build0 rfl (run_b0 _)) ?_
  simp only [Act.put, List.setIfInBounds_toArray, List.set_cons_zero, List.set_cons_succ]
  refine wpList_known rfl (exec_build1 rfl rfl (run_b1 _)) ?_
  simp only [Act.put, List.setIfInBounds_toArray, List.set_cons_zero, List.set_cons_succ]
  refine wpList_known rfl (exec_build0 rfl (run_b0 _)) ?_
  simp only [Act.put, List.setIfInBounds_toArray, List.set_cons_zero, List.set_cons_succ]
  refine wpList_known rfl (exec_buildSlice3 rfl rfl rfl rfl (run_bs _)) ?_
  simp only [Act.put, List.setIfInBounds_toArray, List.set_cons_zero, List.set_cons_succ]
  have c3w := c3 w2
  have hb3w : Hid (Below w2.heap.size w2 (w2.alloc (.cells (zs ++ (os1 ++ zs)).toArray 36))) := boxed _ _
  generalize w2.alloc (.cells (zs ++ (os1 ++ zs)).toArray 36) = W3 at *
  generalize Value.agg zs.toArray = vz at *
  generalize Value.agg os1.toArray = vo at *
  clear c3 hz ho
  go_wp2_with (first
    | (go_at_call 6; (with_reducible refine c3w.mono ?_); rintro e w3 ⟨g3, rfl, hr3b, hb3⟩; (have hB3 : Below w2.heap.size w2 w3 := bthen hb3w.out hb3))
    | (go_at_call 8; (with_reducible refine (c4 _ _ _ _ _ (hr1H.out.later hB3) (hr2H.out.later hB3)).mono ?_); rintro e w4 ⟨rfl, hb4⟩; (have hr4 := hr3b.later hb4))
    | (go_at_call 8; (with_reducible refine (c5 _ _ _ _ _ (hr4.later (boxed _ _)) (hr3.out _ _ (Below.refl _ _))).mono ?_); rintro e w5 ⟨rfl, hb5⟩))
  go_ret
  exact ⟨rfl, bthen hB2.out (bthen hB3 (bthen hb4 (bthen (boxed _ _) hb5)))⟩
end Go.Proofs.Ytmlkcaocgklilaa.pg
