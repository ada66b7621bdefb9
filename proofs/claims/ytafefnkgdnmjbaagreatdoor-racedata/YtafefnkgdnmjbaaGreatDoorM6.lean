/- What the document's own package says an event touches. -/
import Derived.Test.YtafefnkgdnmjbaaGreatDoorM4
import Derived.Test.YtafefnkgdnmjbaaGreatDoorM5
import Derived.Test.YtafefnkgdnmjbaaGreatDoorM2
import Derived.Deep.WholeRow
namespace Go.Proofs.YtafefnkgdnmjbaaGreatDoor.pg
open Go.ChangeShapes Go.WideShapes Go.ChangeAt Go.RowKit
set_option linter.unusedVariables false
set_option linter.unusedSimpArgs false
set_option maxRecDepth 100000
attribute [local go_sem ↓] Go.wp_at_zero Go.wp_at_succ
theorem infoA : (Tryz.prog.info? 66).map (fun i => (i.zero, i.size, i.bytes)) = some (some (.agg #[.int .i64 0, .int .i64 0, .bool false]), 3, 24) := by kernel_rfl
/-- An access of an event in its box, by its place. -/
theorem ev_ix {w : World} {B : Nat} {x : Ev} (h : BoxE w B x) (i : Nat) (a : Acc) (hi : x.list[i]? = some a) :
    (∀ wx, (Instr.indexAt 67 (.pointer (some ⟨B, 7, none⟩)) (.int .i64 (i : Int))).run Tryz.prog wx = .ok (.pointer (some ⟨B, 7 + i * 3, none⟩)) wx) ∧ w.cell? ⟨B, 7 + i * 3, none⟩ = some (.int .i64 a.kind) ∧ w.cell? ⟨B, 7 + i * 3 + 1, none⟩ = some (.int .i64 a.num) ∧ w.cell? ⟨B, 7 + i * 3 + 2, none⟩ = some (.bool a.wr) := by
  have hl : i < 6 := by have := (List.getElem?_eq_some_iff.mp hi).1; simpa [Ev.list] using this
  refine ⟨fun wx => ?_, ?_, ?_, ?_⟩
  · have h6 : i = 0 ∨ i = 1 ∨ i = 2 ∨ i = 3 ∨ i = 4 ∨ i = 5 := by omega
    have u := Tryz.underlying67
    have z := Tryz.sizeOf66
    rcases h6 with rfl | rfl | rfl | rfl | rfl | rfl
    all_goals simp [Instr.indexAt, run_underlying u, asIntOf, go_sem, z]
  · have := x.list_at h i a hi 0 _ rfl; simpa using this
  · have := x.list_at h i a hi 1 _ rfl; rw [Nat.add_assoc]; exact this
  · have := x.list_at h i a hi 2 _ rfl; rw [Nat.add_assoc]; exact this
/-- How far Of has come. -/
structure OfSt (x : Ev) (W : World) (k : Nat) (va : Option Addr) (vc : Nat) (wr : World) : Prop where
  be : Below W.heap.size W wr
  ow : OwnL wr W.heap.size 66 3 va vc ((x.list.take k).map Acc.cells)
theorem tN_lt {n : Int} {k : Nat} (h : k < tN n) : (k : Int) < 6 ∧ (k : Int) < n := by
  have h1 := tN_int n
  rw [Int.max_def, Int.min_def] at h1
  split at h1 <;> split at h1 <;> omega
theorem tN_ge {n : Int} {k : Nat} (h : k ≤ tN n) (h2 : ¬ k < tN n) : ¬ (k : Int) < 6 ∨ (k : Int) < 6 ∧ ¬ (k : Int) < n := by
  have h1 := tN_int n
  rw [Int.max_def, Int.min_def] at h1
  split at h1 <;> split at h1 <;> omega
set_option maxHeartbeats 1000000 in
theorem of_any (x : Ev) (w : World) :
    Calls Tryz.prog 78 #[x.val] w fun e w' => ∃ va vc, e = .returned (.slice va x.of.length vc) ∧ OwnL w' w.heap.size 66 3 va vc (x.of.map Acc.cells) ∧ Below w.heap.size w w' := by
  obtain ⟨iA, hiA, hzA, hsA, hbA⟩ := info_q infoA
  have hb := boxed w (objE x)
  have bxH : Hid (BoxE (w.alloc (objE x)) w.heap.size x) := boxE_new w x
  have hll : x.list.length = 6 := rfl
  have hT := tN_le x.n
  go_enter Tryz.func78, Tryz.ntmps78
  go_wp2_with fail
  generalize w.alloc (objE x) = W at *
  have hbH : Hid (Below w.heap.size w W) := hb
  have hws : w.heap.size ≤ W.heap.size := hb.size
  clear hb
  go_loopw [3, 4] (fun l i wr => ∃ (k : Nat) (va : Option Addr) (vc : Nat), k ≤ tN x.n ∧ i = .int .i64 k ∧ l = .slice va k vc ∧ OfSt x W k va vc wr) (fun _ i _ => 6 - (intOf i).toNat)
  case atStart => exact ⟨0, none, 0, Nat.zero_le _, rfl, rfl, Below.refl _ _, own_nil_q _ _ _ _⟩
  case round =>
    obtain ⟨k, va, vc, hk, rfl, rfl, st⟩ := hrel
    have bx2 := bxH.out.later st.be
    have c25 : wr.cell? ⟨w.heap.size, 25, none⟩ = some (.int .i64 x.n) := bx2.at 25 _ rfl
    by_cases hlt : k < tN x.n
    · obtain ⟨a, ha, _⟩ := get_lt x.list k (by omega)
      obtain ⟨h6, hn⟩ := tN_lt hlt
      obtain ⟨hix, k0, k1, k2⟩ := ev_ix bx2 k a ha
      have hlen : (List.map Acc.cells (x.list.take k)).length = k := by rw [List.length_map, List.length_take]; omega
      have haH : Hid (x.list[k]? = some a) := ha
      have stH : Hid (OfSt x W k va vc wr) := st
      have hbs : Hid (W.heap.size ≤ wr.heap.size) := st.be.size
      have howH : Hid (OwnL wr W.heap.size 66 3 va vc ((x.list.take k).map Acc.cells)) := st.ow
      clear st bx2 ha
      go_wp2_with (first
        | (at_builtin; (refine wpList_app1 rfl (.tmp 15) (.tmp 20) 135 rfl W.heap.size 66 iA _ 3 24 Tryz.underlying135 hiA hzA hsA hbA rfl (by decide) va vc ((x.list.take k).map Acc.cells) (by rw [hlen]; rfl) howH.out a.cells rfl rfl (one3a [a] _ (by simp)) (by unfold maxLen; omega) (by omega) hbs.out ?_); intro va' vc' w2 hg; rw [hlen]))
      go_roundw
      case rel => exact ⟨k + 1, va', vc', by omega, by go_num, rfl, below_min stH.out.be hbs.out hg.be, by rw [take_one x.list k a haH.out, List.map_append]; exact hg.ow⟩
      case measure => simp [intOf]; omega
    · have hk2 : k = tN x.n := by omega
      have stH : Hid (OfSt x W k va vc wr) := st
      clear st bx2
      rcases tN_ge hk hlt with q | ⟨q, q2⟩
      all_goals
        go_wp2
        go_ret
        exact ⟨va, vc, by rw [Ev.of_len, ← hk2]; rfl, own_mono_q (by unfold Ev.of; rw [← hk2]; exact stH.out.ow) hws, bthen hbH.out stH.out.be⟩
end Go.Proofs.YtafefnkgdnmjbaaGreatDoor.pg
/- Whether two events depend on each other, by the document's own. -/
namespace Go.Proofs.YtafefnkgdnmjbaaGreatDoor.pg
open Go.ChangeShapes Go.WideShapes Go.ChangeAt Go.RowKit
set_option linter.unusedVariables false
set_option linter.unusedSimpArgs false
set_option maxRecDepth 100000
attribute [local go_sem ↓] Go.wp_at_zero Go.wp_at_succ
theorem BoxE.range {w : World} {B : Nat} {x : Ev} (h : BoxE w B x) : w.rangeAt B 0 x.cells := fun j v hv => by rw [Nat.zero_add]; exact h.at j v hv
theorem keepE2 {W w' : World} {A B : Nat} {x y : Ev} (h1 : BoxE W A x) (h2 : BoxE W B y) (hb : Below W.heap.size W w') : w'.rangeAt A 0 x.cells ∧ w'.rangeAt B 0 y.cells ∧ Below W.heap.size W w' :=
  ⟨(h1.later hb).range, (h2.later hb).range, hb⟩
set_option maxHeartbeats 1000000 in
theorem rdependent_any (a b : Ev) (w : World) (R : Bool) (hR : Hid (R = clash a.of b.of)) :
    Calls Tryz.prog 33 #[a.val, b.val] w fun e w' => e = .returned (.bool R) ∧ Below w.heap.size w w' := by
  have hb := boxed2 w (objE a) (objE b)
  have bA := (boxE_new w a).later (boxed (w.alloc (objE a)) (objE b))
  have bB := boxE_new (w.alloc (objE a)) b
  rw [World.size_alloc] at bB
  have cO : ∀ (x : Ev) wx, Calls Tryz.prog 78 #[.agg x.cells.toArray] wx _ := fun x wx => of_any x wx
  have cC : ∀ va vc ua uc wx, Rows wx 3 va vc (a.of.map Acc.cells) → Rows wx 3 ua uc (b.of.map Acc.cells) → Calls Tryz.prog 77 #[.slice va a.of.length vc, .slice ua b.of.length uc] wx _ := fun va vc ua uc wx h1 h2 => rclash_any a.of b.of _ _ _ _ wx h1 h2 R hR
  have hu := Tryz.underlying69
  have hi : (Tryz.prog.info? 69).map (·.size) = some a.cells.length := by kernel_rfl
  have hi2 : (Tryz.prog.info? 69).map (·.size) = some b.cells.length := by kernel_rfl
  go_enter Tryz.func33, Tryz.ntmps33
  go_wp2_with fail
  generalize (w.alloc (objE a)).alloc (objE b) = W at *
  generalize w.heap.size + 1 = B0 at *
  have hbH : Hid (Below w.heap.size w W) := hb
  have KH : Hid (∀ w', Below W.heap.size W w' → _) := fun w' h' => keepE2 bA bB h'
  clear hb bA bB
  refine wp_region_held_drew (S := fun w' => Below W.heap.size W w') (by kernel_rfl) (bey_drew W) (fun hH => ?_)
  refine reg_load (i := 0) rfl (by kernel_rfl) (by kernel_rfl) (by kernel_rfl) (fun _ _ _ _ h => h) rfl 69 _ rfl w.heap.size 0 rfl a.cells _ (fun w' h' => (KH.out w' h').1) hu rfl hi hH ?_
  simp only [Act.put, List.getElem_toArray, List.getElem_cons_succ, List.getElem_cons_zero, List.setIfInBounds_toArray, List.set_cons_zero, List.set_cons_succ]
  refine reg_load (i := 2) rfl (by kernel_rfl) (by kernel_rfl) (by kernel_rfl) (fun _ _ _ _ h => h) rfl 69 _ rfl B0 0 rfl b.cells _ (fun w' h' => (KH.out w' h').2.1) hu rfl hi2 hH ?_
  simp only [Act.put, List.getElem_toArray, List.getElem_cons_succ, List.getElem_cons_zero, List.setIfInBounds_toArray, List.set_cons_zero, List.set_cons_succ]
  refine reg_call1 (i := 1) (by kernel_rfl) rfl rfl 78 _ _ rfl (.agg a.cells.toArray) rfl (cf_fn Tryz.func78 (by kernel_rfl) (by kernel_rfl) _ _) _ (cO a _) ?_
  rintro e w1 ⟨va, vc, rfl, ho1, hb1⟩
  refine ⟨_, rfl, bthen hH hb1, fun hH1 => ?_⟩
  have hr1 : Rows w1 3 va vc (a.of.map Acc.cells) := own_rows ho1 (len3a _)
  simp only [Act.put, List.getElem_toArray, List.getElem_cons_succ, List.getElem_cons_zero, List.setIfInBounds_toArray, List.set_cons_zero, List.set_cons_succ]
  refine reg_call1 (i := 3) (by kernel_rfl) rfl rfl 78 _ _ rfl (.agg b.cells.toArray) rfl (cf_fn Tryz.func78 (by kernel_rfl) (by kernel_rfl) _ _) _ (cO b _) ?_
  rintro e w2 ⟨ua, uc, rfl, ho2, hb2⟩
  refine ⟨_, rfl, bthen hH1 hb2, fun hH2 => ?_⟩
  have hr2 : Rows w2 3 ua uc (b.of.map Acc.cells) := own_rows ho2 (len3a _)
  have hr3 : Rows w2 3 va vc (a.of.map Acc.cells) := hr1.later hb2
  simp only [Act.put, List.getElem_toArray, List.getElem_cons_succ, List.getElem_cons_zero, List.setIfInBounds_toArray, List.set_cons_zero, List.set_cons_succ]
  refine reg_call2 (i := 4) (by kernel_rfl) rfl rfl 77 _ _ _ _ rfl (.slice va a.of.length vc) (.slice ua b.of.length uc) rfl rfl (cf_fn Tryz.func77 (by kernel_rfl) (by kernel_rfl) _ _) _ (cC _ _ _ _ _ hr3 hr2) ?_
  rintro e w3 ⟨rfl, n3, rfl⟩
  refine ⟨_, rfl, below_drewN hH2 n3, fun hH3 => ?_⟩
  simp only [Act.put, List.getElem_toArray, List.getElem_cons_succ, List.getElem_cons_zero, List.setIfInBounds_toArray, List.set_cons_zero, List.set_cons_succ]
  refine reg_move (i := 5) rfl (by kernel_rfl) (by kernel_rfl) (by kernel_rfl) (fun _ _ _ _ h => h) rfl _ (fun _ => rfl) hH3 ?_
  simp only [Act.put, List.getElem_toArray, List.getElem_cons_succ, List.getElem_cons_zero, List.setIfInBounds_toArray, List.set_cons_zero, List.set_cons_succ]
  refine wpAnyH_done (by kernel_rfl) ?_ _
  go_wp2
  go_ret
  exact ⟨rfl, bthen hbH.out hH3⟩
end Go.Proofs.YtafefnkgdnmjbaaGreatDoor.pg
/- Structs of many cells, stored whole into a new box. -/
namespace Go.Proofs.YtafefnkgdnmjbaaGreatDoor.pg
open Go.ChangeShapes Go.WideShapes Go.ChangeAt Go.RowKit
set_option linter.unusedVariables false
theorem wp_store_new {P : Program} {op : Oper} {a : Act} {w : World} {K : Act → World → Prop} {Q : Exit → Act → World → Prop} (ty : TypeId) (x y : Operand) (ho : op.op = .store ty x y) (hx : a.eval x = .pointer (some ⟨w.heap.size, 0, none⟩)) (c c' : Array Value) (hy : a.eval y = .agg c')
    (hi : (P.info? ty).map (·.size) = some c'.size) (hsz : c.size = c'.size) (h1 : c'.all (·.oneCell') = true) (h : K (a.put op.dst undef) (w.alloc (.cells c' ty))) : op.wp P a (w.alloc (.cells c ty)) K Q := by
  unfold Oper.wp execOp
  simp only [ho, hx, hy, Sem.run_bind, Sem.run_pure, Result.andThen_ok, run_storeAt_new w ty c c' hi hsz h1]
  exact h
theorem wpList_store_new {P : Program} {ops : Array Oper} {rest : List Oper} {op : Oper} {a : Act} {w : World} {Q : Exit → Act → World → Prop} (hgd : op.guard = none) (ty : TypeId) (x y : Operand) (ho : op.op = .store ty x y) (hx : a.eval x = .pointer (some ⟨w.heap.size, 0, none⟩)) (c c' : Array Value) (hy : a.eval y = .agg c')
    (hi : (P.info? ty).map (·.size) = some c'.size) (hsz : c.size = c'.size) (h1 : c'.all (·.oneCell') = true) (h : wpList P ops Q rest (a.put op.dst undef) (w.alloc (.cells c' ty))) : wpList P ops Q (op :: rest) a (w.alloc (.cells c ty)) :=
  wpList_plain hgd fun _ hK => wp_store_new ty x y ho hx c c' hy hi hsz h1 (hK _ _ h)
/-- A load of many cells at once, guarded or not. -/
theorem wpList_load_g {P : Program} {ops : Array Oper} {rest : List Oper} {op : Oper} {a : Act} {w : World} {Q : Exit → Act → World → Prop} (hw : Region.wanted op (yielded ops a.tmps) = true) (ty : TypeId) (x : Operand) (ho : op.op = .load ty x)
    (b o : Nat) (hx : a.eval x = .pointer (some ⟨b, o, none⟩)) (cs : List Value) (d : TypeDesc) (hc : w.rangeAt b o cs)
    (hu : P.underlying ty = some d) (hd : d.isRow = true) (hi : (P.info? ty).map (·.size) = some cs.length)
    (h : wpList P ops Q rest (a.put op.dst (.agg cs.toArray)) w) : wpList P ops Q (op :: rest) a w :=
  BigFrame.wpList_want hw fun _ hK => wp_load_mid ty x ho b o hx cs d hc hu hd hi (hK _ _ h)
/-- The zero value of a struct of many cells, without a word on what it is. -/
theorem zero_big {P : Program} {t : TypeId} {n : Nat} (h : ((P.info? t).bind (·.zero)).any (fun v => match v with | .agg Z => Z.size == n | _ => false) = true) : ∃ Z : Array Value, (∀ w, (zeroValue t).run P w = .ok (.agg Z) w) ∧ Z.size = n ∧ (P.info? t).bind (·.zero) = some (.agg Z) := by
  cases hq : P.info? t with
  | none => simp [hq] at h
  | some i =>
    cases hz : i.zero with
    | none => simp [hq, hz] at h
    | some v =>
      cases v <;> simp [hq, hz] at h
      rename_i Z
      exact ⟨Z, fun w => by simp [zeroValue, typeInfo, hq, hz], h, by simp [hz]⟩
theorem run_alloc_big {P : Program} {t : TypeId} {Z : Array Value} (hz : ∀ w, (zeroValue t).run P w = .ok (.agg Z) w) (w : World) : (Instr.alloc t true (.tuple #[])).run P w = .ok (.pointer (some ⟨w.heap.size, 0, none⟩)) (w.alloc (.cells Z t)) := by
  simp [Instr.alloc, Sem.run_bind, hz, newVar, Value.cells, go_sem]
theorem wpList_alloc_big {P : Program} {ops : Array Oper} {rest : List Oper} {op : Oper} {a : Act} {w : World} {Q : Exit → Act → World → Prop} (hgd : op.guard = none) (ty : TypeId) (ho : op.op = .alloc ty) {Z : Array Value} (hz : ∀ w, (zeroValue ty).run P w = .ok (.agg Z) w)
    (h : wpList P ops Q rest (a.put op.dst (.pointer (some ⟨w.heap.size, 0, none⟩))) (w.alloc (.cells Z ty))) : wpList P ops Q (op :: rest) a w :=
  wpList_plain hgd fun _ hK => by
    unfold Oper.wp execOp
    simp only [ho, Sem.run_bind, Sem.run_pure, Result.andThen_ok, run_alloc_big hz w]
    exact hK _ _ h
end Go.Proofs.YtafefnkgdnmjbaaGreatDoor.pg
