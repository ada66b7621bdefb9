/- When two of a program's plain parts are the same. -/
import Derived.Test.YtonkcnaijcpfdaaGreatDoorM4
import Derived.Laws.StructEq
import Derived.Test.YtonkcnaijcpfdaaGreatDoorM17
import Derived.Test.YtonkcnaijcpfdaaGreatDoorM12
namespace Go.Proofs.YtonkcnaijcpfdaaGreatDoor.pg
open Go.ChangeShapes Go.WideShapes Go.ChangeAt Go.RowKit
set_option linter.unusedVariables false
set_option linter.unusedSimpArgs false
abbrev Vr.val (x : Vr) : Value := .agg #[.bool x.atomic, .int .i64 x.init]
def eqV (x y : Vr) : Bool := x.atomic == y.atomic && x.init == y.init
theorem eqV_iff (x y : Vr) : eqV x y = true ↔ x = y := by
  cases x; cases y; simp [eqV, Bool.and_eq_true, beq_iff_eq, and_assoc]
theorem run_eqV (x y : Vr) (w : World) : (binOp .eql 75 x.val y.val).run Tryz.prog w = .ok (.bool (eqV x y)) w := by
  have u0 := Tryz.underlying4
  have a0 := Tryz.isAgg4
  have z0 := Tryz.sizeOf4
  have u1 := Tryz.underlying2
  have a1 := Tryz.isAgg2
  have z1 := Tryz.sizeOf2
  have hS : Tryz.prog.underlying 75 = some (.struct (Tryz.prog.fieldsOf 75)) := by kernel_rfl
  have hp : Tryz.prog.stoodInHeld 75 = false := by kernel_rfl
  rw [run_eql_struct, show (10000 : Nat) = 9999 + 1 from rfl, run_equalIn_agg w 9999 75 _ _ hS hp]
  simp only [Program.fieldsOf, Tryz.underlying75]
  go_simp
  by_cases h0 : x.atomic = y.atomic <;> by_cases h1 : x.init = y.init <;> simp [eqV, h0, h1]
theorem run_neV (x y : Vr) (w : World) : (binOp .neq 75 x.val y.val).run Tryz.prog w = .ok (.bool (!eqV x y)) w := by
  have u0 := Tryz.underlying4
  have a0 := Tryz.isAgg4
  have z0 := Tryz.sizeOf4
  have u1 := Tryz.underlying2
  have a1 := Tryz.isAgg2
  have z1 := Tryz.sizeOf2
  have hS : Tryz.prog.underlying 75 = some (.struct (Tryz.prog.fieldsOf 75)) := by kernel_rfl
  have hp : Tryz.prog.stoodInHeld 75 = false := by kernel_rfl
  rw [run_neq_struct, show (10000 : Nat) = 9999 + 1 from rfl, run_equalIn_agg w 9999 75 _ _ hS hp]
  simp only [Program.fieldsOf, Tryz.underlying75]
  go_simp
  by_cases h0 : x.atomic = y.atomic <;> by_cases h1 : x.init = y.init <;> simp [eqV, h0, h1]
def eqI (x y : Ins) : Bool := x.op == y.op && x.a == y.a && x.b == y.b && x.c == y.c && x.n == y.n
theorem eqI_iff (x y : Ins) : eqI x y = true ↔ x = y := by
  cases x; cases y; simp [eqI, Bool.and_eq_true, beq_iff_eq, and_assoc]
theorem run_eqI (x y : Ins) (w : World) : (binOp .eql 85 x.val y.val).run Tryz.prog w = .ok (.bool (eqI x y)) w := by
  have u0 := Tryz.underlying83
  have a0 := Tryz.isAgg83
  have z0 := Tryz.sizeOf83
  have u1 := Tryz.underlying3
  have a1 := Tryz.isAgg3
  have z1 := Tryz.sizeOf3
  have u2 := Tryz.underlying2
  have a2 := Tryz.isAgg2
  have z2 := Tryz.sizeOf2
  have hS : Tryz.prog.underlying 85 = some (.struct (Tryz.prog.fieldsOf 85)) := by kernel_rfl
  have hp : Tryz.prog.stoodInHeld 85 = false := by kernel_rfl
  rw [run_eql_struct, show (10000 : Nat) = 9999 + 1 from rfl, run_equalIn_agg w 9999 85 _ _ hS hp]
  simp only [Program.fieldsOf, Tryz.underlying85]
  go_simp
  by_cases h0 : x.op = y.op <;> by_cases h1 : x.a = y.a <;> by_cases h2 : x.b = y.b <;> by_cases h3 : x.c = y.c <;> by_cases h4 : x.n = y.n <;> simp [eqI, h0, h1, h2, h3, h4]
theorem run_neI (x y : Ins) (w : World) : (binOp .neq 85 x.val y.val).run Tryz.prog w = .ok (.bool (!eqI x y)) w := by
  have u0 := Tryz.underlying83
  have a0 := Tryz.isAgg83
  have z0 := Tryz.sizeOf83
  have u1 := Tryz.underlying3
  have a1 := Tryz.isAgg3
  have z1 := Tryz.sizeOf3
  have u2 := Tryz.underlying2
  have a2 := Tryz.isAgg2
  have z2 := Tryz.sizeOf2
  have hS : Tryz.prog.underlying 85 = some (.struct (Tryz.prog.fieldsOf 85)) := by kernel_rfl
  have hp : Tryz.prog.stoodInHeld 85 = false := by kernel_rfl
  rw [run_neq_struct, show (10000 : Nat) = 9999 + 1 from rfl, run_equalIn_agg w 9999 85 _ _ hS hp]
  simp only [Program.fieldsOf, Tryz.underlying85]
  go_simp
  by_cases h0 : x.op = y.op <;> by_cases h1 : x.a = y.a <;> by_cases h2 : x.b = y.b <;> by_cases h3 : x.c = y.c <;> by_cases h4 : x.n = y.n <;> simp [eqI, h0, h1, h2, h3, h4]
def eqC (x y : Cas) : Bool := x.send == y.send && x.ch == y.ch && x.reg == y.reg && x.to == y.to
theorem eqC_iff (x y : Cas) : eqC x y = true ↔ x = y := by
  cases x; cases y; simp [eqC, Bool.and_eq_true, beq_iff_eq, and_assoc]
theorem run_eqC (x y : Cas) (w : World) : (binOp .eql 101 x.val y.val).run Tryz.prog w = .ok (.bool (eqC x y)) w := by
  have u0 := Tryz.underlying4
  have a0 := Tryz.isAgg4
  have z0 := Tryz.sizeOf4
  have u1 := Tryz.underlying3
  have a1 := Tryz.isAgg3
  have z1 := Tryz.sizeOf3
  have hS : Tryz.prog.underlying 101 = some (.struct (Tryz.prog.fieldsOf 101)) := by kernel_rfl
  have hp : Tryz.prog.stoodInHeld 101 = false := by kernel_rfl
  rw [run_eql_struct, show (10000 : Nat) = 9999 + 1 from rfl, run_equalIn_agg w 9999 101 _ _ hS hp]
  simp only [Program.fieldsOf, Tryz.underlying101]
  go_simp
  by_cases h0 : x.send = y.send <;> by_cases h1 : x.ch = y.ch <;> by_cases h2 : x.reg = y.reg <;> by_cases h3 : x.to = y.to <;> simp [eqC, h0, h1, h2, h3]
theorem run_neC (x y : Cas) (w : World) : (binOp .neq 101 x.val y.val).run Tryz.prog w = .ok (.bool (!eqC x y)) w := by
  have u0 := Tryz.underlying4
  have a0 := Tryz.isAgg4
  have z0 := Tryz.sizeOf4
  have u1 := Tryz.underlying3
  have a1 := Tryz.isAgg3
  have z1 := Tryz.sizeOf3
  have hS : Tryz.prog.underlying 101 = some (.struct (Tryz.prog.fieldsOf 101)) := by kernel_rfl
  have hp : Tryz.prog.stoodInHeld 101 = false := by kernel_rfl
  rw [run_neq_struct, show (10000 : Nat) = 9999 + 1 from rfl, run_equalIn_agg w 9999 101 _ _ hS hp]
  simp only [Program.fieldsOf, Tryz.underlying101]
  go_simp
  by_cases h0 : x.send = y.send <;> by_cases h1 : x.ch = y.ch <;> by_cases h2 : x.reg = y.reg <;> by_cases h3 : x.to = y.to <;> simp [eqC, h0, h1, h2, h3]
theorem list_eq {α : Type} {l m : List α} (hl : l.length = m.length) (h : ∀ (i : Nat) x y, l[i]? = some x → m[i]? = some y → x = y) : l = m := by
  apply List.ext_getElem? 
  intro i
  by_cases hi : i < l.length
  · rw [List.getElem?_eq_getElem hi, List.getElem?_eq_getElem (by omega)]
    rw [h i _ _ (List.getElem?_eq_getElem hi) (List.getElem?_eq_getElem (by omega))]
  · rw [List.getElem?_eq_none (by omega), List.getElem?_eq_none (by omega)]
end Go.Proofs.YtonkcnaijcpfdaaGreatDoor.pg
/- The reader of package code in memory: a variable, a case, and lists. -/
namespace Go.Proofs.YtonkcnaijcpfdaaGreatDoor.pg
open Go.ChangeShapes Go.WideShapes Go.ChangeAt Go.RowKit
set_option linter.unusedVariables false
set_option linter.unusedSimpArgs false
set_option maxRecDepth 100000
abbrev objV0 : Obj := .cells #[.bool false, .int .i64 0] 75
abbrev objC0 : Obj := .cells #[.bool false, .int .i64 0, .int .i64 0, .int .i64 0] 101

theorem set_to {w : World} {b : Nat} {cs cs' : Array Value} {t : TypeId} (h : w.heap[b]? = some (.cells cs t (0, 0))) (i : Nat) (v : Value) (he : cs.setIfInBounds i v = cs') : (w.setCell ⟨b, i, none⟩ v).heap[b]? = some (.cells cs' t (0, 0)) := by
  rw [← he]; exact set4 w b i cs t v h
theorem rdVar_eq (f : Nat → Nat) (n : Nat) (s : RS) : rdVar f n s = (⟨(rdFlag f n s).1, (rdS f n (rdFlag f n s).2).1⟩, (rdS f n (rdFlag f n s).2).2) := rfl
theorem rdCas_eq (f : Nat → Nat) (n : Nat) (s : RS) : rdCas f n s = (⟨(rdFlag f n s).1, (rdNum f n (rdFlag f n s).2).1, (rdNum f n (rdNum f n (rdFlag f n s).2).2).1 - 1, (rdNum f n (rdNum f n (rdNum f n (rdFlag f n s).2).2).2).1⟩, (rdNum f n (rdNum f n (rdNum f n (rdFlag f n s).2).2).2).2) := rfl
section
variable {w w' : World} {r q bc n : Nat} {ba : Option Addr} {f : Nat → Nat} {s : RS}
theorem Fr.held {w w' : World} (h : Fr r q w w') {b : Nat} {o : Obj} (hb : w.heap[b]? = some o) (hn : b ≠ r ∧ b ≠ q ∧ b ∉ blk ba) : w'.heap[b]? = some o :=
  (h.block b (Array.getElem?_eq_some_iff.mp hb).1 hn.1 hn.2.1).trans hb
set_option maxHeartbeats 4000000 in
theorem variable_r (h : RdS w r q ba bc n f s) : Rr r q ba bc n f 65 #[.pointer (some ⟨r, 0, none⟩)] w (rdVar f n s).1.val (rdVar f n s).2 := by
  have a0 := two_first w objV0 objV0
  have a1 := two_second w objV0 objV0
  have far0 := h.far _ (Nat.le_refl _)
  have far1 : w.heap.size + 1 ≠ r ∧ w.heap.size + 1 ≠ q ∧ w.heap.size + 1 ∉ blk ba := h.far _ (Nat.le_succ _)
  have hF0 : Fr r q w ((w.alloc objV0).alloc objV0) := Fr.of (boxed2 w _ _)
  have h0 := h.later (boxed2 w objV0 objV0)
  have c1 : Calls Tryz.prog 94 #[.pointer (some ⟨r, 0, none⟩)] ((w.alloc objV0).alloc objV0) _ := flag_r h0
  have c2 : ∀ wx, RdS wx r q ba bc n f (rdFlag f n s).2 → Calls Tryz.prog 95 #[.pointer (some ⟨r, 0, none⟩)] wx _ := fun wx hx => signed_r hx
  rw [rdVar_eq]
  unfold Rr
  generalize (rdS f n (rdFlag f n s).2).1 = x2 at *
  generalize (rdS f n (rdFlag f n s).2).2 = t2 at *
  generalize (rdFlag f n s).1 = x1 at *
  generalize (rdFlag f n s).2 = t1 at *
  clear h h0
  go_enter Tryz.func65, Tryz.ntmps65
  go_wp2_with (first
    | (go_at_call 94; (with_reducible refine c1.mono ?_); rintro e w1 ⟨rfl, h1, f1⟩;
        (have b1X := f1.held a1 far1); (have b1Y := f1.held a0 far0); (have b10 := whole_cell b1X 0 _ rfl); (have b11 := whole_cell b1X 1 _ rfl); (have bz1 := fun o => whole_frozen b1X o); (have bl1 := (Array.getElem?_eq_some_iff.mp b1X).1);
        (have B11 : Hid ((w1.setCell ⟨w.heap.size + 1, 0, none⟩ (.bool x1)).heap[w.heap.size + 1]? = some (.cells #[.bool x1, .int .i64 0] 75 (0, 0))) := set_to b1X 0 (.bool x1) rfl);
        (have B10 : Hid ((w1.setCell ⟨w.heap.size + 1, 0, none⟩ (.bool x1)).heap[w.heap.size]? = some objV0) := (heap_setCell_other _ _ _ _ (by show w.heap.size ≠ w.heap.size + 1; omega)).trans b1Y);
        (have h1s : Hid (RdS (w1.setCell ⟨w.heap.size + 1, 0, none⟩ (.bool x1)) r q ba bc n f t1) := h1.setN far1 0 _);
        (have f1s : Hid (Fr r q w (w1.setCell ⟨w.heap.size + 1, 0, none⟩ (.bool x1))) := (hF0.trans f1).setN (Nat.le_succ _) 0 _);
        clear b1X b1Y h1 f1)
    | (go_at_call 95; (with_reducible refine (c2 _ h1s.out).mono ?_); rintro e w2 ⟨rfl, h2, f2⟩; clear b10 b11 bz1 bl1;
        (have b2X := f2.held B11.out far1); (have b2Y := f2.held B10.out far0); (have b20 := whole_cell b2X 0 _ rfl); (have b21 := whole_cell b2X 1 _ rfl); (have bz2 := fun o => whole_frozen b2X o); (have bl2 := (Array.getElem?_eq_some_iff.mp b2X).1); (have e0 := whole_cell b2Y 0 _ rfl); (have e1 := whole_cell b2Y 1 _ rfl); (have ez := fun o => whole_frozen b2Y o); (have el := (Array.getElem?_eq_some_iff.mp b2Y).1)))
  refine bodyPost_ret (v := Vr.val ⟨x1, x2⟩) ?_ rfl ⟨rfl, ?_, ?_⟩
  · simp [results, Tryz.results65, go_sem, b20, b21, e0, e1]
  · exact ((h2.setN far1 1 _).setN far0 0 _).setN far0 1 _
  · exact (((f1s.out.trans f2).setN (Nat.le_succ _) 1 _).setN (Nat.le_refl _) 0 _).setN (Nat.le_refl _) 1 _
set_option maxHeartbeats 4000000 in
theorem branch_r (h : RdS w r q ba bc n f s) : Rr r q ba bc n f 119 #[.pointer (some ⟨r, 0, none⟩)] w (rdCas f n s).1.val (rdCas f n s).2 := by
  have a0 := two_first w objC0 objC0
  have a1 := two_second w objC0 objC0
  have far0 := h.far _ (Nat.le_refl _)
  have far1 : w.heap.size + 1 ≠ r ∧ w.heap.size + 1 ≠ q ∧ w.heap.size + 1 ∉ blk ba := h.far _ (Nat.le_succ _)
  have hF0 : Fr r q w ((w.alloc objC0).alloc objC0) := Fr.of (boxed2 w _ _)
  have h0 := h.later (boxed2 w objC0 objC0)
  have c1 : Calls Tryz.prog 94 #[.pointer (some ⟨r, 0, none⟩)] ((w.alloc objC0).alloc objC0) _ := flag_r h0
  have c2 : ∀ wx, RdS wx r q ba bc n f (rdFlag f n s).2 → Calls Tryz.prog 66 #[.pointer (some ⟨r, 0, none⟩)] wx _ := fun wx hx => number_r hx
  have c3 : ∀ wx, RdS wx r q ba bc n f (rdNum f n (rdFlag f n s).2).2 → Calls Tryz.prog 66 #[.pointer (some ⟨r, 0, none⟩)] wx _ := fun wx hx => number_r hx
  have c4 : ∀ wx, RdS wx r q ba bc n f (rdNum f n (rdNum f n (rdFlag f n s).2).2).2 → Calls Tryz.prog 66 #[.pointer (some ⟨r, 0, none⟩)] wx _ := fun wx hx => number_r hx
  have g2 := rdNum_range h.row.2.1 (n := n) (rdFlag f n s).2
  have g3 := rdNum_range h.row.2.1 (n := n) (rdNum f n (rdFlag f n s).2).2
  have g4 := rdNum_range h.row.2.1 (n := n) (rdNum f n (rdNum f n (rdFlag f n s).2).2).2
  rw [rdCas_eq]
  unfold Rr
  generalize (rdNum f n (rdNum f n (rdNum f n (rdFlag f n s).2).2).2).1 = x4 at *
  generalize (rdNum f n (rdNum f n (rdNum f n (rdFlag f n s).2).2).2).2 = t4 at *
  generalize (rdNum f n (rdNum f n (rdFlag f n s).2).2).1 = x3 at *
  generalize (rdNum f n (rdNum f n (rdFlag f n s).2).2).2 = t3 at *
  generalize (rdNum f n (rdFlag f n s).2).1 = x2 at *
  generalize (rdNum f n (rdFlag f n s).2).2 = t2 at *
  generalize (rdFlag f n s).1 = x1 at *
  generalize (rdFlag f n s).2 = t1 at *
  obtain ⟨g2a, g2b⟩ := g2
  obtain ⟨g3a, g3b⟩ := g3
  obtain ⟨g4a, g4b⟩ := g4
  clear h h0
  go_enter Tryz.func119, Tryz.ntmps119
  go_wp2_with (first
    | (go_at_call 94; (with_reducible refine c1.mono ?_); rintro e w1 ⟨rfl, h1, f1⟩;
        (have b1X := f1.held a1 far1); (have b1Y := f1.held a0 far0); (have b10 := whole_cell b1X 0 _ rfl); (have b11 := whole_cell b1X 1 _ rfl); (have b12 := whole_cell b1X 2 _ rfl); (have b13 := whole_cell b1X 3 _ rfl); (have bz1 := fun o => whole_frozen b1X o); (have bl1 := (Array.getElem?_eq_some_iff.mp b1X).1);
        (have B11 : Hid ((w1.setCell ⟨w.heap.size + 1, 0, none⟩ (.bool x1)).heap[w.heap.size + 1]? = some (.cells #[.bool x1, .int .i64 0, .int .i64 0, .int .i64 0] 101 (0, 0))) := set_to b1X 0 (.bool x1) rfl);
        (have B10 : Hid ((w1.setCell ⟨w.heap.size + 1, 0, none⟩ (.bool x1)).heap[w.heap.size]? = some objC0) := (heap_setCell_other _ _ _ _ (by show w.heap.size ≠ w.heap.size + 1; omega)).trans b1Y);
        (have h1s : Hid (RdS (w1.setCell ⟨w.heap.size + 1, 0, none⟩ (.bool x1)) r q ba bc n f t1) := h1.setN far1 0 _);
        (have f1s : Hid (Fr r q w (w1.setCell ⟨w.heap.size + 1, 0, none⟩ (.bool x1))) := (hF0.trans f1).setN (Nat.le_succ _) 0 _);
        clear b1X b1Y h1 f1)
    | (go_at_call 66; (with_reducible refine (c2 _ h1s.out).mono ?_); rintro e w2 ⟨rfl, h2, f2⟩; clear b10 b11 b12 b13 bz1 bl1;
        (have b2X := f2.held B11.out far1); (have b2Y := f2.held B10.out far0); (have b20 := whole_cell b2X 0 _ rfl); (have b21 := whole_cell b2X 1 _ rfl); (have b22 := whole_cell b2X 2 _ rfl); (have b23 := whole_cell b2X 3 _ rfl); (have bz2 := fun o => whole_frozen b2X o); (have bl2 := (Array.getElem?_eq_some_iff.mp b2X).1);
        (have B21 : Hid ((w2.setCell ⟨w.heap.size + 1, 1, none⟩ (.int .i64 x2)).heap[w.heap.size + 1]? = some (.cells #[.bool x1, .int .i64 x2, .int .i64 0, .int .i64 0] 101 (0, 0))) := set_to b2X 1 (.int .i64 x2) rfl);
        (have B20 : Hid ((w2.setCell ⟨w.heap.size + 1, 1, none⟩ (.int .i64 x2)).heap[w.heap.size]? = some objC0) := (heap_setCell_other _ _ _ _ (by show w.heap.size ≠ w.heap.size + 1; omega)).trans b2Y);
        (have h2s : Hid (RdS (w2.setCell ⟨w.heap.size + 1, 1, none⟩ (.int .i64 x2)) r q ba bc n f t2) := h2.setN far1 1 _);
        (have f2s : Hid (Fr r q w (w2.setCell ⟨w.heap.size + 1, 1, none⟩ (.int .i64 x2))) := (f1s.out.trans f2).setN (Nat.le_succ _) 1 _);
        clear b2X b2Y h2 f2)
    | (go_at_call 66; (with_reducible refine (c3 _ h2s.out).mono ?_); rintro e w3 ⟨rfl, h3, f3⟩; clear b20 b21 b22 b23 bz2 bl2;
        (have b3X := f3.held B21.out far1); (have b3Y := f3.held B20.out far0); (have b30 := whole_cell b3X 0 _ rfl); (have b31 := whole_cell b3X 1 _ rfl); (have b32 := whole_cell b3X 2 _ rfl); (have b33 := whole_cell b3X 3 _ rfl); (have bz3 := fun o => whole_frozen b3X o); (have bl3 := (Array.getElem?_eq_some_iff.mp b3X).1);
        (have B31 : Hid ((w3.setCell ⟨w.heap.size + 1, 2, none⟩ (.int .i64 (x3 - 1))).heap[w.heap.size + 1]? = some (.cells #[.bool x1, .int .i64 x2, .int .i64 (x3 - 1), .int .i64 0] 101 (0, 0))) := set_to b3X 2 (.int .i64 (x3 - 1)) rfl);
        (have B30 : Hid ((w3.setCell ⟨w.heap.size + 1, 2, none⟩ (.int .i64 (x3 - 1))).heap[w.heap.size]? = some objC0) := (heap_setCell_other _ _ _ _ (by show w.heap.size ≠ w.heap.size + 1; omega)).trans b3Y);
        (have h3s : Hid (RdS (w3.setCell ⟨w.heap.size + 1, 2, none⟩ (.int .i64 (x3 - 1))) r q ba bc n f t3) := h3.setN far1 2 _);
        (have f3s : Hid (Fr r q w (w3.setCell ⟨w.heap.size + 1, 2, none⟩ (.int .i64 (x3 - 1)))) := (f2s.out.trans f3).setN (Nat.le_succ _) 2 _);
        clear b3X b3Y h3 f3)
    | (go_at_call 66; (with_reducible refine (c4 _ h3s.out).mono ?_); rintro e w4 ⟨rfl, h4, f4⟩; clear b30 b31 b32 b33 bz3 bl3;
        (have b4X := f4.held B31.out far1); (have b4Y := f4.held B30.out far0); (have b40 := whole_cell b4X 0 _ rfl); (have b41 := whole_cell b4X 1 _ rfl); (have b42 := whole_cell b4X 2 _ rfl); (have b43 := whole_cell b4X 3 _ rfl); (have bz4 := fun o => whole_frozen b4X o); (have bl4 := (Array.getElem?_eq_some_iff.mp b4X).1); (have e0 := whole_cell b4Y 0 _ rfl); (have e1 := whole_cell b4Y 1 _ rfl); (have e2 := whole_cell b4Y 2 _ rfl); (have e3 := whole_cell b4Y 3 _ rfl); (have ez := fun o => whole_frozen b4Y o); (have el := (Array.getElem?_eq_some_iff.mp b4Y).1)))
  refine bodyPost_ret (v := Cas.val ⟨x1, x2, x3 - 1, x4⟩) ?_ rfl ⟨rfl, ?_, ?_⟩
  · simp [results, Tryz.results119, go_sem, b40, b41, b42, b43, e0, e1, e2, e3]
  · exact ((((h4.setN far1 3 _).setN far0 0 _).setN far0 1 _).setN far0 2 _).setN far0 3 _
  · exact (((((f3s.out.trans f4).setN (Nat.le_succ _) 3 _).setN (Nat.le_refl _) 0 _).setN (Nat.le_refl _) 1 _).setN (Nat.le_refl _) 2 _).setN (Nat.le_refl _) 3 _
end
end Go.Proofs.YtonkcnaijcpfdaaGreatDoor.pg
/- The reader of package code in memory: lists of variables, numbers, cases. -/
namespace Go.Proofs.YtonkcnaijcpfdaaGreatDoor.pg
open Go.ChangeShapes Go.WideShapes Go.ChangeAt Go.RowKit
set_option linter.unusedVariables false
set_option linter.unusedSimpArgs false
set_option maxRecDepth 100000
section
variable {w w' : World} {r q bc n : Nat} {ba : Option Addr} {f : Nat → Nat} {s : RS}
set_option maxHeartbeats 4000000 in
theorem list_Var (h : RdS w r q ba bc n f s) (m : Int) (hm0 : 0 ≤ m) (hm : m ≤ 1000) :
    Calls Tryz.prog 64 #[.pointer (some ⟨r, 0, none⟩), .int .u64 m, .func (.func 65) #[.pointer (some ⟨r, 0, none⟩)] #[]] w fun e w' => ∃ a cap, e = .returned (.slice a (rdList f n m (rdVar f n) s).1.length cap) ∧ OwnL w' w.heap.size 75 2 a cap ((rdList f n m (rdVar f n) s).1.map Vr.cells) ∧ RdS w' r q ba bc n f (rdList f n m (rdVar f n) s).2 ∧ Fr r q w w' := by
  have c1 : Calls Tryz.prog 93 #[.pointer (some ⟨r, 0, none⟩), .int .u64 m] w _ := count_r h m hm0 hm
  obtain ⟨i5, hi5, hz5, hs5, hb5⟩ := info_of infoV
  have hrg := rdCnt_range h.row.2.1 m hm0 s (n := n)
  obtain ⟨N, hN⟩ : ∃ N : Nat, (rdCnt f n m s).1 = N := ⟨_, (Int.toNat_of_nonneg hrg.1).symm⟩
  obtain ⟨s0, hs0⟩ : ∃ s0, (rdCnt f n m s).2 = s0 := ⟨_, rfl⟩
  have hL : rdList f n m (rdVar f n) s = rdMany (rdVar f n) N s0 := by unfold rdList; rw [hN, hs0]; rfl
  have hNm : N ≤ 1000 := by omega
  rw [hL]
  rw [hN, hs0] at c1
  have hltr := h.ltr
  have hltq := h.ltq
  have hlb : Hid (∀ b ∈ blk ba, b < w.heap.size) := fun b hb => (h.bl b hb).2.2
  clear h hL hN hs0 hrg
  go_enter Tryz.func64, Tryz.ntmps64
  go_wp2_with (go_at_call 93; (with_reducible refine c1.mono ?_); rintro e w1 ⟨rfl, h1, f1⟩)
  go_loopw [7, 11] (fun u v wr => ∃ (j : Nat) (va : Option Addr) (vc : Nat), j ≤ N ∧ u = .slice va j vc ∧ v = .int .i64 j ∧ OwnL wr w.heap.size 75 2 va vc ((rdMany (rdVar f n) j s0).1.map Vr.cells) ∧ RdS wr r q ba bc n f (rdMany (rdVar f n) j s0).2 ∧ Fr r q w wr) (fun _ v _ => N - (intOf v).toNat)
  case atStart => exact ⟨0, none, 0, Nat.zero_le _, rfl, rfl, own_nil _ _ _ _, h1, f1⟩
  case round =>
    clear h1 f1 c1
    obtain ⟨j, va, vc, hj, rfl, rfl, ow, h1, f1⟩ := hrel
    by_cases hlt : j < N
    · have hlen : Hid ((rdMany (rdVar f n) j s0).1.length = j) := many_len _ _ _
      have hjI : (j : Int) < N := by omega
      have c2 : Calls Tryz.prog 65 #[.pointer (some ⟨r, 0, none⟩)] wr _ := variable_r h1
      have hM : Hid (rdMany (rdVar f n) (j + 1) s0 = ((rdMany (rdVar f n) j s0).1 ++ [((rdVar f n) (rdMany (rdVar f n) j s0).2).1], ((rdVar f n) (rdMany (rdVar f n) j s0).2).2)) := rfl
      generalize ((rdVar f n) (rdMany (rdVar f n) j s0).2).1 = x at *
      generalize ((rdVar f n) (rdMany (rdVar f n) j s0).2).2 = t at *
      generalize (rdMany (rdVar f n) j s0).1 = l at *
      clear h1
      go_wp2_with (first
        | (go_at_call 65; (with_reducible refine c2.mono ?_); rintro e w2 ⟨rfl, h2, f2⟩;
            (have f12 : Fr r q w w2 := f1.trans f2);
            (have ow2 : Hid (OwnL (w2.alloc (objVr x)) w.heap.size 75 2 va vc (l.map Vr.cells)) := own_keep ow fun b hb => by
              have hbb := blk_lt ow b hb
              exact ((boxed _ _).block b (Nat.lt_of_lt_of_le hbb.2 f2.size)).trans (f2.block b hbb.2 (by omega) (by omega)));
            (have hrow : Hid (Rows (w2.alloc (objVr x)) 2 (some ⟨w2.heap.size, 0, none⟩) 1 [Vr.cells x]) := rows_one (heap_alloc_new w2 _) rfl);
            (have hbs : Hid (w.heap.size ≤ (w2.alloc (objVr x)).heap.size) := by have := f12.size; simp only [Hid, World.size_alloc]; omega))
        | (at_builtin; (refine wpList_app rfl (.tmp 13) (.tmp 16) 22 rfl w.heap.size 75 i5 _ 2 16 Tryz.underlying22 hi5 hz5 hs5 hb5 rfl (by decide) va vc (l.map Vr.cells) (by rw [List.length_map, hlen.out]; rfl) ow2.out (some ⟨w2.heap.size, 0, none⟩) 1 [Vr.cells x] rfl hrow.out (len2 [x]) (one2 [x]) (by have := hlen.out; unfold maxLen; simp only [List.length_map, List.length_singleton]; omega) (by have := hlen.out; simp only [List.length_map, List.length_singleton]; omega) hbs.out ?_); intro va' vc' w3 ho3 hk3 hB3 hbl3; simp only [List.length_append, List.length_map, List.length_singleton] at ⊢))
      go_roundw
      case rel =>
        have hva : ∀ b, b < w.heap.size → b ∉ blk va := fun b hb hm => by have := (blk_lt ow b hm).1; omega
        have hsz : w2.heap.size + 1 ≤ w3.heap.size := by have := hB3.size; rw [World.size_alloc] at this; exact this
        have k3 : ∀ b, b < w2.heap.size → b ∉ blk va → w3.heap[b]? = w2.heap[b]? := fun b hb hm => (hk3 b (by rw [World.size_alloc]; omega) hm).trans ((boxed _ _).block b hb)
        have h3 : RdS w3 r q ba bc n f t := h2.keep (fun b hh => by
          have : b < w.heap.size := by rcases hh with e | e | e; exact e ▸ hltr; exact e ▸ hltq; exact hlb.out b e
          exact k3 b (by have := f12.size; omega) (hva b this)) (by omega)
        have f3 : Fr r q w w3 := ⟨hB3.os.trans f12.os, hB3.tape.trans f12.tape, hB3.output.trans f12.output, by have := f12.size; omega, fun b hb a1 a2 => (k3 b (by have := f12.size; omega) (hva b hb)).trans (f12.block b hb a1 a2)⟩
        exact ⟨j + 1, va', vc', by omega, by rw [hlen.out], by go_num, by rw [hM.out, List.map_append]; exact ho3, by rw [hM.out]; exact h3, f3⟩
      case measure => simp [intOf]; omega
    · have hj2 : j = N := by omega
      subst hj2
      have hlen : Hid ((rdMany (rdVar f n) j s0).1.length = j) := many_len _ _ _
      go_wp2
      go_ret
      exact ⟨va, vc, by rw [hlen.out]; rfl, ow, h1, f1⟩
set_option maxHeartbeats 4000000 in
theorem list_Int (h : RdS w r q ba bc n f s) (m : Int) (hm0 : 0 ≤ m) (hm : m ≤ 1000) :
    Calls Tryz.prog 67 #[.pointer (some ⟨r, 0, none⟩), .int .u64 m, .func (.func 66) #[.pointer (some ⟨r, 0, none⟩)] #[]] w fun e w' => ∃ a cap, e = .returned (.slice a (rdList f n m (rdNum f n) s).1.length cap) ∧ OwnL w' w.heap.size 3 1 a cap ((rdList f n m (rdNum f n) s).1.map chCells) ∧ RdS w' r q ba bc n f (rdList f n m (rdNum f n) s).2 ∧ Fr r q w w' := by
  have c1 : Calls Tryz.prog 93 #[.pointer (some ⟨r, 0, none⟩), .int .u64 m] w _ := count_r h m hm0 hm
  obtain ⟨i5, hi5, hz5, hs5, hb5⟩ := info_of infoN
  have hrg := rdCnt_range h.row.2.1 m hm0 s (n := n)
  obtain ⟨N, hN⟩ : ∃ N : Nat, (rdCnt f n m s).1 = N := ⟨_, (Int.toNat_of_nonneg hrg.1).symm⟩
  obtain ⟨s0, hs0⟩ : ∃ s0, (rdCnt f n m s).2 = s0 := ⟨_, rfl⟩
  have hL : rdList f n m (rdNum f n) s = rdMany (rdNum f n) N s0 := by unfold rdList; rw [hN, hs0]; rfl
  have hNm : N ≤ 1000 := by omega
  rw [hL]
  rw [hN, hs0] at c1
  have hltr := h.ltr
  have hltq := h.ltq
  have hlb : Hid (∀ b ∈ blk ba, b < w.heap.size) := fun b hb => (h.bl b hb).2.2
  clear h hL hN hs0 hrg
  go_enter Tryz.func67, Tryz.ntmps67
  go_wp2_with (go_at_call 93; (with_reducible refine c1.mono ?_); rintro e w1 ⟨rfl, h1, f1⟩)
  go_loopw [7, 11] (fun u v wr => ∃ (j : Nat) (va : Option Addr) (vc : Nat), j ≤ N ∧ u = .slice va j vc ∧ v = .int .i64 j ∧ OwnL wr w.heap.size 3 1 va vc ((rdMany (rdNum f n) j s0).1.map chCells) ∧ RdS wr r q ba bc n f (rdMany (rdNum f n) j s0).2 ∧ Fr r q w wr) (fun _ v _ => N - (intOf v).toNat)
  case atStart => exact ⟨0, none, 0, Nat.zero_le _, rfl, rfl, own_nil _ _ _ _, h1, f1⟩
  case round =>
    clear h1 f1 c1
    obtain ⟨j, va, vc, hj, rfl, rfl, ow, h1, f1⟩ := hrel
    by_cases hlt : j < N
    · have hlen : Hid ((rdMany (rdNum f n) j s0).1.length = j) := many_len _ _ _
      have hjI : (j : Int) < N := by omega
      have c2 : Calls Tryz.prog 66 #[.pointer (some ⟨r, 0, none⟩)] wr _ := number_r h1
      have hM : Hid (rdMany (rdNum f n) (j + 1) s0 = ((rdMany (rdNum f n) j s0).1 ++ [((rdNum f n) (rdMany (rdNum f n) j s0).2).1], ((rdNum f n) (rdMany (rdNum f n) j s0).2).2)) := rfl
      generalize ((rdNum f n) (rdMany (rdNum f n) j s0).2).1 = x at *
      generalize ((rdNum f n) (rdMany (rdNum f n) j s0).2).2 = t at *
      generalize (rdMany (rdNum f n) j s0).1 = l at *
      clear h1
      go_wp2_with (first
        | (go_at_call 66; (with_reducible refine c2.mono ?_); rintro e w2 ⟨rfl, h2, f2⟩;
            (have f12 : Fr r q w w2 := f1.trans f2);
            (have ow2 : Hid (OwnL (w2.alloc (.cells #[.int .i64 x] 3)) w.heap.size 3 1 va vc (l.map chCells)) := own_keep ow fun b hb => by
              have hbb := blk_lt ow b hb
              exact ((boxed _ _).block b (Nat.lt_of_lt_of_le hbb.2 f2.size)).trans (f2.block b hbb.2 (by omega) (by omega)));
            (have hrow : Hid (Rows (w2.alloc (.cells #[.int .i64 x] 3)) 1 (some ⟨w2.heap.size, 0, none⟩) 1 [chCells x]) := rows_one (heap_alloc_new w2 _) rfl);
            (have hbs : Hid (w.heap.size ≤ (w2.alloc (.cells #[.int .i64 x] 3)).heap.size) := by have := f12.size; simp only [Hid, World.size_alloc]; omega))
        | (at_builtin; (refine wpList_app rfl (.tmp 13) (.tmp 16) 23 rfl w.heap.size 3 i5 _ 1 8 Tryz.underlying23 hi5 hz5 hs5 hb5 rfl (by decide) va vc (l.map chCells) (by rw [List.length_map, hlen.out]; rfl) ow2.out (some ⟨w2.heap.size, 0, none⟩) 1 [chCells x] rfl hrow.out (len1 [x]) (one1 [x]) (by have := hlen.out; unfold maxLen; simp only [List.length_map, List.length_singleton]; omega) (by have := hlen.out; simp only [List.length_map, List.length_singleton]; omega) hbs.out ?_); intro va' vc' w3 ho3 hk3 hB3 hbl3; simp only [List.length_append, List.length_map, List.length_singleton] at ⊢))
      go_roundw
      case rel =>
        have hva : ∀ b, b < w.heap.size → b ∉ blk va := fun b hb hm => by have := (blk_lt ow b hm).1; omega
        have hsz : w2.heap.size + 1 ≤ w3.heap.size := by have := hB3.size; rw [World.size_alloc] at this; exact this
        have k3 : ∀ b, b < w2.heap.size → b ∉ blk va → w3.heap[b]? = w2.heap[b]? := fun b hb hm => (hk3 b (by rw [World.size_alloc]; omega) hm).trans ((boxed _ _).block b hb)
        have h3 : RdS w3 r q ba bc n f t := h2.keep (fun b hh => by
          have : b < w.heap.size := by rcases hh with e | e | e; exact e ▸ hltr; exact e ▸ hltq; exact hlb.out b e
          exact k3 b (by have := f12.size; omega) (hva b this)) (by omega)
        have f3 : Fr r q w w3 := ⟨hB3.os.trans f12.os, hB3.tape.trans f12.tape, hB3.output.trans f12.output, by have := f12.size; omega, fun b hb a1 a2 => (k3 b (by have := f12.size; omega) (hva b hb)).trans (f12.block b hb a1 a2)⟩
        exact ⟨j + 1, va', vc', by omega, by rw [hlen.out], by go_num, by rw [hM.out, List.map_append]; exact ho3, by rw [hM.out]; exact h3, f3⟩
      case measure => simp [intOf]; omega
    · have hj2 : j = N := by omega
      subst hj2
      have hlen : Hid ((rdMany (rdNum f n) j s0).1.length = j) := many_len _ _ _
      go_wp2
      go_ret
      exact ⟨va, vc, by rw [hlen.out]; rfl, ow, h1, f1⟩
set_option maxHeartbeats 4000000 in
theorem list_Case (h : RdS w r q ba bc n f s) (m : Int) (hm0 : 0 ≤ m) (hm : m ≤ 1000) :
    Calls Tryz.prog 118 #[.pointer (some ⟨r, 0, none⟩), .int .u64 m, .func (.func 119) #[.pointer (some ⟨r, 0, none⟩)] #[]] w fun e w' => ∃ a cap, e = .returned (.slice a (rdList f n m (rdCas f n) s).1.length cap) ∧ OwnL w' w.heap.size 101 4 a cap ((rdList f n m (rdCas f n) s).1.map Cas.cells) ∧ RdS w' r q ba bc n f (rdList f n m (rdCas f n) s).2 ∧ Fr r q w w' := by
  have c1 : Calls Tryz.prog 93 #[.pointer (some ⟨r, 0, none⟩), .int .u64 m] w _ := count_r h m hm0 hm
  obtain ⟨i5, hi5, hz5, hs5, hb5⟩ := info_of infoC
  have hrg := rdCnt_range h.row.2.1 m hm0 s (n := n)
  obtain ⟨N, hN⟩ : ∃ N : Nat, (rdCnt f n m s).1 = N := ⟨_, (Int.toNat_of_nonneg hrg.1).symm⟩
  obtain ⟨s0, hs0⟩ : ∃ s0, (rdCnt f n m s).2 = s0 := ⟨_, rfl⟩
  have hL : rdList f n m (rdCas f n) s = rdMany (rdCas f n) N s0 := by unfold rdList; rw [hN, hs0]; rfl
  have hNm : N ≤ 1000 := by omega
  rw [hL]
  rw [hN, hs0] at c1
  have hltr := h.ltr
  have hltq := h.ltq
  have hlb : Hid (∀ b ∈ blk ba, b < w.heap.size) := fun b hb => (h.bl b hb).2.2
  clear h hL hN hs0 hrg
  go_enter Tryz.func118, Tryz.ntmps118
  go_wp2_with (go_at_call 93; (with_reducible refine c1.mono ?_); rintro e w1 ⟨rfl, h1, f1⟩)
  go_loopw [7, 11] (fun u v wr => ∃ (j : Nat) (va : Option Addr) (vc : Nat), j ≤ N ∧ u = .slice va j vc ∧ v = .int .i64 j ∧ OwnL wr w.heap.size 101 4 va vc ((rdMany (rdCas f n) j s0).1.map Cas.cells) ∧ RdS wr r q ba bc n f (rdMany (rdCas f n) j s0).2 ∧ Fr r q w wr) (fun _ v _ => N - (intOf v).toNat)
  case atStart => exact ⟨0, none, 0, Nat.zero_le _, rfl, rfl, own_nil _ _ _ _, h1, f1⟩
  case round =>
    clear h1 f1 c1
    obtain ⟨j, va, vc, hj, rfl, rfl, ow, h1, f1⟩ := hrel
    by_cases hlt : j < N
    · have hlen : Hid ((rdMany (rdCas f n) j s0).1.length = j) := many_len _ _ _
      have hjI : (j : Int) < N := by omega
      have c2 : Calls Tryz.prog 119 #[.pointer (some ⟨r, 0, none⟩)] wr _ := branch_r h1
      have hM : Hid (rdMany (rdCas f n) (j + 1) s0 = ((rdMany (rdCas f n) j s0).1 ++ [((rdCas f n) (rdMany (rdCas f n) j s0).2).1], ((rdCas f n) (rdMany (rdCas f n) j s0).2).2)) := rfl
      generalize ((rdCas f n) (rdMany (rdCas f n) j s0).2).1 = x at *
      generalize ((rdCas f n) (rdMany (rdCas f n) j s0).2).2 = t at *
      generalize (rdMany (rdCas f n) j s0).1 = l at *
      clear h1
      go_wp2_with (first
        | (go_at_call 119; (with_reducible refine c2.mono ?_); rintro e w2 ⟨rfl, h2, f2⟩;
            (have f12 : Fr r q w w2 := f1.trans f2);
            (have ow2 : Hid (OwnL (w2.alloc (objC x)) w.heap.size 101 4 va vc (l.map Cas.cells)) := own_keep ow fun b hb => by
              have hbb := blk_lt ow b hb
              exact ((boxed _ _).block b (Nat.lt_of_lt_of_le hbb.2 f2.size)).trans (f2.block b hbb.2 (by omega) (by omega)));
            (have hrow : Hid (Rows (w2.alloc (objC x)) 4 (some ⟨w2.heap.size, 0, none⟩) 1 [Cas.cells x]) := rows_one (heap_alloc_new w2 _) rfl);
            (have hbs : Hid (w.heap.size ≤ (w2.alloc (objC x)).heap.size) := by have := f12.size; simp only [Hid, World.size_alloc]; omega))
        | (at_builtin; (refine wpList_app rfl (.tmp 13) (.tmp 16) 57 rfl w.heap.size 101 i5 _ 4 32 Tryz.underlying57 hi5 hz5 hs5 hb5 rfl (by decide) va vc (l.map Cas.cells) (by rw [List.length_map, hlen.out]; rfl) ow2.out (some ⟨w2.heap.size, 0, none⟩) 1 [Cas.cells x] rfl hrow.out (len4 [x]) (one4 [x]) (by have := hlen.out; unfold maxLen; simp only [List.length_map, List.length_singleton]; omega) (by have := hlen.out; simp only [List.length_map, List.length_singleton]; omega) hbs.out ?_); intro va' vc' w3 ho3 hk3 hB3 hbl3; simp only [List.length_append, List.length_map, List.length_singleton] at ⊢))
      go_roundw
      case rel =>
        have hva : ∀ b, b < w.heap.size → b ∉ blk va := fun b hb hm => by have := (blk_lt ow b hm).1; omega
        have hsz : w2.heap.size + 1 ≤ w3.heap.size := by have := hB3.size; rw [World.size_alloc] at this; exact this
        have k3 : ∀ b, b < w2.heap.size → b ∉ blk va → w3.heap[b]? = w2.heap[b]? := fun b hb hm => (hk3 b (by rw [World.size_alloc]; omega) hm).trans ((boxed _ _).block b hb)
        have h3 : RdS w3 r q ba bc n f t := h2.keep (fun b hh => by
          have : b < w.heap.size := by rcases hh with e | e | e; exact e ▸ hltr; exact e ▸ hltq; exact hlb.out b e
          exact k3 b (by have := f12.size; omega) (hva b this)) (by omega)
        have f3 : Fr r q w w3 := ⟨hB3.os.trans f12.os, hB3.tape.trans f12.tape, hB3.output.trans f12.output, by have := f12.size; omega, fun b hb a1 a2 => (k3 b (by have := f12.size; omega) (hva b hb)).trans (f12.block b hb a1 a2)⟩
        exact ⟨j + 1, va', vc', by omega, by rw [hlen.out], by go_num, by rw [hM.out, List.map_append]; exact ho3, by rw [hM.out]; exact h3, f3⟩
      case measure => simp [intOf]; omega
    · have hj2 : j = N := by omega
      subst hj2
      have hlen : Hid ((rdMany (rdCas f n) j s0).1.length = j) := many_len _ _ _
      go_wp2
      go_ret
      exact ⟨va, vc, by rw [hlen.out]; rfl, ow, h1, f1⟩
end
end Go.Proofs.YtonkcnaijcpfdaaGreatDoor.pg
