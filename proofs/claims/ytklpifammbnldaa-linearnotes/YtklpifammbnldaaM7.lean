/- Accesses as keys of a map: how an object is touched by a list of accesses. -/
import Derived.Test.YtklpifammbnldaaM6
import Derived.Test.YtklpifammbnldaaM3
import Derived.Maps.OwnOps
import Derived.Maps.OwnSet
import Derived.DeepKeys4
import Derived.MapViews
import Derived.Test.YtklpifammbnldaaM5
import Derived.BigRegion
import Derived.Deep.DeepCutAuto
import Derived.Laws.CopyOwn
namespace Go.Proofs.Ytklpifammbnldaa.pg
open Go.ChangeShapes Go.WideShapes Go.ChangeAt Go.RowKit
open Go.Maps (Keyed IsMap)
set_option linter.unusedVariables false
set_option linter.unusedSimpArgs false
set_option maxRecDepth 100000
/-- How an access touches its object. -/
def hw (x : Acc) : Int := if x.wr then 2 else 1
/-- How a list of accesses touches an object: 0 not at all, 1 read, 2 written. -/
def mark : List Acc → Int → Int → Int
  | [], _, _ => 0
  | x :: l, k, n => if x.kind = k ∧ x.num = n then max (mark l k n) (hw x) else mark l k n
theorem mark_snoc (l : List Acc) (x : Acc) (k n : Int) : mark (l ++ [x]) k n = if x.kind = k ∧ x.num = n then max (mark l k n) (hw x) else mark l k n := by
  induction l with
  | nil => simp [mark]
  | cons y l ih =>
    simp only [List.cons_append, mark]
    rw [ih]
    by_cases h : x.kind = k ∧ x.num = n
    · by_cases g : y.kind = k ∧ y.num = n
      · simp only [if_pos h, if_pos g]; omega
      · simp only [if_pos h, if_neg g]
    · simp only [if_neg h]
theorem mark_bd (l : List Acc) (k n : Int) : 0 ≤ mark l k n ∧ mark l k n ≤ 2 := by
  induction l with
  | nil => simp [mark]
  | cons y l ih =>
    simp only [mark]
    split
    · unfold hw; split <;> omega
    · exact ih
theorem mark_none (l : List Acc) (k n : Int) (h : ∀ x ∈ l, ¬ (x.kind = k ∧ x.num = n)) : mark l k n = 0 := by
  induction l with
  | nil => rfl
  | cons y l ih =>
    simp only [mark]
    rw [if_neg (h y (by simp)), ih fun x hx => h x (by simp [hx])]
theorem mark_some (l : List Acc) (x : Acc) (hx : x ∈ l) : hw x ≤ mark l x.kind x.num := by
  induction l with
  | nil => simp at hx
  | cons y l ih =>
    simp only [mark]
    rcases List.mem_cons.mp hx with rfl | h
    · rw [if_pos ⟨rfl, rfl⟩]; omega
    · have := ih h
      split <;> omega
theorem mark_two (l : List Acc) (k n : Int) (h : mark l k n = 2) : ∃ x ∈ l, (x.kind = k ∧ x.num = n) ∧ x.wr = true := by
  induction l with
  | nil => simp [mark] at h
  | cons y l ih =>
    simp only [mark] at h
    split at h
    · rename_i g
      by_cases w : y.wr = true
      · exact ⟨y, by simp, g, w⟩
      · have : hw y = 1 := by unfold hw; rw [if_neg w]
        rw [this] at h
        obtain ⟨x, hx, q⟩ := ih (by omega)
        exact ⟨x, by simp [hx], q⟩
    · obtain ⟨x, hx, q⟩ := ih h
      exact ⟨x, by simp [hx], q⟩
theorem mark_pos (l : List Acc) (k n : Int) (h : 0 < mark l k n) : ∃ x ∈ l, x.kind = k ∧ x.num = n := by
  apply Classical.byContradiction
  intro q
  rw [mark_none l k n fun x hx g => q ⟨x, hx, g⟩] at h
  omega
/-- Whether an access meets one of a list. -/
theorem mark_meets (l : List Acc) (y : Acc) : (0 < mark l y.kind y.num ∧ max (mark l y.kind y.num) (hw y) = 2) ↔ ∃ x ∈ l, meets x y = true := by
  constructor
  · rintro ⟨h1, h2⟩
    by_cases w : y.wr = true
    · obtain ⟨x, hx, a, b⟩ := mark_pos _ _ _ h1
      exact ⟨x, hx, by simp [meets, a, b, w]⟩
    · have : hw y = 1 := by unfold hw; rw [if_neg w]
      rw [this] at h2
      obtain ⟨x, hx, ⟨a, b⟩, c⟩ := mark_two l y.kind y.num (by omega)
      exact ⟨x, hx, by simp [meets, a, b, c]⟩
  · rintro ⟨x, hx, h⟩
    simp only [meets, Bool.and_eq_true, beq_iff_eq, Bool.or_eq_true] at h
    obtain ⟨⟨a, b⟩, c⟩ := h
    have h1 := mark_some l x hx
    rw [a, b] at h1
    have h2 := mark_bd l y.kind y.num
    have h3 : 1 ≤ hw x ∧ hw x ≤ 2 := by unfold hw; split <;> omega
    have h4 : 1 ≤ hw y ∧ hw y ≤ 2 := by unfold hw; split <;> omega
    refine ⟨by omega, ?_⟩
    rcases c with c | c
    · have : hw x = 2 := by unfold hw; rw [if_pos c]
      omega
    · have : hw y = 2 := by unfold hw; rw [if_pos c]
      omega
/-- The key of an object. -/
abbrev objV (k n : Int) : Value := .agg #[.int .i64 k, .int .i64 n, .bool false]
theorem law : Keyed Try.prog 89 := Keyed.of_law (deep_law_laid (by kernel_rfl) (m := 3) (by omega) (of_decide_eq_true (by kernel_rfl)) (by kernel_rfl) (by rw [Try.underlying89]))
theorem zero0 (w : World) : (zeroValue 3).run Try.prog w = .ok (.int .i64 0) w := by kernel_rfl
theorem wf_of {z : Int} (h : I64 z) : (Lit.int .i64 z).wf = true := by
  simp [Lit.wf, IntKind.min, IntKind.max, IntKind.bits, IntKind.signed]
  exact h
theorem key_ex (k n : Int) (hk : I64 k) (hn : I64 n) : ∃ l, keyOf Try.prog 89 (objV k n) = some l := by
  have h1 : Try.prog.keyTypeAt (Try.prog.types.size + 1) 89 = true := by kernel_rfl
  have hc : Try.prog.cellsOf 89 = 3 := by kernel_rfl
  have hc1 : Try.prog.cellsOf 3 = 1 := by kernel_rfl
  have hc2 : Try.prog.cellsOf 4 = 1 := by kernel_rfl
  have hf : (objV k n).formed Try.prog 89 = true := by simp [Value.formed, Try.underlying89, hc]
  have ht : DataW.Trod (H := Unit) (fun _ => ()) Try.prog default 0 (fun _ => true) true 89 (objV k n) (.agg [.lit (.int .i64 k), .lit (.int .i64 n), .lit (.bool false)]) [] :=
    ⟨2, by simp [DataW.trod, Value.cells, Try.underlying89, Try.underlying3, Try.underlying4, hc, hc1, hc2, wf_of hk, wf_of hn]⟩
  exact ⟨_, (keyOf_asKey h1 (by rw [Try.underlying89]) hf ht).1⟩
/-- A map that says how objects are touched. -/
def MapSt (w : World) (b n : Nat) (f : Int → Int → Int) : Prop :=
  ∃ D : DataW Unit, w.ownsMap Try.prog 89 (plainElem Try.prog 3) b n D ∧ IsMap D ∧ ∀ x y l, keyOf Try.prog 89 (objV x y) = some l → D.atKey l (.lit (.int .i64 0)) = .lit (.int .i64 (f x y))
theorem mapst_new (w : World) : MapSt (w.alloc (.map #[] 0)) w.heap.size 0 (fun _ _ => 0) :=
  ⟨.map [], World.ownsMap_made _ _ _ _, Go.Maps.isMap_empty, fun x y l _ => rfl⟩
theorem MapSt.kept {w w' : World} {b n : Nat} {f : Int → Int → Int} (h : MapSt w b n f) (hb : Below w.heap.size w w') : MapSt w' b n f := by
  obtain ⟨D, ⟨es, c, h1, h2⟩, h3⟩ := h
  exact ⟨D, ⟨es, c, (hb.block b (Array.getElem?_eq_some_iff.mp h1).1).trans h1, h2⟩, h3⟩
theorem MapSt.lt {w : World} {b n : Nat} {f : Int → Int → Int} (h : MapSt w b n f) : b < w.heap.size := by
  obtain ⟨D, ⟨es, c, h1, h2⟩, h3⟩ := h
  exact (Array.getElem?_eq_some_iff.mp h1).1
end Go.Proofs.Ytklpifammbnldaa.pg
/- A store of one cell, what is left under a name of its own. -/
namespace Go.Proofs.Ytklpifammbnldaa.pg
open Go.ChangeShapes Go.WideShapes Go.ChangeAt Go.RowKit
set_option linter.unusedVariables false
set_option linter.unusedSimpArgs false
theorem wpList_puti {P : Program} {ops : Array Oper} {rest : List Oper} {o : Oper} {a : Act} {w : World} {Q : Exit → Act → World → Prop} (hgd : o.guard = none) (ty : TypeId) (x y : Operand) (ho : o.op = .store ty x y) (ad : Addr) (hx : a.eval x = .pointer (some ad)) (n : Int) (hy : a.eval y = (.int .i64 n)) (hi : (P.info? ty).map (·.size) = some 1) (v : Value) (hc : w.cell? ad = some v) (hf : w.frozen? ad = false)
    (h : ∀ W', W' = w.setCell ad (.int .i64 n) → wpList P ops Q rest (a.put o.dst undef) W') : wpList P ops Q (o :: rest) a w := wpList_plain hgd fun K hK => by
  have hr : (execOp a.eval o).run P w = .ok .skip (w.setCell ad (.int .i64 n)) := by
    cases hq : P.info? ty with
    | none => simp [hq] at hi
    | some i =>
      have hs : i.size = 1 := by simpa [hq] using hi
      unfold execOp
      simp only [ho, hx, hy]
      simp [Instr.storeAt, Instr.sureAddr, storeVar, sizeOf, typeInfo, hq, hs, Value.cells, go_sem, hc, hf]
  unfold Oper.wp
  rw [hr]
  exact hK _ _ (h _ rfl)
theorem wpList_putb {P : Program} {ops : Array Oper} {rest : List Oper} {o : Oper} {a : Act} {w : World} {Q : Exit → Act → World → Prop} (hgd : o.guard = none) (ty : TypeId) (x y : Operand) (ho : o.op = .store ty x y) (ad : Addr) (hx : a.eval x = .pointer (some ad)) (b : Bool) (hy : a.eval y = (.bool b)) (hi : (P.info? ty).map (·.size) = some 1) (v : Value) (hc : w.cell? ad = some v) (hf : w.frozen? ad = false)
    (h : ∀ W', W' = w.setCell ad (.bool b) → wpList P ops Q rest (a.put o.dst undef) W') : wpList P ops Q (o :: rest) a w := wpList_plain hgd fun K hK => by
  have hr : (execOp a.eval o).run P w = .ok .skip (w.setCell ad (.bool b)) := by
    cases hq : P.info? ty with
    | none => simp [hq] at hi
    | some i =>
      have hs : i.size = 1 := by simpa [hq] using hi
      unfold execOp
      simp only [ho, hx, hy]
      simp [Instr.storeAt, Instr.sureAddr, storeVar, sizeOf, typeInfo, hq, hs, Value.cells, go_sem, hc, hf]
  unfold Oper.wp
  rw [hr]
  exact hK _ _ (h _ rfl)
theorem wpList_puts {P : Program} {ops : Array Oper} {rest : List Oper} {o : Oper} {a : Act} {w : World} {Q : Exit → Act → World → Prop} (hgd : o.guard = none) (ty : TypeId) (x y : Operand) (ho : o.op = .store ty x y) (ad : Addr) (hx : a.eval x = .pointer (some ad)) (g : Option Addr) (n cap : Nat) (hy : a.eval y = (.slice g n cap)) (hi : (P.info? ty).map (·.size) = some 1) (v : Value) (hc : w.cell? ad = some v) (hf : w.frozen? ad = false)
    (h : ∀ W', W' = w.setCell ad (.slice g n cap) → wpList P ops Q rest (a.put o.dst undef) W') : wpList P ops Q (o :: rest) a w := wpList_plain hgd fun K hK => by
  have hr : (execOp a.eval o).run P w = .ok .skip (w.setCell ad (.slice g n cap)) := by
    cases hq : P.info? ty with
    | none => simp [hq] at hi
    | some i =>
      have hs : i.size = 1 := by simpa [hq] using hi
      unfold execOp
      simp only [ho, hx, hy]
      simp [Instr.storeAt, Instr.sureAddr, storeVar, sizeOf, typeInfo, hq, hs, Value.cells, go_sem, hc, hf]
  unfold Oper.wp
  rw [hr]
  exact hK _ _ (h _ rfl)
end Go.Proofs.Ytklpifammbnldaa.pg
/- What is in a thing, and what may be done to it: package linear's six deeds. -/
namespace Go.Proofs.Ytklpifammbnldaa.pg
open Go.ChangeShapes Go.WideShapes Go.ChangeAt Go.RowKit
set_option linter.unusedVariables false
set_option linter.unusedSimpArgs false
set_option maxRecDepth 100000
attribute [local go_sem ↓] Go.wp_at_zero Go.wp_at_succ
/-- What is in a thing, as it lies. -/
def vC (c : List Int) : Array Value := #[.int .i64 (c.getD 0 0), .int .i64 (c.getD 1 0), .int .i64 (c.getD 2 0), .int .i64 (c.getD 3 0), .int .i64 (c.getD 4 0), .int .i64 (c.getD 5 0), .int .i64 (c.getD 6 0), .int .i64 (c.getD 7 0), .int .i64 (c.length : Int)]
theorem vC_size (c : List Int) : (vC c).size = 9 := rfl
theorem vC_one (c : List Int) : (vC c).all (·.oneCell') = true := by simp [vC, Value.oneCell']
abbrev z9 : Array Value := #[.int .i64 0, .int .i64 0, .int .i64 0, .int .i64 0, .int .i64 0, .int .i64 0, .int .i64 0, .int .i64 0, .int .i64 0]
abbrev aV (o : Int) (e : Bool) : Array Value := #[.int .i64 o, .bool e]
abbrev TC : TypeId := 59
abbrev TA : TypeId := 127
theorem infoC9 : (Try.prog.info? 59).map (·.size) = some 9 := by kernel_rfl
theorem infoC (c : List Int) : (Try.prog.info? 59).map (·.size) = some (vC c).size := by rw [vC_size]; kernel_rfl
theorem infoAn : (Try.prog.info? 127).map (·.size) = some 2 := by kernel_rfl
/-- How a deed stands: its thing, and both of its answers. -/
structure C3 (w W : World) (r o t : Array Value) : Prop where
  r : W.heap[w.heap.size]? = some (.cells r TC)
  o : W.heap[w.heap.size + 1]? = some (.cells o TC)
  t : W.heap[w.heap.size + 1 + 1]? = some (.cells t TA)
  b : Below w.heap.size w W
theorem C3.start (w : World) (r : Array Value) : C3 w (((w.alloc (.cells r TC)).alloc (.cells z9 TC)).alloc (.cells (aV 0 false) TA)) r z9 (aV 0 false) := by
  have n2 := heap_alloc_new (w.alloc (.cells r TC)) (.cells z9 TC)
  have n3 := heap_alloc_new ((w.alloc (.cells r TC)).alloc (.cells z9 TC)) (.cells (aV 0 false) TA)
  rw [World.size_alloc] at n2
  rw [World.size_alloc, World.size_alloc] at n3
  exact ⟨blk_on (blk_on (heap_alloc_new _ _) (boxed _ _)) (boxed _ _), blk_on n2 (boxed _ _), n3, bthen (bthen (boxed _ _) (boxed _ _)) (boxed _ _)⟩
theorem C3.later {w W W' : World} {r o t : Array Value} (h : C3 w W r o t) (hb : Below W.heap.size W W') : C3 w W' r o t := ⟨blk_on h.r hb, blk_on h.o hb, blk_on h.t hb, bthen h.b hb⟩
theorem C3.set {w W : World} {r o t : Array Value} (h : C3 w W r o t) (k : Nat) (v : Value) : C3 w (W.setCell ⟨w.heap.size, k, none⟩ v) (r.setIfInBounds k v) o t := by
  rw [setCell_eq_setRow W w.heap.size k _ _ _ _ h.r]
  exact ⟨setRow_heap W w.heap.size _ _ _ _ h.r, (setRow_other _ _ _ _ (by omega)).trans h.o, (setRow_other _ _ _ _ (by omega)).trans h.t, below_setRow h.b (Nat.le_refl _) _⟩
theorem C3.row {w W : World} {r o t : Array Value} (h : C3 w W r o t) (o' : Array Value) : C3 w (W.setRow (w.heap.size + 1) o') r o' t :=
  ⟨(setRow_other _ _ _ _ (by omega)).trans h.r, setRow_heap W _ _ _ _ _ h.o, (setRow_other _ _ _ _ (by omega)).trans h.t, below_setRow h.b (by omega) _⟩
theorem C3.ans {w W : World} {r o t : Array Value} (h : C3 w W r o t) (t' : Array Value) : C3 w (W.setRow (w.heap.size + 1 + 1) t') r o t' :=
  ⟨(setRow_other _ _ _ _ (by omega)).trans h.r, (setRow_other _ _ _ _ (by omega)).trans h.o, setRow_heap W _ _ _ _ _ h.t, below_setRow h.b (by omega) _⟩
theorem C3.frz {w W : World} {r o t : Array Value} (h : C3 w W r o t) (k : Nat) : W.frozen? ⟨w.heap.size, k, none⟩ = false := frozen_of_row _ _ _ _ _ h.r
theorem ix8 (B k : Nat) (hk : k < 8) : ∀ wx, (Instr.indexAt 57 (.pointer (some ⟨B, 0, none⟩)) (.int .i64 (k : Int))).run Try.prog wx = .ok (.pointer (some ⟨B, k, none⟩)) wx := fun wx => by
  have u := Try.underlying57
  have z := Try.sizeOf2
  have h8 : k = 0 ∨ k = 1 ∨ k = 2 ∨ k = 3 ∨ k = 4 ∨ k = 5 ∨ k = 6 ∨ k = 7 := by omega
  rcases h8 with rfl | rfl | rfl | rfl | rfl | rfl | rfl | rfl
  all_goals simp [Instr.indexAt, run_underlying u, asIntOf, go_sem, z]
theorem res_ca {fn : Func} {p q : Tmp} (h : fn.results = #[.cell p 59, .cell q 127]) (tmps : Array Value) {w W : World} {r o t : Array Value} (hs : C3 w W r o t) (ho : o.size = 9) (ht : t.size = 2)
    (hp : tmps[p]?.getD undef = .pointer (some ⟨w.heap.size + 1, 0, none⟩)) (hq : tmps[q]?.getD undef = .pointer (some ⟨w.heap.size + 1 + 1, 0, none⟩)) : (results fn tmps).run Try.prog W = .ok (.tuple #[.agg o, .agg t]) W := by
  simp [results, h, hp, hq, asAddr, run_loadVar_row W _ _ 59 _ _ _ hs.o Try.underlying59 rfl (by rw [ho]; exact infoC9), run_loadVar_row W _ _ 127 _ _ _ hs.t Try.underlying127 rfl (by rw [ht]; exact infoAn)]
/-- What a deed answers. -/
def DeedR (f : Nat) (c : List Int) (inn : Int) (r : List Int × Int × Bool) : Prop := ∀ w, Calls Try.prog f #[.agg (vC c), .int .i64 inn] w fun e w' => e = .returned (.tuple #[.agg (vC r.1), .agg (aV r.2.1 r.2.2)]) ∧ Below w.heap.size w w'
set_option maxHeartbeats 1000000 in
theorem write_d (a0 inn : Int) : DeedR 59 ([a0] : List Int) inn ([inn], 0, false) := by
  intro w
  have huC : Hid (Try.prog.underlying 59 = _) := Try.underlying59
  have s0 : Hid (C3 w _ _ _ _) := C3.start w (vC ([a0] : List Int))
  go_enter Try.func59, Try.ntmps59
  go_upto_region 1 with fail
  generalize ((w.alloc (.cells (vC ([a0] : List Int)) TC)).alloc (.cells z9 TC)).alloc (.cells (aV 0 false) TA) = W at *
  have x0 : ∀ wx, (Instr.indexAt 57 (.pointer (some ⟨w.heap.size, 0, none⟩)) (.int .i64 0)).run Try.prog wx = .ok (.pointer (some ⟨w.heap.size, 0, none⟩)) wx := ix8 w.heap.size 0 (by omega)
  go_wp2_with (first
    | (refine wpList_puti rfl 2 _ _ rfl ⟨w.heap.size, 0, none⟩ rfl inn rfl (by kernel_rfl) _ (cell_lc (k := 0) s0.out.r rfl) (s0.out.frz 0) fun W1 hW1 => ?_; (have s1 : Hid (C3 w W1 (vC [inn]) z9 (aV 0 false)) := by (rw [hW1]; exact s0.out.set 0 _)); clear hW1; clear s0)
    | (refine wpList_load_row rfl 59 _ rfl w.heap.size rfl _ _ _ _ s1.out.r huC.out rfl infoC9 ?_)
    | (refine wpList_store_row rfl 59 _ _ rfl (w.heap.size + 1) (vC [inn]) rfl rfl _ _ s1.out.o infoC9 rfl (by simp [vC, Value.oneCell']) ?_; (have sO : Hid (C3 w _ _ _ _) := s1.out.row (vC [inn])); generalize World.setRow _ _ _ = WO at *)
    | (refine wpList_store_row rfl 127 _ _ rfl (w.heap.size + 1 + 1) (aV 0 false) rfl rfl _ _ sO.out.t infoAn rfl (by simp [Value.oneCell']) ?_; (have sA : Hid (C3 w _ _ _ _) := sO.out.ans (aV 0 false))))
  exact bodyPost_ret (res_ca Try.results59 _ sA.out rfl rfl rfl rfl) rfl ⟨rfl, sA.out.b⟩
set_option maxHeartbeats 1000000 in
theorem add_d (a0 inn : Int) : DeedR 60 ([a0] : List Int) inn ([wrap64 (a0 + inn)], 0, false) := by
  intro w
  have huC : Hid (Try.prog.underlying 59 = _) := Try.underlying59
  have s0 : Hid (C3 w _ _ _ _) := C3.start w (vC ([a0] : List Int))
  go_enter Try.func60, Try.ntmps60
  go_upto_region 1 with fail
  generalize ((w.alloc (.cells (vC ([a0] : List Int)) TC)).alloc (.cells z9 TC)).alloc (.cells (aV 0 false) TA) = W at *
  have x0 : ∀ wx, (Instr.indexAt 57 (.pointer (some ⟨w.heap.size, 0, none⟩)) (.int .i64 0)).run Try.prog wx = .ok (.pointer (some ⟨w.heap.size, 0, none⟩)) wx := ix8 w.heap.size 0 (by omega)
  have k0 : W.cell? ⟨w.heap.size, 0, none⟩ = some (.int .i64 a0) := cell_lc (k := 0) s0.out.r rfl
  go_wp2_with (first
    | (refine wpList_puti rfl 2 _ _ rfl ⟨w.heap.size, 0, none⟩ rfl (wrap64 (a0 + inn)) rfl (by kernel_rfl) _ (cell_lc (k := 0) s0.out.r rfl) (s0.out.frz 0) fun W1 hW1 => ?_; (have s1 : Hid (C3 w W1 (vC [wrap64 (a0 + inn)]) z9 (aV 0 false)) := by (rw [hW1]; exact s0.out.set 0 _)); clear hW1; clear s0 k0)
    | (refine wpList_load_row rfl 59 _ rfl w.heap.size rfl _ _ _ _ s1.out.r huC.out rfl infoC9 ?_)
    | (refine wpList_store_row rfl 59 _ _ rfl (w.heap.size + 1) (vC [wrap64 (a0 + inn)]) rfl rfl _ _ s1.out.o infoC9 rfl (by simp [vC, Value.oneCell']) ?_; (have sO : Hid (C3 w _ _ _ _) := s1.out.row (vC [wrap64 (a0 + inn)])); generalize World.setRow _ _ _ = WO at *)
    | (refine wpList_store_row rfl 127 _ _ rfl (w.heap.size + 1 + 1) (aV 0 false) rfl rfl _ _ sO.out.t infoAn rfl (by simp [Value.oneCell']) ?_; (have sA : Hid (C3 w _ _ _ _) := sO.out.ans (aV 0 false))))
  exact bodyPost_ret (res_ca Try.results60 _ sA.out rfl rfl rfl rfl) rfl ⟨rfl, sA.out.b⟩
set_option maxHeartbeats 1000000 in
theorem put_d0 (inn : Int) : DeedR 61 ([] : List Int) inn (([inn] : List Int), 0, false) := by
  intro w
  have huC : Hid (Try.prog.underlying 59 = _) := Try.underlying59
  have s0 : Hid (C3 w _ _ _ _) := C3.start w (vC ([] : List Int))
  go_enter Try.func61, Try.ntmps61
  go_upto_region 1 with fail
  generalize ((w.alloc (.cells (vC ([] : List Int)) TC)).alloc (.cells z9 TC)).alloc (.cells (aV 0 false) TA) = W at *
  have x0 : ∀ wx, (Instr.indexAt 57 (.pointer (some ⟨w.heap.size, 0, none⟩)) (.int .i64 0)).run Try.prog wx = .ok (.pointer (some ⟨w.heap.size, 0, none⟩)) wx := ix8 w.heap.size 0 (by omega)
  have k8 : W.cell? ⟨w.heap.size, 8, none⟩ = some (.int .i64 0) := cell_lc (k := 8) s0.out.r rfl
  go_wp2_with (first
    | (refine wpList_puti rfl 2 _ _ rfl ⟨w.heap.size, 0, none⟩ rfl inn rfl (by kernel_rfl) _ (cell_lc (k := 0) s0.out.r rfl) (s0.out.frz 0) fun W1 hW1 => ?_; (have s1 : Hid (C3 w W1 #[.int .i64 inn, .int .i64 0, .int .i64 0, .int .i64 0, .int .i64 0, .int .i64 0, .int .i64 0, .int .i64 0, .int .i64 0] z9 (aV 0 false)) := by (rw [hW1]; exact s0.out.set 0 _)); clear hW1; clear s0 k8; (have k8 : W1.cell? ⟨w.heap.size, 8, none⟩ = some (.int .i64 0) := cell_lc (k := 8) s1.out.r rfl))
    | (refine wpList_puti rfl 3 _ _ rfl ⟨w.heap.size, 8, none⟩ rfl 1 rfl (by kernel_rfl) _ (cell_lc (k := 8) s1.out.r rfl) (s1.out.frz 8) fun W2 hW2 => ?_; (have s2 : Hid (C3 w W2 (vC ([inn] : List Int)) z9 (aV 0 false)) := by (rw [hW2]; exact s1.out.set 8 _)); clear hW2; clear s1 k8)
    | (refine wpList_load_row rfl 59 _ rfl w.heap.size rfl _ _ _ _ s2.out.r huC.out rfl infoC9 ?_)
    | (refine wpList_store_row rfl 59 _ _ rfl (w.heap.size + 1) (vC ([inn] : List Int)) rfl rfl _ _ s2.out.o infoC9 rfl (by simp [vC, Value.oneCell']) ?_; (have sO : Hid (C3 w _ _ _ _) := s2.out.row (vC ([inn] : List Int))); generalize World.setRow _ _ _ = WO at *)
    | (refine wpList_store_row rfl 127 _ _ rfl (w.heap.size + 1 + 1) (aV 0 false) rfl rfl _ _ sO.out.t infoAn rfl (by simp [Value.oneCell']) ?_; (have sA : Hid (C3 w _ _ _ _) := sO.out.ans (aV 0 false))))
  exact bodyPost_ret (res_ca Try.results61 _ sA.out rfl rfl rfl rfl) rfl ⟨rfl, sA.out.b⟩
set_option maxHeartbeats 1000000 in
theorem put_d1 (a0 inn : Int) : DeedR 61 ([a0] : List Int) inn (([a0, inn] : List Int), 0, false) := by
  intro w
  have huC : Hid (Try.prog.underlying 59 = _) := Try.underlying59
  have s0 : Hid (C3 w _ _ _ _) := C3.start w (vC ([a0] : List Int))
  go_enter Try.func61, Try.ntmps61
  go_upto_region 1 with fail
  generalize ((w.alloc (.cells (vC ([a0] : List Int)) TC)).alloc (.cells z9 TC)).alloc (.cells (aV 0 false) TA) = W at *
  have x0 : ∀ wx, (Instr.indexAt 57 (.pointer (some ⟨w.heap.size, 0, none⟩)) (.int .i64 1)).run Try.prog wx = .ok (.pointer (some ⟨w.heap.size, 1, none⟩)) wx := ix8 w.heap.size 1 (by omega)
  have k8 : W.cell? ⟨w.heap.size, 8, none⟩ = some (.int .i64 1) := cell_lc (k := 8) s0.out.r rfl
  go_wp2_with (first
    | (refine wpList_puti rfl 2 _ _ rfl ⟨w.heap.size, 1, none⟩ rfl inn rfl (by kernel_rfl) _ (cell_lc (k := 1) s0.out.r rfl) (s0.out.frz 1) fun W1 hW1 => ?_; (have s1 : Hid (C3 w W1 #[.int .i64 a0, .int .i64 inn, .int .i64 0, .int .i64 0, .int .i64 0, .int .i64 0, .int .i64 0, .int .i64 0, .int .i64 1] z9 (aV 0 false)) := by (rw [hW1]; exact s0.out.set 1 _)); clear hW1; clear s0 k8; (have k8 : W1.cell? ⟨w.heap.size, 8, none⟩ = some (.int .i64 1) := cell_lc (k := 8) s1.out.r rfl))
    | (refine wpList_puti rfl 3 _ _ rfl ⟨w.heap.size, 8, none⟩ rfl 2 rfl (by kernel_rfl) _ (cell_lc (k := 8) s1.out.r rfl) (s1.out.frz 8) fun W2 hW2 => ?_; (have s2 : Hid (C3 w W2 (vC ([a0, inn] : List Int)) z9 (aV 0 false)) := by (rw [hW2]; exact s1.out.set 8 _)); clear hW2; clear s1 k8)
    | (refine wpList_load_row rfl 59 _ rfl w.heap.size rfl _ _ _ _ s2.out.r huC.out rfl infoC9 ?_)
    | (refine wpList_store_row rfl 59 _ _ rfl (w.heap.size + 1) (vC ([a0, inn] : List Int)) rfl rfl _ _ s2.out.o infoC9 rfl (by simp [vC, Value.oneCell']) ?_; (have sO : Hid (C3 w _ _ _ _) := s2.out.row (vC ([a0, inn] : List Int))); generalize World.setRow _ _ _ = WO at *)
    | (refine wpList_store_row rfl 127 _ _ rfl (w.heap.size + 1 + 1) (aV 0 false) rfl rfl _ _ sO.out.t infoAn rfl (by simp [Value.oneCell']) ?_; (have sA : Hid (C3 w _ _ _ _) := sO.out.ans (aV 0 false))))
  exact bodyPost_ret (res_ca Try.results61 _ sA.out rfl rfl rfl rfl) rfl ⟨rfl, sA.out.b⟩
set_option maxHeartbeats 1000000 in
theorem put_d2 (a0 a1 inn : Int) : DeedR 61 ([a0, a1] : List Int) inn (([a0, a1, inn] : List Int), 0, false) := by
  intro w
  have huC : Hid (Try.prog.underlying 59 = _) := Try.underlying59
  have s0 : Hid (C3 w _ _ _ _) := C3.start w (vC ([a0, a1] : List Int))
  go_enter Try.func61, Try.ntmps61
  go_upto_region 1 with fail
  generalize ((w.alloc (.cells (vC ([a0, a1] : List Int)) TC)).alloc (.cells z9 TC)).alloc (.cells (aV 0 false) TA) = W at *
  have x0 : ∀ wx, (Instr.indexAt 57 (.pointer (some ⟨w.heap.size, 0, none⟩)) (.int .i64 2)).run Try.prog wx = .ok (.pointer (some ⟨w.heap.size, 2, none⟩)) wx := ix8 w.heap.size 2 (by omega)
  have k8 : W.cell? ⟨w.heap.size, 8, none⟩ = some (.int .i64 2) := cell_lc (k := 8) s0.out.r rfl
  go_wp2_with (first
    | (refine wpList_puti rfl 2 _ _ rfl ⟨w.heap.size, 2, none⟩ rfl inn rfl (by kernel_rfl) _ (cell_lc (k := 2) s0.out.r rfl) (s0.out.frz 2) fun W1 hW1 => ?_; (have s1 : Hid (C3 w W1 #[.int .i64 a0, .int .i64 a1, .int .i64 inn, .int .i64 0, .int .i64 0, .int .i64 0, .int .i64 0, .int .i64 0, .int .i64 2] z9 (aV 0 false)) := by (rw [hW1]; exact s0.out.set 2 _)); clear hW1; clear s0 k8; (have k8 : W1.cell? ⟨w.heap.size, 8, none⟩ = some (.int .i64 2) := cell_lc (k := 8) s1.out.r rfl))
    | (refine wpList_puti rfl 3 _ _ rfl ⟨w.heap.size, 8, none⟩ rfl 3 rfl (by kernel_rfl) _ (cell_lc (k := 8) s1.out.r rfl) (s1.out.frz 8) fun W2 hW2 => ?_; (have s2 : Hid (C3 w W2 (vC ([a0, a1, inn] : List Int)) z9 (aV 0 false)) := by (rw [hW2]; exact s1.out.set 8 _)); clear hW2; clear s1 k8)
    | (refine wpList_load_row rfl 59 _ rfl w.heap.size rfl _ _ _ _ s2.out.r huC.out rfl infoC9 ?_)
    | (refine wpList_store_row rfl 59 _ _ rfl (w.heap.size + 1) (vC ([a0, a1, inn] : List Int)) rfl rfl _ _ s2.out.o infoC9 rfl (by simp [vC, Value.oneCell']) ?_; (have sO : Hid (C3 w _ _ _ _) := s2.out.row (vC ([a0, a1, inn] : List Int))); generalize World.setRow _ _ _ = WO at *)
    | (refine wpList_store_row rfl 127 _ _ rfl (w.heap.size + 1 + 1) (aV 0 false) rfl rfl _ _ sO.out.t infoAn rfl (by simp [Value.oneCell']) ?_; (have sA : Hid (C3 w _ _ _ _) := sO.out.ans (aV 0 false))))
  exact bodyPost_ret (res_ca Try.results61 _ sA.out rfl rfl rfl rfl) rfl ⟨rfl, sA.out.b⟩
set_option maxHeartbeats 1000000 in
theorem put_d3 (a0 a1 a2 inn : Int) : DeedR 61 ([a0, a1, a2] : List Int) inn (([a0, a1, a2, inn] : List Int), 0, false) := by
  intro w
  have huC : Hid (Try.prog.underlying 59 = _) := Try.underlying59
  have s0 : Hid (C3 w _ _ _ _) := C3.start w (vC ([a0, a1, a2] : List Int))
  go_enter Try.func61, Try.ntmps61
  go_upto_region 1 with fail
  generalize ((w.alloc (.cells (vC ([a0, a1, a2] : List Int)) TC)).alloc (.cells z9 TC)).alloc (.cells (aV 0 false) TA) = W at *
  have x0 : ∀ wx, (Instr.indexAt 57 (.pointer (some ⟨w.heap.size, 0, none⟩)) (.int .i64 3)).run Try.prog wx = .ok (.pointer (some ⟨w.heap.size, 3, none⟩)) wx := ix8 w.heap.size 3 (by omega)
  have k8 : W.cell? ⟨w.heap.size, 8, none⟩ = some (.int .i64 3) := cell_lc (k := 8) s0.out.r rfl
  go_wp2_with (first
    | (refine wpList_puti rfl 2 _ _ rfl ⟨w.heap.size, 3, none⟩ rfl inn rfl (by kernel_rfl) _ (cell_lc (k := 3) s0.out.r rfl) (s0.out.frz 3) fun W1 hW1 => ?_; (have s1 : Hid (C3 w W1 #[.int .i64 a0, .int .i64 a1, .int .i64 a2, .int .i64 inn, .int .i64 0, .int .i64 0, .int .i64 0, .int .i64 0, .int .i64 3] z9 (aV 0 false)) := by (rw [hW1]; exact s0.out.set 3 _)); clear hW1; clear s0 k8; (have k8 : W1.cell? ⟨w.heap.size, 8, none⟩ = some (.int .i64 3) := cell_lc (k := 8) s1.out.r rfl))
    | (refine wpList_puti rfl 3 _ _ rfl ⟨w.heap.size, 8, none⟩ rfl 4 rfl (by kernel_rfl) _ (cell_lc (k := 8) s1.out.r rfl) (s1.out.frz 8) fun W2 hW2 => ?_; (have s2 : Hid (C3 w W2 (vC ([a0, a1, a2, inn] : List Int)) z9 (aV 0 false)) := by (rw [hW2]; exact s1.out.set 8 _)); clear hW2; clear s1 k8)
    | (refine wpList_load_row rfl 59 _ rfl w.heap.size rfl _ _ _ _ s2.out.r huC.out rfl infoC9 ?_)
    | (refine wpList_store_row rfl 59 _ _ rfl (w.heap.size + 1) (vC ([a0, a1, a2, inn] : List Int)) rfl rfl _ _ s2.out.o infoC9 rfl (by simp [vC, Value.oneCell']) ?_; (have sO : Hid (C3 w _ _ _ _) := s2.out.row (vC ([a0, a1, a2, inn] : List Int))); generalize World.setRow _ _ _ = WO at *)
    | (refine wpList_store_row rfl 127 _ _ rfl (w.heap.size + 1 + 1) (aV 0 false) rfl rfl _ _ sO.out.t infoAn rfl (by simp [Value.oneCell']) ?_; (have sA : Hid (C3 w _ _ _ _) := sO.out.ans (aV 0 false))))
  exact bodyPost_ret (res_ca Try.results61 _ sA.out rfl rfl rfl rfl) rfl ⟨rfl, sA.out.b⟩
set_option maxHeartbeats 1000000 in
theorem put_d4 (a0 a1 a2 a3 inn : Int) : DeedR 61 ([a0, a1, a2, a3] : List Int) inn (([a0, a1, a2, a3, inn] : List Int), 0, false) := by
  intro w
  have huC : Hid (Try.prog.underlying 59 = _) := Try.underlying59
  have s0 : Hid (C3 w _ _ _ _) := C3.start w (vC ([a0, a1, a2, a3] : List Int))
  go_enter Try.func61, Try.ntmps61
  go_upto_region 1 with fail
  generalize ((w.alloc (.cells (vC ([a0, a1, a2, a3] : List Int)) TC)).alloc (.cells z9 TC)).alloc (.cells (aV 0 false) TA) = W at *
  have x0 : ∀ wx, (Instr.indexAt 57 (.pointer (some ⟨w.heap.size, 0, none⟩)) (.int .i64 4)).run Try.prog wx = .ok (.pointer (some ⟨w.heap.size, 4, none⟩)) wx := ix8 w.heap.size 4 (by omega)
  have k8 : W.cell? ⟨w.heap.size, 8, none⟩ = some (.int .i64 4) := cell_lc (k := 8) s0.out.r rfl
  go_wp2_with (first
    | (refine wpList_puti rfl 2 _ _ rfl ⟨w.heap.size, 4, none⟩ rfl inn rfl (by kernel_rfl) _ (cell_lc (k := 4) s0.out.r rfl) (s0.out.frz 4) fun W1 hW1 => ?_; (have s1 : Hid (C3 w W1 #[.int .i64 a0, .int .i64 a1, .int .i64 a2, .int .i64 a3, .int .i64 inn, .int .i64 0, .int .i64 0, .int .i64 0, .int .i64 4] z9 (aV 0 false)) := by (rw [hW1]; exact s0.out.set 4 _)); clear hW1; clear s0 k8; (have k8 : W1.cell? ⟨w.heap.size, 8, none⟩ = some (.int .i64 4) := cell_lc (k := 8) s1.out.r rfl))
    | (refine wpList_puti rfl 3 _ _ rfl ⟨w.heap.size, 8, none⟩ rfl 5 rfl (by kernel_rfl) _ (cell_lc (k := 8) s1.out.r rfl) (s1.out.frz 8) fun W2 hW2 => ?_; (have s2 : Hid (C3 w W2 (vC ([a0, a1, a2, a3, inn] : List Int)) z9 (aV 0 false)) := by (rw [hW2]; exact s1.out.set 8 _)); clear hW2; clear s1 k8)
    | (refine wpList_load_row rfl 59 _ rfl w.heap.size rfl _ _ _ _ s2.out.r huC.out rfl infoC9 ?_)
    | (refine wpList_store_row rfl 59 _ _ rfl (w.heap.size + 1) (vC ([a0, a1, a2, a3, inn] : List Int)) rfl rfl _ _ s2.out.o infoC9 rfl (by simp [vC, Value.oneCell']) ?_; (have sO : Hid (C3 w _ _ _ _) := s2.out.row (vC ([a0, a1, a2, a3, inn] : List Int))); generalize World.setRow _ _ _ = WO at *)
    | (refine wpList_store_row rfl 127 _ _ rfl (w.heap.size + 1 + 1) (aV 0 false) rfl rfl _ _ sO.out.t infoAn rfl (by simp [Value.oneCell']) ?_; (have sA : Hid (C3 w _ _ _ _) := sO.out.ans (aV 0 false))))
  exact bodyPost_ret (res_ca Try.results61 _ sA.out rfl rfl rfl rfl) rfl ⟨rfl, sA.out.b⟩
set_option maxHeartbeats 1000000 in
theorem put_d5 (a0 a1 a2 a3 a4 inn : Int) : DeedR 61 ([a0, a1, a2, a3, a4] : List Int) inn (([a0, a1, a2, a3, a4, inn] : List Int), 0, false) := by
  intro w
  have huC : Hid (Try.prog.underlying 59 = _) := Try.underlying59
  have s0 : Hid (C3 w _ _ _ _) := C3.start w (vC ([a0, a1, a2, a3, a4] : List Int))
  go_enter Try.func61, Try.ntmps61
  go_upto_region 1 with fail
  generalize ((w.alloc (.cells (vC ([a0, a1, a2, a3, a4] : List Int)) TC)).alloc (.cells z9 TC)).alloc (.cells (aV 0 false) TA) = W at *
  have x0 : ∀ wx, (Instr.indexAt 57 (.pointer (some ⟨w.heap.size, 0, none⟩)) (.int .i64 5)).run Try.prog wx = .ok (.pointer (some ⟨w.heap.size, 5, none⟩)) wx := ix8 w.heap.size 5 (by omega)
  have k8 : W.cell? ⟨w.heap.size, 8, none⟩ = some (.int .i64 5) := cell_lc (k := 8) s0.out.r rfl
  go_wp2_with (first
    | (refine wpList_puti rfl 2 _ _ rfl ⟨w.heap.size, 5, none⟩ rfl inn rfl (by kernel_rfl) _ (cell_lc (k := 5) s0.out.r rfl) (s0.out.frz 5) fun W1 hW1 => ?_; (have s1 : Hid (C3 w W1 #[.int .i64 a0, .int .i64 a1, .int .i64 a2, .int .i64 a3, .int .i64 a4, .int .i64 inn, .int .i64 0, .int .i64 0, .int .i64 5] z9 (aV 0 false)) := by (rw [hW1]; exact s0.out.set 5 _)); clear hW1; clear s0 k8; (have k8 : W1.cell? ⟨w.heap.size, 8, none⟩ = some (.int .i64 5) := cell_lc (k := 8) s1.out.r rfl))
    | (refine wpList_puti rfl 3 _ _ rfl ⟨w.heap.size, 8, none⟩ rfl 6 rfl (by kernel_rfl) _ (cell_lc (k := 8) s1.out.r rfl) (s1.out.frz 8) fun W2 hW2 => ?_; (have s2 : Hid (C3 w W2 (vC ([a0, a1, a2, a3, a4, inn] : List Int)) z9 (aV 0 false)) := by (rw [hW2]; exact s1.out.set 8 _)); clear hW2; clear s1 k8)
    | (refine wpList_load_row rfl 59 _ rfl w.heap.size rfl _ _ _ _ s2.out.r huC.out rfl infoC9 ?_)
    | (refine wpList_store_row rfl 59 _ _ rfl (w.heap.size + 1) (vC ([a0, a1, a2, a3, a4, inn] : List Int)) rfl rfl _ _ s2.out.o infoC9 rfl (by simp [vC, Value.oneCell']) ?_; (have sO : Hid (C3 w _ _ _ _) := s2.out.row (vC ([a0, a1, a2, a3, a4, inn] : List Int))); generalize World.setRow _ _ _ = WO at *)
    | (refine wpList_store_row rfl 127 _ _ rfl (w.heap.size + 1 + 1) (aV 0 false) rfl rfl _ _ sO.out.t infoAn rfl (by simp [Value.oneCell']) ?_; (have sA : Hid (C3 w _ _ _ _) := sO.out.ans (aV 0 false))))
  exact bodyPost_ret (res_ca Try.results61 _ sA.out rfl rfl rfl rfl) rfl ⟨rfl, sA.out.b⟩
set_option maxHeartbeats 1000000 in
theorem put_d6 (a0 a1 a2 a3 a4 a5 inn : Int) : DeedR 61 ([a0, a1, a2, a3, a4, a5] : List Int) inn (([a0, a1, a2, a3, a4, a5, inn] : List Int), 0, false) := by
  intro w
  have huC : Hid (Try.prog.underlying 59 = _) := Try.underlying59
  have s0 : Hid (C3 w _ _ _ _) := C3.start w (vC ([a0, a1, a2, a3, a4, a5] : List Int))
  go_enter Try.func61, Try.ntmps61
  go_upto_region 1 with fail
  generalize ((w.alloc (.cells (vC ([a0, a1, a2, a3, a4, a5] : List Int)) TC)).alloc (.cells z9 TC)).alloc (.cells (aV 0 false) TA) = W at *
  have x0 : ∀ wx, (Instr.indexAt 57 (.pointer (some ⟨w.heap.size, 0, none⟩)) (.int .i64 6)).run Try.prog wx = .ok (.pointer (some ⟨w.heap.size, 6, none⟩)) wx := ix8 w.heap.size 6 (by omega)
  have k8 : W.cell? ⟨w.heap.size, 8, none⟩ = some (.int .i64 6) := cell_lc (k := 8) s0.out.r rfl
  go_wp2_with (first
    | (refine wpList_puti rfl 2 _ _ rfl ⟨w.heap.size, 6, none⟩ rfl inn rfl (by kernel_rfl) _ (cell_lc (k := 6) s0.out.r rfl) (s0.out.frz 6) fun W1 hW1 => ?_; (have s1 : Hid (C3 w W1 #[.int .i64 a0, .int .i64 a1, .int .i64 a2, .int .i64 a3, .int .i64 a4, .int .i64 a5, .int .i64 inn, .int .i64 0, .int .i64 6] z9 (aV 0 false)) := by (rw [hW1]; exact s0.out.set 6 _)); clear hW1; clear s0 k8; (have k8 : W1.cell? ⟨w.heap.size, 8, none⟩ = some (.int .i64 6) := cell_lc (k := 8) s1.out.r rfl))
    | (refine wpList_puti rfl 3 _ _ rfl ⟨w.heap.size, 8, none⟩ rfl 7 rfl (by kernel_rfl) _ (cell_lc (k := 8) s1.out.r rfl) (s1.out.frz 8) fun W2 hW2 => ?_; (have s2 : Hid (C3 w W2 (vC ([a0, a1, a2, a3, a4, a5, inn] : List Int)) z9 (aV 0 false)) := by (rw [hW2]; exact s1.out.set 8 _)); clear hW2; clear s1 k8)
    | (refine wpList_load_row rfl 59 _ rfl w.heap.size rfl _ _ _ _ s2.out.r huC.out rfl infoC9 ?_)
    | (refine wpList_store_row rfl 59 _ _ rfl (w.heap.size + 1) (vC ([a0, a1, a2, a3, a4, a5, inn] : List Int)) rfl rfl _ _ s2.out.o infoC9 rfl (by simp [vC, Value.oneCell']) ?_; (have sO : Hid (C3 w _ _ _ _) := s2.out.row (vC ([a0, a1, a2, a3, a4, a5, inn] : List Int))); generalize World.setRow _ _ _ = WO at *)
    | (refine wpList_store_row rfl 127 _ _ rfl (w.heap.size + 1 + 1) (aV 0 false) rfl rfl _ _ sO.out.t infoAn rfl (by simp [Value.oneCell']) ?_; (have sA : Hid (C3 w _ _ _ _) := sO.out.ans (aV 0 false))))
  exact bodyPost_ret (res_ca Try.results61 _ sA.out rfl rfl rfl rfl) rfl ⟨rfl, sA.out.b⟩
set_option maxHeartbeats 1000000 in
theorem put_d7 (a0 a1 a2 a3 a4 a5 a6 inn : Int) : DeedR 61 ([a0, a1, a2, a3, a4, a5, a6] : List Int) inn (([a0, a1, a2, a3, a4, a5, a6, inn] : List Int), 0, false) := by
  intro w
  have huC : Hid (Try.prog.underlying 59 = _) := Try.underlying59
  have s0 : Hid (C3 w _ _ _ _) := C3.start w (vC ([a0, a1, a2, a3, a4, a5, a6] : List Int))
  go_enter Try.func61, Try.ntmps61
  go_upto_region 1 with fail
  generalize ((w.alloc (.cells (vC ([a0, a1, a2, a3, a4, a5, a6] : List Int)) TC)).alloc (.cells z9 TC)).alloc (.cells (aV 0 false) TA) = W at *
  have x0 : ∀ wx, (Instr.indexAt 57 (.pointer (some ⟨w.heap.size, 0, none⟩)) (.int .i64 7)).run Try.prog wx = .ok (.pointer (some ⟨w.heap.size, 7, none⟩)) wx := ix8 w.heap.size 7 (by omega)
  have k8 : W.cell? ⟨w.heap.size, 8, none⟩ = some (.int .i64 7) := cell_lc (k := 8) s0.out.r rfl
  go_wp2_with (first
    | (refine wpList_puti rfl 2 _ _ rfl ⟨w.heap.size, 7, none⟩ rfl inn rfl (by kernel_rfl) _ (cell_lc (k := 7) s0.out.r rfl) (s0.out.frz 7) fun W1 hW1 => ?_; (have s1 : Hid (C3 w W1 #[.int .i64 a0, .int .i64 a1, .int .i64 a2, .int .i64 a3, .int .i64 a4, .int .i64 a5, .int .i64 a6, .int .i64 inn, .int .i64 7] z9 (aV 0 false)) := by (rw [hW1]; exact s0.out.set 7 _)); clear hW1; clear s0 k8; (have k8 : W1.cell? ⟨w.heap.size, 8, none⟩ = some (.int .i64 7) := cell_lc (k := 8) s1.out.r rfl))
    | (refine wpList_puti rfl 3 _ _ rfl ⟨w.heap.size, 8, none⟩ rfl 8 rfl (by kernel_rfl) _ (cell_lc (k := 8) s1.out.r rfl) (s1.out.frz 8) fun W2 hW2 => ?_; (have s2 : Hid (C3 w W2 (vC ([a0, a1, a2, a3, a4, a5, a6, inn] : List Int)) z9 (aV 0 false)) := by (rw [hW2]; exact s1.out.set 8 _)); clear hW2; clear s1 k8)
    | (refine wpList_load_row rfl 59 _ rfl w.heap.size rfl _ _ _ _ s2.out.r huC.out rfl infoC9 ?_)
    | (refine wpList_store_row rfl 59 _ _ rfl (w.heap.size + 1) (vC ([a0, a1, a2, a3, a4, a5, a6, inn] : List Int)) rfl rfl _ _ s2.out.o infoC9 rfl (by simp [vC, Value.oneCell']) ?_; (have sO : Hid (C3 w _ _ _ _) := s2.out.row (vC ([a0, a1, a2, a3, a4, a5, a6, inn] : List Int))); generalize World.setRow _ _ _ = WO at *)
    | (refine wpList_store_row rfl 127 _ _ rfl (w.heap.size + 1 + 1) (aV 0 false) rfl rfl _ _ sO.out.t infoAn rfl (by simp [Value.oneCell']) ?_; (have sA : Hid (C3 w _ _ _ _) := sO.out.ans (aV 0 false))))
  exact bodyPost_ret (res_ca Try.results61 _ sA.out rfl rfl rfl rfl) rfl ⟨rfl, sA.out.b⟩
theorem put_d (c : List Int) (hc : c.length < 8) (inn : Int) : DeedR 61 c inn (c ++ [inn], 0, false) := by
  match c, hc with
  | [], _ => exact put_d0 inn
  | [a0], _ => exact put_d1 a0 inn
  | [a0, a1], _ => exact put_d2 a0 a1 inn
  | [a0, a1, a2], _ => exact put_d3 a0 a1 a2 inn
  | [a0, a1, a2, a3], _ => exact put_d4 a0 a1 a2 a3 inn
  | [a0, a1, a2, a3, a4], _ => exact put_d5 a0 a1 a2 a3 a4 inn
  | [a0, a1, a2, a3, a4, a5], _ => exact put_d6 a0 a1 a2 a3 a4 a5 inn
  | [a0, a1, a2, a3, a4, a5, a6], _ => exact put_d7 a0 a1 a2 a3 a4 a5 a6 inn
  | a0 :: a1 :: a2 :: a3 :: a4 :: a5 :: a6 :: a7 :: l, h => exact absurd h (by simp only [List.length_cons]; omega)
end Go.Proofs.Ytklpifammbnldaa.pg
