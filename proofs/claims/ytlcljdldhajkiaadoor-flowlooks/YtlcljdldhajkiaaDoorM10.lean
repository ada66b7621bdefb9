/- What may be touched: helpers, and plain. -/
import Derived.Test.YtlcljdldhajkiaaDoorM9
import Derived.Test.YtlcljdldhajkiaaDoorM8
import Derived.Lib.MinMax
import Derived.Deep.DeepCutAuto
import Derived.RegionTactic
import Derived.BigRegion
import Derived.RangeFuncNested
import Derived.RangeFuncBound
import Derived.RangeFuncCalls
import Derived.RangeFuncLeaves
import Derived.Shelf.Abstract
import Derived.WalkKit
import Derived.OwnWalkIn
import Derived.TacticsInMore
import Derived.LoopNIn
import Derived.LoopIn
namespace Go.Proofs.YtlcljdldhajkiaaDoor.pg
open Go.ChangeShapes Go.WideShapes Go.ChangeAt Go.RowKit
set_option linter.unusedVariables false
set_option linter.unusedSimpArgs false
set_option maxRecDepth 100000
theorem cell_lcQ {w : World} {B k : Nat} {cs : Array Value} {t : TypeId} {v : Value} (h : w.heap[B]? = some (.cells cs t (0, 0))) (hk : cs[k]? = some v) : w.cell? ⟨B, k, none⟩ = some v := cell_ofF h hk
theorem blk_onQ {w w' : World} {B : Nat} {o : Obj} (h : w.heap[B]? = some o) (hb : Below w.heap.size w w') : w'.heap[B]? = some o := (hb.block B (Array.getElem?_eq_some_iff.mp h).1).trans h
theorem cell_keepQ {w w' : World} {b o : Nat} {u : Value} (h : w.cell? ⟨b, o, none⟩ = some u) (hk : w'.heap[b]? = w.heap[b]?) : w'.cell? ⟨b, o, none⟩ = some u := (World.cell?_of_block (a := ⟨b, o, none⟩) hk).trans h
theorem range_blkQ {wx wy : World} {b o : Nat} {cs : List Value} (h : wx.rangeAt b o cs) (e : wy.heap[b]? = wx.heap[b]?) : wy.rangeAt b o cs := fun j v hj => cell_keepQ (h j v hj) e
theorem rng_blkQ {w : World} {B : Nat} {cs : Array Value} {t : TypeId} (h : w.heap[B]? = some (.cells cs t (0, 0))) : w.rangeAt B 0 cs.toList := fun j v hj => by
  rw [Nat.zero_add]
  exact cell_lcQ h (by simpa using hj)
theorem below_setRowQ {n B : Nat} {a w : World} (h : Below n a w) (hB : n ≤ B) (cs : Array Value) : Below n a (w.setRow B cs) := h.trans ⟨rfl, rfl, rfl, by rw [setRow_size]; exact Nat.le_refl _, fun k hk => setRow_other w B k cs (by omega)⟩
def StopQ (p : Prop) : Prop := p
theorem stopQ_out {p : Prop} (h : p) : StopQ p := h
section
variable {P : Program} {ops : Array Oper} {rest : List Oper} {op : Oper} {a : Act} {w : World} {Q : Exit → Act → World → Prop}
theorem at_storeQ (ty : TypeId) (x y : Operand) (ho : op.op = .store ty x y) (h : StopQ (wpList P ops Q (op :: rest) a w)) : wpList P ops Q (op :: rest) a w := h
theorem at_loadQ (ty : TypeId) (x : Operand) (ho : op.op = .load ty x) (h : StopQ (wpList P ops Q (op :: rest) a w)) : wpList P ops Q (op :: rest) a w := h
theorem at_allocQ (ty : TypeId) (ho : op.op = .alloc ty) (h : StopQ (wpList P ops Q (op :: rest) a w)) : wpList P ops Q (op :: rest) a w := h
theorem at_buildQ (ty : TypeId) (x : Array (Nat × Operand)) (ho : op.op = .build ty x) (h : StopQ (wpList P ops Q (op :: rest) a w)) : wpList P ops Q (op :: rest) a w := h
theorem at_bslQ (ty : TypeId) (n : Nat) (x : Array (Nat × Operand)) (ho : op.op = .buildSlice ty n x) (h : StopQ (wpList P ops Q (op :: rest) a w)) : wpList P ops Q (op :: rest) a w := h
end
theorem reg_skipQ {P : Program} {ops : Array Oper} {Q : Exit → Act → World → Prop} {S : World → Prop} {fuel : Nat} {listed : Array Bool} {a : Act} {w : World} {i : Nat} {o : Oper} (ho : ops[i]? = some o) (hs : Region.noSelect ops = true) (hf : Region.free .any ops listed i = true) (hr : (Region.ready .any ops listed).contains i = true)
    (hQ : ∀ c v a w, Q (.panic c) (a.put o.dst v) w → Q (.panic c) a w) (hw : Region.wanted o (yielded ops a.tmps) = false) (hSw : S w)
    (h : wpAnyH P .any ops Q S fuel (listed.setIfInBounds i true) (a.put o.dst undef) w) : wpAnyH P .any ops Q S (fuel + 1) listed a w :=
  wpAnyH_take ho hs hf hr (fun c a w => hQ c _ a w) (.inr ⟨hw, rfl⟩) hSw h
theorem run_maxQ {P : Program} {o : Oper} {a : Act} {x y : Int} (w : World) (u v : Operand) {ts : Array TypeId} (ho : o.op = .call { callee := .builtin .max, args := #[u, v], argTypes := ts }) (hu : a.eval u = .int .i64 x) (hv : a.eval v = .int .i64 y) :
    (execOp a.eval o).run P w = .ok (.value (.int .i64 (max x y))) w := by
  simp [execOp, ho, resolve, invoke, builtin, hu, hv, Go.Lib.run_max_ints, Result.andThen]
/-- Numbers in a row. -/
def intRow (n : Nat) (f : Nat → Int) : Array Value := ((List.range n).map fun j => Value.int .i64 (f j)).toArray
theorem intRow_at {n : Nat} {f : Nat → Int} {j : Nat} (h : j < n) : (intRow n f)[j]? = some (.int .i64 (f j)) := by simp [intRow, h]
theorem intRow_size (n : Nat) (f : Nat → Int) : (intRow n f).size = n := by simp [intRow]
theorem intRow_set {n : Nat} {f : Nat → Int} {j : Nat} (v : Int) : (intRow n f).setIfInBounds j (.int .i64 v) = intRow n (fun b => if b = j then v else f b) := by
  apply Array.ext'
  simp only [intRow, Array.toList_setIfInBounds, List.toList_toArray]
  apply List.ext_getElem?
  intro k
  rw [List.getElem?_set]
  simp only [List.length_map, List.length_range, List.getElem?_map]
  by_cases c : j = k
  · subst c
    by_cases h : j < n
    · simp [h, List.getElem?_range]
    · simp [h, List.getElem?_range]
  · rw [if_neg c]
    by_cases h : k < n
    · simp [List.getElem?_range, h, Ne.symm c]
    · simp [List.getElem?_range, h]
theorem intRow_congr {n : Nat} {f g : Nat → Int} (h : ∀ j, j < n → f j = g j) : intRow n f = intRow n g := by
  unfold intRow
  congr 1
  apply List.map_congr_left
  intro j hj
  rw [h j (List.mem_range.mp hj)]
/-- How an object may be touched: more. -/
def mx1 (O : Nat → Int) (x : Nat × Int) : Nat → Int := fun b => if b = x.1 then max (O b) x.2 else O b
def mxL (O : Nat → Int) (l : List (Nat × Int)) : Nat → Int := l.foldl mx1 O
theorem mxL_app (O : Nat → Int) (l m : List (Nat × Int)) : mxL O (l ++ m) = mxL (mxL O l) m := List.foldl_append
theorem mxL_up (l : List (Nat × Int)) : ∀ (O : Nat → Int) (j : Nat), O j ≤ mxL O l j := by
  induction l with
  | nil => intro O j; exact Int.le_refl _
  | cons x t ih =>
    intro O j
    refine Int.le_trans ?_ (ih (mx1 O x) j)
    unfold mx1
    split <;> omega
theorem mxL_own (l : List (Nat × Int)) : ∀ (O : Nat → Int) (x : Nat × Int), x ∈ l → x.2 ≤ mxL O l x.1 := by
  induction l with
  | nil => intro O x h; simp at h
  | cons y t ih =>
    intro O x h
    rcases List.mem_cons.mp h with rfl | h
    · refine Int.le_trans ?_ (mxL_up t (mx1 O x) x.1)
      unfold mx1
      rw [if_pos rfl]
      omega
    · exact ih (mx1 O y) x h
theorem mxL_one (l : List (Nat × Int)) : ∀ (O : Nat → Int) (j : Nat), mxL O l j = O j ∨ (j, mxL O l j) ∈ l := by
  induction l with
  | nil => intro O j; exact .inl rfl
  | cons y t ih =>
    intro O j
    rcases ih (mx1 O y) j with h | h
    · have e : mxL O (y :: t) j = mx1 O y j := h
      rw [e]
      unfold mx1
      by_cases c : j = y.1
      · rw [if_pos c]
        rcases Int.le_total (O j) y.2 with q | q
        · right
          rw [show max (O j) y.2 = y.2 by omega, c]
          exact List.mem_cons_self
        · left; omega
      · rw [if_neg c]; exact .inl rfl
    · exact .inr (List.mem_cons_of_mem _ h)
/-- What an instruction may touch: kind times eight and number, and how. -/
def obs (k : Nat) (n : Int) : Nat := k * 8 + n.toNat
def gosL (fr : Nat) (h : Int) : List (Nat × Int) := (32, h) :: ((List.range 6).drop fr).map fun k => (40 + k, h)
def tchI (f : Fn) (i : Ins) : List (Nat × Int) :=
  if i.op = 50 then [(obs 1 i.b, 1)] else if i.op = 54 then [(obs 1 i.a, 1)] else if i.op = 51 then [(obs 1 i.a, 2)] else if i.op = 52 ∨ i.op = 53 then [(obs 1 i.b, 2)]
  else if i.op = 55 ∨ i.op = 56 then [(obs 2 i.a, 2)] else if i.op = 57 then [(obs 2 i.b, 2)] else if i.op = 58 ∨ i.op = 60 then [(obs 3 i.a, 2)] else if i.op = 59 then [(obs 3 i.b, 2)]
  else if i.op = 61 then (selAt f i.a).cases.map fun c => (obs 3 c.ch, 2) else if i.op = 62 then gosL 1 2 else if i.op = 63 then gosL 0 1 else if i.op = 65 then [(48, 2)] else []
/-- Closed under what may come behind, and what is spawned. -/
structure ClosedP (fns : List Fn) (R : Nat → Nat → Bool) : Prop where
  c : ∀ f F, fns[f]? = some F → closedF F (fun _ => true) (R f)
  s : ∀ f F, fns[f]? = some F → ∀ pc, pc < F.code.length → R f pc = true → (insAt F.code pc).op = 62 → R (insAt F.code pc).b.toNat 0 = true
structure LeastP (fns : List Fn) (f pc : Nat) (R : Nat → Nat → Bool) : Prop where
  up : R f pc = true
  cl : ClosedP fns R
  le : ∀ R', R' f pc = true → ClosedP fns R' → ∀ g k, R g k = true → R' g k = true
theorem LeastP.sub {fns : List Fn} {f pc g k : Nat} {R R' : Nat → Nat → Bool} (h : LeastP fns f pc R) (h' : LeastP fns g k R') (hin : R g k = true) : ∀ m j, R' m j = true → R m j = true := h'.le R hin h.cl
/-- What may be touched from places on. -/
structure MayO (fns : List Fn) (R : Nat → Nat → Bool) (O : Nat → Int) : Prop where
  up : ∀ f F pc, fns[f]? = some F → pc < F.code.length → R f pc = true → ∀ x ∈ tchI F (insAt F.code pc), x.2 ≤ O x.1
  le : ∀ j, O j = 0 ∨ ∃ f F pc, fns[f]? = some F ∧ pc < F.code.length ∧ R f pc = true ∧ (j, O j) ∈ tchI F (insAt F.code pc)
theorem mem_iteQ {α : Type} {c : Prop} [Decidable c] {a b : List α} {x : α} (h : x ∈ if c then a else b) : x ∈ a ∨ x ∈ b := by
  by_cases q : c
  · rw [if_pos q] at h; exact .inl h
  · rw [if_neg q] at h; exact .inr h
theorem tch_pos {f : Fn} {i : Ins} {x : Nat × Int} (h : x ∈ tchI f i) : x.2 = 1 ∨ x.2 = 2 := by
  have hg : ∀ fr (h : Int), x ∈ gosL fr h → x.2 = h := fun fr h q => by
    unfold gosL at q
    rcases List.mem_cons.mp q with rfl | q
    · rfl
    · obtain ⟨k, _, rfl⟩ := List.mem_map.mp q; rfl
  have one : ∀ (j : Nat) (h : Int), (h = 1 ∨ h = 2) → x ∈ [(j, h)] → x.2 = 1 ∨ x.2 = 2 := fun j h q r => by
    rw [List.mem_singleton] at r
    subst r
    exact q
  unfold tchI at h
  rcases mem_iteQ h with h | h
  · exact one _ _ (.inl rfl) h
  rcases mem_iteQ h with h | h
  · exact one _ _ (.inl rfl) h
  rcases mem_iteQ h with h | h
  · exact one _ _ (.inr rfl) h
  rcases mem_iteQ h with h | h
  · exact one _ _ (.inr rfl) h
  rcases mem_iteQ h with h | h
  · exact one _ _ (.inr rfl) h
  rcases mem_iteQ h with h | h
  · exact one _ _ (.inr rfl) h
  rcases mem_iteQ h with h | h
  · exact one _ _ (.inr rfl) h
  rcases mem_iteQ h with h | h
  · exact one _ _ (.inr rfl) h
  rcases mem_iteQ h with h | h
  · obtain ⟨c, _, rfl⟩ := List.mem_map.mp h
    exact .inr rfl
  rcases mem_iteQ h with h | h
  · exact .inr (hg _ _ h)
  rcases mem_iteQ h with h | h
  · exact .inl (hg _ _ h)
  rcases mem_iteQ h with h | h
  · exact one _ _ (.inr rfl) h
  · exact absurd h List.not_mem_nil
theorem MayO.range {fns : List Fn} {R : Nat → Nat → Bool} {O : Nat → Int} (h : MayO fns R O) (j : Nat) : O j = 0 ∨ O j = 1 ∨ O j = 2 := by
  rcases h.le j with q | ⟨f, F, pc, _, _, _, q⟩
  · exact .inl q
  · exact .inr (tch_pos q)
theorem MayO.mono {fns : List Fn} {R R' : Nat → Nat → Bool} {O O' : Nat → Int} (h : MayO fns R O) (h' : MayO fns R' O') (hs : ∀ g k, R g k = true → R' g k = true) (j : Nat) : O j ≤ O' j := by
  rcases h.le j with q | ⟨f, F, pc, h1, h2, h3, q⟩
  · rcases h'.range j with e | e | e <;> omega
  · exact h'.up f F pc h1 h2 (hs _ _ h3) _ q
/-- An access. -/
structure AcQ where
  kind : Int
  num : Int
  wr : Bool
deriving DecidableEq
abbrev AcQ.cells (x : AcQ) : List Value := [.int .i64 x.kind, .int .i64 x.num, .bool x.wr]
abbrev AcQ.val (x : AcQ) : Value := .agg #[.int .i64 x.kind, .int .i64 x.num, .bool x.wr]
/-- The accesses that are told. -/
def accO (O : Nat → Int) (j : Nat) : List AcQ := if O j = 0 then [] else [⟨((j / 8 : Nat) : Int), ((j % 8 : Nat) : Int), O j == 2⟩]
def lstO (O : Nat → Int) (n : Nat) : List AcQ := (List.range n).flatMap (accO O)
theorem lstO_step (O : Nat → Int) (n : Nat) : lstO O (n + 1) = lstO O n ++ accO O n := by
  unfold lstO
  rw [List.range_succ, List.flatMap_append]
  simp
theorem lstO_len (O : Nat → Int) : ∀ n, (lstO O n).length ≤ n
  | 0 => Nat.le_refl _
  | n + 1 => by
    rw [lstO_step, List.length_append]
    have := lstO_len O n
    have : (accO O n).length ≤ 1 := by unfold accO; split <;> simp
    omega
theorem lstO_mem {O : Nat → Int} {n : Nat} {a : AcQ} : a ∈ lstO O n ↔ ∃ j, j < n ∧ O j ≠ 0 ∧ a = ⟨((j / 8 : Nat) : Int), ((j % 8 : Nat) : Int), O j == 2⟩ := by
  unfold lstO
  rw [List.mem_flatMap]
  constructor
  · rintro ⟨j, hj, h⟩
    unfold accO at h
    split at h
    · simp at h
    · rename_i c
      rw [List.mem_singleton] at h
      exact ⟨j, List.mem_range.mp hj, c, h⟩
  · rintro ⟨j, hj, h, rfl⟩
    refine ⟨j, List.mem_range.mpr hj, ?_⟩
    unfold accO
    rw [if_neg h]
    exact List.mem_singleton.mpr rfl
/-- Is an access held by a list, as strong at least? -/
def hldA (l : List AcQ) (a : AcQ) : Prop := ∃ b ∈ l, b.kind = a.kind ∧ b.num = a.num ∧ (b.wr = true ∨ a.wr = false)
theorem hld_of {O O' : Nat → Int} (h : ∀ j, O j ≤ O' j) (hr : ∀ j, O j = 0 ∨ O j = 1 ∨ O j = 2) (hr' : ∀ j, O' j = 0 ∨ O' j = 1 ∨ O' j = 2) {a : AcQ} {n : Nat} (ha : a ∈ lstO O n) : hldA (lstO O' n) a := by
  obtain ⟨j, hj, h0, rfl⟩ := lstO_mem.mp ha
  have h1 := h j
  have h2 := hr j
  have h3 := hr' j
  refine ⟨⟨((j / 8 : Nat) : Int), ((j % 8 : Nat) : Int), O' j == 2⟩, lstO_mem.mpr ⟨j, hj, by omega, rfl⟩, rfl, rfl, ?_⟩
  by_cases c : O' j = 2
  · left; show (O' j == 2) = true; rw [c]; rfl
  · right
    show (O j == 2) = false
    rw [beq_eq_false_iff_ne]
    omega
end Go.Proofs.YtlcljdldhajkiaaDoor.pg
/- How an object may be touched: package flow's notes. -/
namespace Go.Proofs.YtlcljdldhajkiaaDoor.pg
open Go.ChangeShapes Go.WideShapes Go.ChangeAt Go.RowKit
set_option linter.unusedVariables false
set_option linter.unusedSimpArgs false
set_option maxRecDepth 100000
attribute [local go_sem ↓] Go.wp_at_zero Go.wp_at_succ
abbrev TO : TypeId := 57
abbrev objO (O : Nat → Int) : Obj := .cells (intRow 56 O) TO
theorem ix7Q (B k : Nat) (hk : k < 7) : ∀ wx, (Instr.indexAt 57 (.pointer (some ⟨B, 0, none⟩)) (.int .i64 (k : Int))).run Tryd.prog wx = .ok (.pointer (some ⟨B, k * 8, none⟩)) wx := by
  match k, hk with
  | 0, _ => exact fun _ => by kernel_rfl
  | 1, _ => exact fun _ => by kernel_rfl
  | 2, _ => exact fun _ => by kernel_rfl
  | 3, _ => exact fun _ => by kernel_rfl
  | 4, _ => exact fun _ => by kernel_rfl
  | 5, _ => exact fun _ => by kernel_rfl
  | 6, _ => exact fun _ => by kernel_rfl
theorem ix8Q (B o n : Nat) (hn : n < 8) : ∀ wx, (Instr.indexAt 55 (.pointer (some ⟨B, o, none⟩)) (.int .i64 (n : Int))).run Tryd.prog wx = .ok (.pointer (some ⟨B, o + n, none⟩)) wx := by
  match n, hn with
  | 0, _ => exact fun _ => by kernel_rfl
  | 1, _ => exact fun _ => by kernel_rfl
  | 2, _ => exact fun _ => by kernel_rfl
  | 3, _ => exact fun _ => by kernel_rfl
  | 4, _ => exact fun _ => by kernel_rfl
  | 5, _ => exact fun _ => by kernel_rfl
  | 6, _ => exact fun _ => by kernel_rfl
  | 7, _ => exact fun _ => by kernel_rfl
/-- A call that writes into one block, and else leaves all as it is. -/
structure ObF (B : Nat) (w w' : World) : Prop where
  b : ∀ n, n ≤ B → n ≤ w.heap.size → Below n w w'
  k : ∀ b, b < w.heap.size → b ≠ B → w'.heap[b]? = w.heap[b]?
theorem ObF.of {B : Nat} {w w' : World} (h : Below w.heap.size w w') : ObF B w w' := ⟨fun n _ hn => h.mono hn, fun b hb _ => h.block b hb⟩
theorem ObF.trans {B : Nat} {w w1 w2 : World} (h : ObF B w w1) (h2 : ObF B w1 w2) (hs : w.heap.size ≤ w1.heap.size) : ObF B w w2 := ⟨fun n hn hn2 => (h.b n hn hn2).trans (h2.b n hn (by omega)), fun b hb hne => (h2.k b (by omega) hne).trans (h.k b hb hne)⟩
/-- How the notes stand behind a call. -/
structure ObS (B : Nat) (w : World) (O : Nat → Int) (w' : World) : Prop where
  o : w'.heap[B]? = some (objO O)
  f : ObF B w w'
  s : w.heap.size ≤ w'.heap.size
theorem ObS.then {B : Nat} {w w1 w2 : World} {O O2 : Nat → Int} (h : ObS B w O w1) (h2 : ObS B w1 O2 w2) : ObS B w O2 w2 := ⟨h2.o, h.f.trans h2.f h.s, Nat.le_trans h.s h2.s⟩
theorem ObS.later {B : Nat} {w w1 w2 : World} {O : Nat → Int} (h : ObS B w O w1) (hb : Below w1.heap.size w1 w2) : ObS B w O w2 := ⟨blk_onQ h.o hb, h.f.trans (ObF.of hb) h.s, Nat.le_trans h.s hb.size⟩
theorem ObS.refl {B : Nat} {w : World} {O : Nat → Int} (h : w.heap[B]? = some (objO O)) : ObS B w O w := ⟨h, ⟨fun n _ _ => Below.refl _ _, fun _ _ _ => rfl⟩, Nat.le_refl _⟩
theorem ObS.rows {B k c : Nat} {w w' : World} {O : Nat → Int} {a : Option Addr} {L : List (List Value)} (h : ObS B w O w') (hr : Rows w k a c L) (hn : ∀ b ∈ blk a, b ≠ B) : Rows w' k a c L := by
  obtain ⟨h1, h2, h3, h4⟩ := hr
  refine ⟨h1, h2, h3, h4.imp_right fun ⟨b, off, ha, hlt, hc⟩ => ⟨b, off, ha, Nat.lt_of_lt_of_le hlt h.s, fun i row hi => ⟨(hc i row hi).1, fun j u hj => ?_⟩⟩⟩
  subst ha
  exact cell_keepQ ((hc i row hi).2 j u hj) (h.f.k b hlt (hn b (by simp [blk])))
theorem ob_put {B j : Nat} {w : World} {O : Nat → Int} (h : w.heap[B]? = some (objO O)) (v : Int) : (w.setCell ⟨B, j, none⟩ (.int .i64 v)).heap[B]? = some (objO (fun b => if b = j then v else O b)) := by
  rw [heap_setCell_same w B j _ _ _ h, intRow_set]
theorem ob_frame {B j : Nat} {w : World} {v : Value} : ObF B w (w.setCell ⟨B, j, none⟩ v) ∧ w.heap.size ≤ (w.setCell ⟨B, j, none⟩ v).heap.size := by
  have h := fun n (hn : n ≤ B) => (Below.refl n w).setCell (p := ⟨B, j, none⟩) hn v
  exact ⟨⟨fun n hn _ => h n hn, fun b _ hne => heap_setCell_other _ ⟨B, j, none⟩ b _ hne⟩, (h 0 (Nat.zero_le _)).size⟩
set_option maxHeartbeats 2000000 in
theorem touch_any (B : Nat) (O : Nat → Int) (k n : Nat) (h : Int) (w : World) (hk : k < 7) (hn : n < 8) (hB : w.heap[B]? = some (objO O)) :
    Calls Tryd.prog 47 #[.pointer (some ⟨B, 0, none⟩), .int .i64 (k : Int), .int .i64 (n : Int), .int .i64 h] w fun e w' => e = .returned (.tuple #[]) ∧ ObS B w (mx1 O (k * 8 + n, h)) w' := by
  have xk := ix7Q B k hk
  have xn := ix8Q B (k * 8) n hn
  have hj : k * 8 + n < 56 := by omega
  have hBH : Hid (w.heap[B]? = some (objO O)) := hB
  have cO : w.cell? ⟨B, k * 8 + n, none⟩ = some (.int .i64 (O (k * 8 + n))) := cell_lcQ hB (intRow_at hj)
  have fO : w.frozen? ⟨B, k * 8 + n, none⟩ = false := frozen_of_row _ _ _ _ _ hB
  have ux : Tryd.prog.underlying 3 = some (.int .i64) := Tryd.underlying3
  clear hB
  go_enter Tryd.func47, Tryd.ntmps47
  go_wp2_with fail
  have hnew : Hid (ObS B w (mx1 O (k * 8 + n, h)) (w.setCell ⟨B, k * 8 + n, none⟩ (.int .i64 (max (O (k * 8 + n)) h))).drew) := by
    have hp : ObS B w (mx1 O (k * 8 + n, h)) (w.setCell ⟨B, k * 8 + n, none⟩ (.int .i64 (max (O (k * 8 + n)) h))) := by
      refine ⟨?_, ob_frame.1, ob_frame.2⟩
      rw [ob_put hBH.out]
      congr 2
      funext b
      unfold mx1
      by_cases c : b = k * 8 + n
      · rw [if_pos c, if_pos c, c]
      · rw [if_neg c, if_neg c]
    exact hp.later (bey_drew _)
  go_region
  go_end0
  exact ⟨rfl, hnew.out⟩
theorem gos_cut (fr : Nat) (h : Int) (O : Nat → Int) (k : Nat) (hk : k < 6) (hf : fr ≤ k) : mxL O ((32, h) :: (((List.range (k + 1)).drop fr).map fun m => (40 + m, h))) = mx1 (mxL O ((32, h) :: (((List.range k).drop fr).map fun m => (40 + m, h)))) (40 + k, h) := by
  rw [List.range_succ, List.drop_append_of_le_length (by rw [List.length_range]; exact hf), List.map_append]
  show mxL O (((32, h) :: _) ++ [(40 + k, h)]) = _
  rw [mxL_app]
  rfl
set_option maxHeartbeats 2000000 in
theorem goroutines_any (B : Nat) (O : Nat → Int) (fr : Nat) (h : Int) (w : World) (hf : fr < 6) (hB : w.heap[B]? = some (objO O)) :
    Calls Tryd.prog 48 #[.pointer (some ⟨B, 0, none⟩), .int .i64 (fr : Int), .int .i64 h] w fun e w' => e = .returned (.tuple #[]) ∧ ObS B w (mxL O (gosL fr h)) w' := by
  have c0 : Calls Tryd.prog 47 #[.pointer (some ⟨B, 0, none⟩), .int .i64 4, .int .i64 0, .int .i64 h] w _ := touch_any B O 4 0 h w (by omega) (by omega) hB
  have cT : ∀ (wx : World) (O' : Nat → Int) (k : Nat), k < 6 → wx.heap[B]? = some (objO O') → Calls Tryd.prog 47 #[.pointer (some ⟨B, 0, none⟩), .int .i64 5, .int .i64 (k : Int), .int .i64 h] wx _ := fun wx O' k hk q => touch_any B O' 5 k h wx (by omega) (by omega) q
  have hfI : (fr : Int) < 6 := by omega
  clear hB
  go_enter Tryd.func48, Tryd.ntmps48
  go_wp2_with (go_at_call 47; (with_reducible refine c0.mono ?_); rintro e w1 ⟨rfl, h1⟩; (have hI : Hid (ObS B w (mxL O ((32, h) :: (((List.range fr).drop fr).map fun m => (40 + m, h)))) w1) := (by (rw [List.drop_of_length_le (by rw [List.length_range]; exact Nat.le_refl _)]; exact h1))); clear h1 c0)
  go_loopw [6] (fun u wr => ∃ k : Nat, fr ≤ k ∧ k ≤ 6 ∧ u = .int .i64 (k : Int) ∧ Hid (ObS B w (mxL O ((32, h) :: (((List.range k).drop fr).map fun m => (40 + m, h)))) wr)) (fun u _ => 6 - (intOf u).toNat)
  case atStart => exact ⟨fr, Nat.le_refl _, by omega, rfl, hI.out⟩
  case round =>
    obtain ⟨k, hk1, hk2, rfl, hq⟩ := hrel
    clear hI
    by_cases hlt : k < 6
    · have hkI : (k : Int) < 6 := by omega
      have c1 := cT wr _ k hlt hq.out.o
      go_wp2_with (go_at_call 47; (with_reducible refine c1.mono ?_); rintro e w2 ⟨rfl, h2⟩; (have hF : Hid (ObS B w (mxL O ((32, h) :: (((List.range (k + 1)).drop fr).map fun m => (40 + m, h)))) w2) := (by (rw [gos_cut fr h O k hlt hk1]; exact hq.out.then h2))); clear h2 c1)
      go_roundw
      case rel => exact ⟨k + 1, by omega, by omega, by go_num, hF.out⟩
      case measure => simp [intOf]; omega
    · have hke : k = 6 := by omega
      subst hke
      go_wp2
      go_end0
      exact ⟨rfl, hq.out⟩
end Go.Proofs.YtlcljdldhajkiaaDoor.pg
/- The places behind an instruction, handed out one by one: a contract for whatever loop stands over it. -/
namespace Go.Proofs.YtlcljdldhajkiaaDoor.pg
open Go.ChangeShapes Go.WideShapes Go.ChangeAt Go.RowKit Go.Shelf
set_option linter.unusedVariables false
set_option linter.unusedSimpArgs false
set_option maxRecDepth 100000
attribute [local go_sem] Oper.semAt_some
theorem roundAny {m m' : Nat} {P : Program} {l : Nat} {f : FuncId} {tmps : Array Value} {assign body : Code} {w : World} {R : Ending → World → Prop} (h : RoundIn Fence.wide m P l f tmps assign body w R) : RoundIn Fence.wide m' P l f tmps assign body w R := ⟨h.1, fun c cs _ => h.2 c cs (fun d q => by cases q)⟩
theorem yieldAny {m : Nat} (m' : Nat) {P : Program} {l : Nat} {args : Array Value} {W : World} {R : Ending → World → Prop} (h : YieldAt Fence.wide m P l args W R) : YieldAt Fence.wide m' P l args W R := by
  obtain ⟨fn, tmps, assign, body, hy, hR⟩ := h
  exact ⟨fn, tmps, assign, body, hy, roundAny hR⟩
/-- A place. -/
abbrev PlI := { x : Int // 0 ≤ x ∧ x < 64 }
def subL (l : List Int) (h : ∀ x ∈ l, 0 ≤ x ∧ x < 64) : List PlI := l.pmap Subtype.mk h
theorem subL_len (l : List Int) (h : ∀ x ∈ l, 0 ≤ x ∧ x < 64) : (subL l h).length = l.length := List.length_pmap
theorem subL_val (l : List Int) (h : ∀ x ∈ l, 0 ≤ x ∧ x < 64) : (subL l h).map (·.1) = l := by
  unfold subL
  rw [List.map_pmap]
  exact List.pmap_eq_self.mpr (fun _ _ => rfl)
theorem subL_at {l : List Int} (h : ∀ x ∈ l, 0 ≤ x ∧ x < 64) {k : Nat} {x : Int} (hk : l[k]? = some x) : (subL l h)[k]? = some ⟨x, h x (List.mem_of_getElem? hk)⟩ := by
  unfold subL
  rw [List.getElem?_pmap]
  simp [hk]
theorem take_more {α : Type} {l : List α} {k : Nat} {x : α} (h : l[k]? = some x) : l.take k ++ [x] = l.take (k + 1) := by rw [List.take_add_one, h]; rfl
/-- What a round keeps: all cells but one block's. -/
def KeepC (n₀ OB : Nat) (W W' : World) : Prop := Below n₀ W W' ∧ ∀ b cs t z, b ≠ OB → W.heap[b]? = some (.cells cs t z) → W'.heap[b]? = some (.cells cs t z)
theorem KeepC.trans {n₀ OB : Nat} {A B C : World} (h : KeepC n₀ OB A B) (k : KeepC n₀ OB B C) : KeepC n₀ OB A C := ⟨h.1.trans k.1, fun b cs t z hb q => k.2 b cs t z hb (h.2 b cs t z hb q)⟩
theorem KeepC.refl (n₀ OB : Nat) (W : World) : KeepC n₀ OB W W := ⟨Below.refl _ _, fun _ _ _ _ _ q => q⟩
theorem keepC_b {n₀ OB : Nat} {w : World} (hn : n₀ ≤ w.heap.size) (W : World) (l : Nat) (o o' : Obj) (hl : w.heap.size ≤ l) (h : W.heap[l]? = some o) (h1 : o.isCells = false) (h2 : o.isWalk = false) : KeepC n₀ OB W (W.putObj l o') :=
  ⟨belowK_b hn W l o o' hl h h1 h2, fun b cs t z hb q => by
    by_cases e : b = l
    · subst e; rw [h] at q; cases q; cases h1
    · exact (World.putObj_heap_other e).trans q⟩
theorem abide {β : Type} {B : Nat} {J : β → World → Prop} (h : AbidesFrom B J) {s : β} {W W' : World} (hs : J s W) (hb : Below W.heap.size W W') : J s W' := h s W W' none hs ⟨hb.os, hb.tape, hb.output, hb.size, fun k hk _ => hb.block k hk⟩ (fun r e => by cases e)
set_option maxHeartbeats 2000000 in
theorem choose_in (n : Nat) (w0 : World) (s : MSel) (hs : s.lies w0) (c4 : s.cases.length ≤ 4) (hto : ∀ x ∈ selTo s.sel, 0 ≤ x ∧ x < 64) (l OB B : Nat) (J Jx : List PlI → World → Prop) (hJ : AbidesFrom B J)
    (hY : ∀ m pre x W, J pre W → pre.length < (selTo s.sel).length → YieldAt Fence.wide m Tryd.prog l #[.int .i64 x.1] W fun e W' =>
      (e = .returned (.bool true) ∧ J (pre ++ [x]) W' ∧ KeepC w0.heap.size OB W W') ∨ (e = .returned (.bool false) ∧ Jx (pre ++ [x]) W'))
    (W : World) (hW : Below w0.heap.size w0 W) (hOB : OB < W.heap.size) (h0 : J [] W) :
    CallsIn Fence.wide n Tryd.prog 55 #[s.val, .func (.yield l) #[] #[]] W fun e W' => (∃ v, e = .returned v) ∧
      (J (subL (selTo s.sel) hto) W' ∨ ∃ q, Jx q W') := by
  have hCB : (W.alloc (.cells #[.slice s.at_ s.cases.length s.cap, .int .i64 s.els] 76)).heap[W.heap.size]? = some (.cells #[.slice s.at_ s.cases.length s.cap, .int .i64 s.els] 76) := heap_alloc_new W _
  have hb1 := boxed W (.cells #[.slice s.at_ s.cases.length s.cap, .int .i64 s.els] 76)
  have hJ1 := abide hJ h0 hb1
  have hW1 : Below w0.heap.size w0 (W.alloc (.cells #[.slice s.at_ s.cases.length s.cap, .int .i64 s.els] 76)) := bthen hW hb1
  have hlI : (s.cases.length : Int) ≤ 4 := by omega
  have hne : W.heap.size ≠ OB := by omega
  have hYH : Hid _ := hY
  have hsH : Hid (s.lies w0) := hs
  have hJH : Hid (AbidesFrom B J) := hJ
  clear hW h0 hY hJ hs hb1
  refine callsIn_of_wp Tryd.func55 rfl trivial ?_ rfl
  simp only [Tryd.ntmps55, List.size_toArray, List.length_cons, List.length_nil, Nat.reduceAdd, Nat.reduceSub, Array.replicate_succ, Array.replicate_zero, List.push_toArray, List.append_toArray, List.nil_append, List.cons_append]
  have k0 := cell_ofF (k := 0) (v := .slice s.at_ s.cases.length s.cap) hCB rfl
  gi_wp2
  clear k0
  generalize W.alloc (.cells #[.slice s.at_ s.cases.length s.cap, .int .i64 s.els] 76) = V at *
  generalize W.heap.size = CB at *
  gi_loopw [9] (fun u wr => ∃ k : Nat, k ≤ s.cases.length ∧ u = .int .i64 (k : Int) ∧ Hid (J ((subL (selTo s.sel) hto).take k) wr ∧ Below w0.heap.size w0 wr ∧ wr.heap[CB]? = some (.cells #[.slice s.at_ s.cases.length s.cap, .int .i64 s.els] 76))) (fun u _ => s.cases.length - (intOf u).toNat)
  case atStart => exact ⟨0, Nat.zero_le _, rfl, hJ1, hW1, hCB⟩
  case round =>
    clear hJ1 hW1 hCB
    obtain ⟨k, hk, rfl, hr⟩ := hrel
    by_cases hlt : k < s.cases.length
    · obtain ⟨c, hc, hcm⟩ := get_lt s.cases k hlt
      obtain ⟨cb, co, hix, hcb, i0, i1, i2, i3⟩ := cas_ix (hsH.out.1.later hr.out.2.1) k c hc
      have hkI : (k : Int) < s.cases.length := by omega
      have hsk : (selTo s.sel)[k]? = some c.to := by
        unfold selTo
        have h1 : (s.sel.cases.map Cas.to)[k]? = some c.to := by rw [List.getElem?_map]; show (s.cases[k]?).map _ = _; rw [hc]; rfl
        rw [List.getElem?_append_left (List.getElem?_eq_some_iff.mp h1).1]
        exact h1
      have hbn := boxed wr (.cells #[.bool c.send, .int .i64 c.ch, .int .i64 c.reg, .int .i64 c.to] 78)
      have hCn : (wr.alloc (.cells #[.bool c.send, .int .i64 c.ch, .int .i64 c.reg, .int .i64 c.to] 78)).heap[wr.heap.size]? = some (.cells #[.bool c.send, .int .i64 c.ch, .int .i64 c.reg, .int .i64 c.to] 78) := heap_alloc_new wr _
      have j3 := cell_ofF (k := 3) (v := .int .i64 c.to) hCn rfl
      have hr2 : Hid (J ((subL (selTo s.sel) hto).take k) (wr.alloc (.cells #[.bool c.send, .int .i64 c.ch, .int .i64 c.reg, .int .i64 c.to] 78)) ∧ Below w0.heap.size w0 (wr.alloc (.cells #[.bool c.send, .int .i64 c.ch, .int .i64 c.reg, .int .i64 c.to] 78)) ∧ (wr.alloc (.cells #[.bool c.send, .int .i64 c.ch, .int .i64 c.reg, .int .i64 c.to] 78)).heap[CB]? = some (.cells #[.slice s.at_ s.cases.length s.cap, .int .i64 s.els] 76)) :=
        ⟨abide hJH.out hr.out.1 hbn, bthen hr.out.2.1 hbn, (hbn.block CB (Array.getElem?_eq_some_iff.mp hr.out.2.2).1).trans hr.out.2.2⟩
      have htl : ((subL (selTo s.sel) hto).take k).length < (selTo s.sel).length := by
        have := (List.getElem?_eq_some_iff.mp hsk).1
        rw [List.length_take, subL_len]; omega
      have hmore := take_more (subL_at hto hsk)
      have hx64 : 0 ≤ c.to ∧ c.to < 64 := hto _ (List.mem_of_getElem? hsk)
      obtain ⟨fn, tmps, assign, body, hy, hR⟩ := hYH.out (n - 1) _ ⟨c.to, hx64⟩ _ hr2.out.1 htl
      dsimp only at hy
      have hmH : Hid ((subL (selTo s.sel) hto).take k ++ [⟨c.to, hx64⟩] = (subL (selTo s.sel) hto).take (k + 1)) := hmore
      clear hmore hsk hbn hCn htl hc hcm hr
      gi_wp2
      refine ⟨fun h => (by cases h), hR.mono ?_⟩
      rintro e W3 (⟨rfl, hJ3, hk3⟩ | ⟨rfl, hJx3⟩)
      · have hr3 : Hid (J ((subL (selTo s.sel) hto).take (k + 1)) W3 ∧ Below w0.heap.size w0 W3 ∧ W3.heap[CB]? = some (.cells #[.slice s.at_ s.cases.length s.cap, .int .i64 s.els] 76)) := ⟨by rw [← hmH.out]; exact hJ3, hr2.out.2.1.trans hk3.1, hk3.2 CB _ _ _ hne hr2.out.2.2⟩
        gi_wp2
        go_roundw
        case rel => exact ⟨k + 1, by omega, by go_num, hr3⟩
        case measure => simp [intOf]; omega
      · gi_wp2
        refine bodyPost_ret (results_none rfl _ _ _) rfl ?_
        exact ⟨⟨_, rfl⟩, .inr ⟨_, hJx3⟩⟩
    · have hk2 : k = s.cases.length := by omega
      have hkI : ¬ ((k : Int) < s.cases.length) := by omega
      have j1 := cell_ofF (k := 1) (v := .int .i64 s.els) hr.out.2.2 rfl
      by_cases he : s.els = -1
      · have hend : (subL (selTo s.sel) hto).take k = subL (selTo s.sel) hto := by
          rw [List.take_of_length_le]
          rw [subL_len, hk2]
          unfold selTo
          rw [if_pos (show s.sel.els = -1 from he), List.append_nil, List.length_map]
          exact Nat.le_refl _
        have hrE : Hid (J (subL (selTo s.sel) hto) wr) := by show J _ wr; rw [← hend]; exact hr.out.1
        rw [he] at j1
        clear hend hk2 he hr
        gi_wp2
        go_end0
        exact ⟨⟨_, rfl⟩, .inl hrE.out⟩
      · have hsk : (selTo s.sel)[k]? = some s.els := by
          unfold selTo
          rw [if_neg (show ¬ s.sel.els = -1 from he), List.getElem?_append_right (by rw [List.length_map]; show s.cases.length ≤ k; omega), List.length_map]
          show [s.els][k - s.cases.length]? = _
          rw [hk2, Nat.sub_self]; rfl
        have hend : (subL (selTo s.sel) hto).take (k + 1) = subL (selTo s.sel) hto := by
          rw [List.take_of_length_le]
          rw [subL_len, hk2]
          unfold selTo
          rw [if_neg (show ¬ s.sel.els = -1 from he), List.length_append, List.length_map]
          exact Nat.le_refl _
        have hmore := take_more (subL_at hto hsk)
        have htl : ((subL (selTo s.sel) hto).take k).length < (selTo s.sel).length := by
          have := (List.getElem?_eq_some_iff.mp hsk).1
          rw [List.length_take, subL_len]; omega
        have d : (s.els != -1) = true := by simpa using he
        have hx64 : 0 ≤ s.els ∧ s.els < 64 := hto _ (List.mem_of_getElem? hsk)
        obtain ⟨fn, tmps, assign, body, hy, hR⟩ := hYH.out (n - 1) _ ⟨s.els, hx64⟩ _ hr.out.1 htl
        dsimp only at hy
        have hmH : Hid ((subL (selTo s.sel) hto).take k ++ [⟨s.els, hx64⟩] = subL (selTo s.sel) hto) := hmore.trans hend
        clear hmore hend htl hk2 he hr hsk
        gi_wp2
        refine ⟨fun h => (by cases h), hR.mono ?_⟩
        rintro e W3 (⟨rfl, hJ3, hk3⟩ | ⟨rfl, hJx3⟩)
        · have hrE : Hid (J (subL (selTo s.sel) hto) W3) := by show J _ W3; rw [← hmH.out]; exact hJ3
          gi_wp2
          go_end0
          exact ⟨⟨_, rfl⟩, .inl hrE.out⟩
        · gi_wp2
          go_end0
          exact ⟨⟨_, rfl⟩, .inr ⟨_, hJx3⟩⟩
end Go.Proofs.YtlcljdldhajkiaaDoor.pg
