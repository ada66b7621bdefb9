/- Past and Lasts of package order. -/
import Derived.Test.YtkadlopcomjonaaDoorM29
import Derived.Test.YtkadlopcomjonaaDoorM11
import Derived.Test.YtkadlopcomjonaaDoorM15
namespace Go.Proofs.YtkadlopcomjonaaDoor.pg
open Go.ChangeShapes Go.WideShapes Go.ChangeAt Go.RowKit Go.Shelf
set_option linter.unusedVariables false
set_option linter.unusedSimpArgs false
set_option maxRecDepth 100000
attribute [local go_sem ↓] Go.wp_at_zero Go.wp_at_succ
def fPast (l : List Ev) (i k a : Nat) : Bool := decide (a < k) && befK (rel (evf l) l.length).1 l a i
theorem fPast_more (l : List Ev) (i k a : Nat) : (if a = k then befK (rel (evf l) l.length).1 l k i else fPast l i k a) = fPast l i (k + 1) a := by
  unfold fPast
  by_cases h : a = k
  · subst h
    rw [if_pos rfl]
    have : decide (a < a + 1) = true := by simp
    rw [this, Bool.true_and]
  · rw [if_neg h]
    have : decide (a < k) = decide (a < k + 1) := by rw [decide_eq_decide]; omega
    rw [this]
end Go.Proofs.YtkadlopcomjonaaDoor.pg
/- slices.Backward of pairs. -/
namespace Go.Proofs.YtkadlopcomjonaaDoor.pg
open Go.ChangeShapes Go.WideShapes Go.ChangeAt Go.RowKit Go.Shelf
set_option linter.unusedVariables false
set_option linter.unusedSimpArgs false
set_option maxRecDepth 100000
attribute [local go_sem] Oper.semAt_some
/-- The pairs, each at its place below n₀. -/
def PrAt (n₀ : Nat) (W : World) (a : Option Addr) (j cap : Nat) (ev : Nat → Nat × Nat) : Prop := ∀ i, i < j → ∃ b o, (∀ wx, (Instr.indexAt 103 (.slice a j cap) (.int .i64 (i : Int))).run Tryd.prog wx = .ok (.pointer (some ⟨b, o, none⟩)) wx) ∧ b < n₀ ∧ W.rangeAt b o (edg (ev i))
theorem PrAt.below {n₀ : Nat} {W W' : World} {a : Option Addr} {j cap : Nat} {ev : Nat → Nat × Nat} (h : PrAt n₀ W a j cap ev) (hb : Below n₀ W W') : PrAt n₀ W' a j cap ev := fun i hi => by
  obtain ⟨b, o, h1, h2, h3⟩ := h i hi
  exact ⟨b, o, h1, h2, fun q v hv => (hb.cell (p := ⟨b, o + q, none⟩) h2).trans (h3 q v hv)⟩
end Go.Proofs.YtkadlopcomjonaaDoor.pg
/- setOf and closed of package order. -/
namespace Go.Proofs.YtkadlopcomjonaaDoor.pg
open Go.ChangeShapes Go.WideShapes Go.ChangeAt Go.RowKit Go.Shelf
set_option linter.unusedVariables false
set_option linter.unusedSimpArgs false
set_option maxRecDepth 100000
attribute [local go_sem] Oper.semAt_some
attribute [local go_sem ↓] Go.wp_at_zero Go.wp_at_succ
def fOf (ps : List Int) (a : Nat) : Bool := ps.any fun p => p == (a : Int)
theorem fOf_more (ps : List Int) (k a : Nat) : (if a = k then true else fOf ps a) = fOf (ps ++ [(k : Int)]) a := by
  unfold fOf
  rw [List.any_append]
  by_cases h : a = k
  · subst h; simp
  · have : ((k : Int) == (a : Int)) = false := by rw [beq_eq_false_iff_ne]; omega
    simp [h, this]
theorem fOf_iff (ps : List Int) (a : Nat) : fOf ps a = true ↔ (a : Int) ∈ ps := by
  unfold fOf
  rw [List.any_eq_true]
  constructor
  · rintro ⟨p, hp, h⟩
    rw [beq_iff_eq] at h
    rwa [← h]
  · intro h
    exact ⟨_, h, by simp⟩
/-- One edge: what is behind it in, then what is ahead of it. -/
def cst (f : Nat → Bool) (p : Nat × Nat) (a : Nat) : Bool := if a = p.1 then (f p.1 || f p.2) else f a
def cfd (E : List (Nat × Nat)) (f : Nat → Bool) (pre : List { i : Nat // i < E.length }) : Nat → Bool := pre.foldl (fun g x => cst g (E.getD x.1 (0, 0))) f
theorem cfd_more (E : List (Nat × Nat)) (f : Nat → Bool) (pre : List { i : Nat // i < E.length }) (x : { i : Nat // i < E.length }) : cfd E f (pre ++ [x]) = cst (cfd E f pre) (E.getD x.1 (0, 0)) := by unfold cfd; rw [List.foldl_append]; rfl
theorem alloc4 (w : World) (o1 o2 o3 o4 : Obj) : ((((w.alloc o1).alloc o2).alloc o3).alloc o4).heap[w.heap.size]? = some o1 ∧ ((((w.alloc o1).alloc o2).alloc o3).alloc o4).heap[w.heap.size + 1]? = some o2 ∧ ((((w.alloc o1).alloc o2).alloc o3).alloc o4).heap[w.heap.size + 2]? = some o3 ∧ ((((w.alloc o1).alloc o2).alloc o3).alloc o4).heap[w.heap.size + 3]? = some o4 ∧ Below w.heap.size w ((((w.alloc o1).alloc o2).alloc o3).alloc o4) ∧ ((((w.alloc o1).alloc o2).alloc o3).alloc o4).heap.size = w.heap.size + 4 := by
  have z1 : (w.alloc o1).heap.size = w.heap.size + 1 := World.size_alloc _ _
  have z2 : ((w.alloc o1).alloc o2).heap.size = w.heap.size + 2 := by rw [World.size_alloc, z1]
  have z3 : (((w.alloc o1).alloc o2).alloc o3).heap.size = w.heap.size + 3 := by rw [World.size_alloc, z2]
  have z4 : ((((w.alloc o1).alloc o2).alloc o3).alloc o4).heap.size = w.heap.size + 4 := by rw [World.size_alloc, z3]
  have b1 := boxed w o1
  have b2 := boxed (w.alloc o1) o2
  have b3 := boxed ((w.alloc o1).alloc o2) o3
  have b4 := boxed (((w.alloc o1).alloc o2).alloc o3) o4
  have h1 := heap_alloc_new w o1
  have h2 := heap_alloc_new (w.alloc o1) o2
  have h3 := heap_alloc_new ((w.alloc o1).alloc o2) o3
  have h4 := heap_alloc_new (((w.alloc o1).alloc o2).alloc o3) o4
  rw [z1] at h2
  rw [z2] at h3
  rw [z3] at h4
  exact ⟨(b4.block _ (by omega)).trans ((b3.block _ (by omega)).trans ((b2.block _ (by omega)).trans h1)), (b4.block _ (by omega)).trans ((b3.block _ (by omega)).trans h2), (b4.block _ (by omega)).trans h3, h4, bthen (bthen (bthen b1 b2) b3) b4, z4⟩
theorem wpList_load1g {P : Program} {ops : Array Oper} {rest : List Oper} {o : Oper} {a : Act} {w : World} {Q : Exit → Act → World → Prop} (hw : Region.wanted o (yielded ops a.tmps) = true) (ty : TypeId) (x : Operand) (ho : o.op = .load ty x) (ad : Addr) (hx : a.eval x = .pointer (some ad)) (d : TypeDesc) (hu : P.underlying ty = some d) (hd : d.isRow = false) (v : Value) (hc : w.cell? ad = some v)
    (h : wpList P ops Q rest (a.put o.dst v) w) : wpList P ops Q (o :: rest) a w := BigFrame.wpList_want hw fun K hK => by
  unfold Oper.wp
  rw [run_load1 ty x ho ad hx d hu hd hc]
  exact hK _ _ h
theorem reg_skip {P : Program} {ops : Array Oper} {Q : Exit → Act → World → Prop} {S : World → Prop} {fuel : Nat} {listed : Array Bool} {a : Act} {w : World} {i : Nat} {o : Oper} (ho : ops[i]? = some o) (hs : Region.noSelect ops = true) (hf : Region.free .any ops listed i = true) (hr : (Region.ready .any ops listed).contains i = true)
    (hQ : ∀ c v a w, Q (.panic c) (a.put o.dst v) w → Q (.panic c) a w) (hw : Region.wanted o (yielded ops a.tmps) = false) (hSw : S w)
    (h : wpAnyH P .any ops Q S fuel (listed.setIfInBounds i true) (a.put o.dst undef) w) : wpAnyH P .any ops Q S (fuel + 1) listed a w :=
  wpAnyH_take ho hs hf hr (fun c a w => hQ c _ a w) (.inr ⟨hw, rfl⟩) hSw h
end Go.Proofs.YtkadlopcomjonaaDoor.pg
