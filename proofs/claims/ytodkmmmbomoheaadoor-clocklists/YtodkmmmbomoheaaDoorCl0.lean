/- Clocks as keys of a map; lists of clocks: Joined, by both. -/
import Derived.Test.YtodkmmmbomoheaaDoorCk8
import Derived.Test.YtodkmmmbomoheaaDoorCp0
import Derived.Test.YtodkmmmbomoheaaDoorAp0
import Derived.Test.YtodkmmmbomoheaaDoorMk
import Derived.Maps.OwnOps
import Derived.Maps.OwnSet
import Derived.DeepKeys4
import Derived.MapViews
namespace Go.Proofs.YtodkmmmbomoheaaDoor.pg
open Go.ChangeShapes Go.WideShapes Go.ChangeAt Go.RowKit
open Go.Maps (Keyed IsMap)
set_option linter.unusedVariables false
set_option linter.unusedSimpArgs false
set_option maxRecDepth 100000
attribute [local go_sem ↓] Go.wp_at_zero Go.wp_at_succ
theorem lawK : Keyed Tryd.prog 23 := Keyed.of_law (deep_law_laid (by kernel_rfl) (m := 3) (by omega) (of_decide_eq_true (by kernel_rfl)) (by kernel_rfl) (by rw [Tryd.underlying23]))
theorem zeroU (w : World) : (zeroValue 68).run Tryd.prog w = .ok (.agg #[]) w := by kernel_rfl
theorem wfL {z : Int} (h : I64 z) : (Lit.int .i64 z).wf = true := by
  simp [Lit.wf, IntKind.min, IntKind.max, IntKind.bits, IntKind.signed]
  exact h
theorem keyK (x : Ck) (hx : x.wf) : ∃ l, keyOf Tryd.prog 23 x.val = some l := by
  have h1 : Tryd.prog.keyTypeAt (Tryd.prog.types.size + 1) 23 = true := by kernel_rfl
  have hc : Tryd.prog.cellsOf 23 = 6 := by kernel_rfl
  have hc1 : Tryd.prog.cellsOf 3 = 1 := by kernel_rfl
  have hf : x.val.formed Tryd.prog 23 = true := by simp [Value.formed, Tryd.underlying23, hc]
  have ht : DataW.Trod (H := Unit) (fun _ => ()) Tryd.prog default 0 (fun _ => true) true 23 x.val (.agg [.lit (.int .i64 x.c0), .lit (.int .i64 x.c1), .lit (.int .i64 x.c2), .lit (.int .i64 x.c3), .lit (.int .i64 x.c4), .lit (.int .i64 x.c5)]) [] :=
    ⟨2, by simp [DataW.trod, Value.cells, Tryd.underlying23, Tryd.underlying3, hc, hc1, wfL hx.1, wfL hx.2.1, wfL hx.2.2.1, wfL hx.2.2.2.1, wfL hx.2.2.2.2.1, wfL hx.2.2.2.2.2, List.range, List.range.loop]⟩
  exact ⟨_, (keyOf_asKey h1 (by rw [Tryd.underlying23]) hf ht).1⟩
theorem val_inj {x y : Ck} (h : x.val = y.val) : x = y := by
  cases x; cases y; simp_all
/-- A set of clocks. -/
def SetK (w : World) (b n : Nat) (s : List Ck) : Prop :=
  ∃ D : DataW Unit, w.ownsMap Tryd.prog 23 unitElem b n D ∧ ∀ x l, keyOf Tryd.prog 23 x.val = some l → (Maps.has D l = true ↔ x ∈ s)
theorem setK_new (w : World) : SetK (w.alloc (.map #[] 0)) w.heap.size 0 [] :=
  ⟨.map [], World.ownsMap_made _ _ _ _, fun x l _ => by simp [Maps.has, DataW.atKey]⟩
theorem SetK.lt {w : World} {b n : Nat} {s : List Ck} (h : SetK w b n s) : b < w.heap.size := by
  obtain ⟨D, ⟨es, c, h1, h2⟩, h3⟩ := h
  exact (Array.getElem?_eq_some_iff.mp h1).1
theorem SetK.kept {w w' : World} {b n : Nat} {s : List Ck} (h : SetK w b n s) (hb : w'.heap[b]? = w.heap[b]?) : SetK w' b n s := by
  obtain ⟨D, ⟨es, c, h1, h2⟩, h3⟩ := h
  exact ⟨D, ⟨es, c, hb.trans h1, h2⟩, h3⟩
theorem SetK.look {w : World} {b n : Nat} {s : List Ck} (h : SetK w b n s) (x : Ck) (hx : x.wf) (r : Bool) (hr : r = true ↔ x ∈ s) : (Instr.lookup 67 (.map (some b)) x.val true).run Tryd.prog w = .ok (.tuple #[.agg #[], .bool r]) w := by
  obtain ⟨D, h1, h2⟩ := h
  obtain ⟨l, hl⟩ := keyK x hx
  obtain ⟨v, ps, hrun, hv⟩ := h1.look_ok lawK Tryd.underlying67 (zeroU w) unitElem_mk hl
  obtain ⟨rfl, _⟩ := unitElem_inv hv
  have : Maps.has D l = r := by rw [Bool.eq_iff_iff, h2 x l hl, hr]
  rw [hrun, this]
theorem SetK.put {w : World} {b n : Nat} {s : List Ck} (h : SetK w b n s) (hn : n < maxLen) (x : Ck) (hx : x.wf) :
    ∃ w', (Instr.mapUpdate 67 (.map (some b)) x.val (.agg #[])).run Tryd.prog w = .ok () w' ∧ SetK w' b (n + 1) (s ++ [x]) ∧ w.grownBy w' (some b) := by
  obtain ⟨D, h1, h2⟩ := h
  obtain ⟨l, hl⟩ := keyK x hx
  obtain ⟨w', hr, ho, hg⟩ := h1.update lawK Tryd.underlying67 hn hl unitElem_mk
  refine ⟨w', hr, ⟨_, ho, fun y l2 hl2 => ?_⟩, hg⟩
  by_cases e : y = x
  · subst e
    rw [hl] at hl2
    cases hl2
    rw [Go.Maps.has_put_same h1.isMap (lawK.key hl)]
    simp
  · have hne : l2 ≠ l := fun q => by
      subst q
      exact e (val_inj (lawK.inj hl2 hl))
    rw [Go.Maps.has_put_other hne, h2 y l2 hl2]
    simp [e]
end Go.Proofs.YtodkmmmbomoheaaDoor.pg
