/- A region that draws its order, in the body of a loop over an iterator: what is shown of it outside holds there. -/
import Derived.Test.YtkhhkgfaakgdfaaM3
import Derived.RangeFuncNested
import Derived.RangeFuncBound
import Derived.RangeFuncCalls
import Derived.RangeFuncLeaves
import Derived.OwnWalkIn
import Derived.TacticsInMore
import Derived.LoopNIn
import Derived.LoopIn
import Derived.OrdersIn
import Derived.Test.YtkhhkgfaakgdfaaM1
import Derived.SizedLaws
namespace Go.Proofs.Ytkhhkgfaakgdfaa.pg
open Go.ChangeShapes Go.WideShapes Go.ChangeAt Go.RowKit
set_option linter.unusedVariables false
set_option linter.unusedSimpArgs false
section
variable {P : Program} {ops : Array Oper} {Q : Exit → Act → World → Prop} {l n : Nat}
/-- No operation that defers a call. -/
def noDefer (ops : Array Oper) : Bool := ops.all fun o => match o.op with
  | .defer _ => false
  | _ => true
theorem noDefer_at {i : Nat} {o : Oper} (h : noDefer ops = true) (ho : ops[i]? = some o) (c : Call) : o.op ≠ .defer c := by
  intro e
  unfold noDefer at h
  rw [Array.all_eq_true] at h
  obtain ⟨hi, hx⟩ := Array.getElem?_eq_some_iff.mp ho
  have := h i hi
  rw [hx, e] at this
  simp at this
theorem wide_room (k : Nat) : (Fence.wide.inRound l).room k := fun d h => by simp [Fence.wide, Fence.inRound] at h
theorem wide_depth : (Fence.wide.inRound l).depth.isSome = true → 1 ≤ n := fun h => by simp [Fence.wide, Fence.inRound] at h
theorem op_round {o : Oper} {a : Act} {w : World} {K : Act → World → Prop} (hd : ∀ c, o.op ≠ .defer c) (h : o.wp P a w K Q) : o.wpIn (Fence.wide.inRound l) n P a w K Q := by
  unfold Oper.wp at h
  unfold Oper.wpIn
  refine ⟨fun f _ => trivial, ?_⟩
  rw [Fence.inRound_round, Oper.semAt_some l _ _ hd]
  generalize (execOp a.eval o).run P w = r at *
  cases r with
  | ok x w' =>
    cases x <;> simp only [Oper.upon, Oper.uponIn] at h ⊢ <;> first
      | exact h
      | exact ⟨wide_depth, CallsIn.inRound l (callsIn_wide.2 h)⟩
      | exact ⟨wide_depth, fun c cs _ => let ⟨v, w', r, s⟩ := h c cs; ⟨v, w', r, stepsIn_wide.2 s⟩⟩
  | halt x w' => cases x <;> simp only [Oper.upon, Oper.uponIn] at h ⊢ <;> exact h
theorem any_round {md : Region.Mode} (hd : noDefer ops = true) (hno : ¬ LetsOut Q) : ∀ (fuel : Nat) (listed : Array Bool) (a : Act) (w : World), wpAny P md ops Q fuel listed a w → wpAnyIn (Fence.wide.inRound l) n P md ops Q fuel listed a w
  | 0, _, _, _, h => h
  | fuel + 1, listed, a, w, h => ⟨h.1, fun i hi => by
    have h2 := h.2 i hi
    unfold wpOp at h2
    unfold wpOpIn
    cases ho : ops[i]? with
    | none =>
      simp only [ho] at h2
      exact any_round hd hno fuel _ a w h2
    | some o =>
      simp only [ho] at h2
      by_cases hw : Region.wanted o (yielded ops a.tmps) = true
      · simp only [hw, if_true] at h2 ⊢
        rcases h2 with h2 | h2
        · exact op_round (noDefer_at hd ho) (Oper.wp_mono (fun a' w' h' => any_round hd hno fuel _ a' w' h') h2)
        · exact (hno h2.2).elim
      · simp only [hw] at h2 ⊢
        exact ⟨fun f _ => trivial, any_round hd hno fuel _ _ w h2⟩⟩
theorem wpR_any {id : Nat} {a : Act} {w : World} (hm : P.follows .mixedOrders = true) (hd : noDefer ops = true) (hno : ¬ LetsOut Q)
    (h : wpAny P .any ops Q ops.size (Array.replicate ops.size false) a { w with drawn := w.drawn + 1 }) : (Code.region id ops true).wpIn (Fence.wide.inRound l) n P Q a w :=
  wpIn_region_any hm (any_round hd hno _ _ _ _ h)
/-- Walked once in the order of its text, in every world of a class. -/
theorem wpR_cls (S : World → Prop) {id : Nat} {a : Act} {w : World} {L : List Oper} (hm : P.follows .mixedOrders = true) (hB : Region.lexB .any L.toArray = true) (hd : noDefer L.toArray = true) (hno : ¬ LetsOut Q) (hS : S w.drew)
    (h : wpQuiet P L.toArray (fun w' => ∃ s : Cls S, w' = s.w) (fun a' => ∀ w', (∃ s : Cls S, w' = s.w) → Q .normal a' w') L a) : (Code.region id L.toArray true).wpIn (Fence.wide.inRound l) n P Q a w := by
  simp only [Region.lexB, Bool.and_eq_true] at hB
  refine wpR_any hm hd hno (wpAny_of_quiet (C := fun w' => ∃ s : Cls S, w' = s.w) (Q := fun a' => ∀ w', (∃ s : Cls S, w' = s.w) → Q .normal a' w') (fun _ w' hw' h => h w' hw') _ _ _ _ ⟨⟨_, hS⟩, rfl⟩ ?_)
  have := wpAnyQ_lex (C := fun w' => ∃ s : Cls S, w' = s.w) (md := .any) hB.1 L 0 (Array.replicate L.toArray.size false) a (by simp) (by simpa using hB.2) h
  simpa using this
/-- Walked by hand, a condition on the world held. -/
theorem wpR_held (S : World → Prop) {id : Nat} {a : Act} {w : World} (hm : P.follows .mixedOrders = true) (hd : noDefer ops = true) (hno : ¬ LetsOut Q)
    (h : wpAnyH P .any ops Q S ops.size (Array.replicate ops.size false) a w.drew) : (Code.region id ops true).wpIn (Fence.wide.inRound l) n P Q a w :=
  wpR_any hm hd hno (wpAny_of_held _ _ _ _ h)
end
end Go.Proofs.Ytkhhkgfaakgdfaa.pg
/- A program that came in, opened, with its sizes: none of its lists takes more bytes than a machine has. -/
namespace Go.Proofs.Ytkhhkgfaakgdfaa.pg
open Go.ChangeShapes Go.WideShapes Go.ChangeAt Go.RowKit
set_option linter.unusedVariables false
set_option maxRecDepth 100000
def MSel.sz (s : MSel) : Prop := s.cases.length * 32 ≤ reachBytes
def MFn.sz (f : MFn) : Prop := f.code.length * 40 ≤ reachBytes ∧ f.sels.length * 32 ≤ reachBytes ∧ ∀ s ∈ f.sels, s.sz
def MPr.sz (p : MPr) : Prop := p.vars.length * 16 ≤ reachBytes ∧ p.chans.length * 8 ≤ reachBytes ∧ p.fns.length * 64 ≤ reachBytes ∧ ∀ f ∈ p.fns, f.sz
section
variable {H : Type} {enc : TypeId × Value → H} {P : Program} {w : World} {base : Nat} {spare : Nat → Bool} {held : Bool}
def Sz (P : Program) (t : TypeId) (d : DataW H) : Prop := ∀ n ∈ d.weights P t, n ≤ reachBytes
theorem mem_weightsAll {e : TypeId} {l : List (DataW H)} {d : DataW H} (hd : d ∈ l) (n : Nat) (hn : n ∈ d.weights P e) : n ∈ DataW.weightsAll P e l := by
  induction l with
  | nil => simp at hd
  | cons x t ih =>
    simp only [DataW.weightsAll, List.mem_append]
    rcases List.mem_cons.mp hd with rfl | hd
    · exact .inl hn
    · exact .inr (ih hd)
/-- A list, opened: its elements' cells are as the elements' own readings tell. -/
theorem rows_sz {α : Type} (dflt : α) {t e : TypeId} {k fuel : Nat} {a : Option Addr} {len cap : Nat} {x : DataW H × List MemPlace} (C : α → List Value) (Q : α → Prop) (ht : P.underlying t = some (.slice e)) (hk : P.cellsOf e = k) (hk0 : 0 < k)
    (hel : ∀ n cs y, cs.length = k → DataW.trod enc P w base spare held n e cs = some y → Sz P e y.1 → ∃ x, cs = C x ∧ Q x)
    (h : DataW.trod enc P w base spare held fuel t [.slice a len cap] = some x) (hs : Sz P t x.1) : ∃ l : List α, l.length = len ∧ Rows w k a cap (l.map C) ∧ (∀ x ∈ l, Q x) ∧ len * P.bytesOf e ≤ reachBytes := by
  rcases Go.Deep.open_slice ht h with ⟨hcs, _⟩ | ⟨ad, len', cap', m, n, D, Pl, hcs, _, hl, hm, hmm, hxd, hx⟩
  · simp only [List.cons.injEq, Value.slice.injEq, and_true] at hcs
    obtain ⟨rfl, rfl, rfl⟩ := hcs
    exact ⟨[], rfl, ⟨by simp, by simp, by simp, .inl rfl⟩, by simp, by simp⟩
  · simp only [List.cons.injEq, Value.slice.injEq, and_true] at hcs
    obtain ⟨rfl, rfl, rfl⟩ := hcs
    unfold maxLen at hm
    have hlm : len ≤ m := by rw [hmm]; split <;> omega
    subst hxd
    have hs1 : (((List.range len).map D).length + ((List.range (m - len)).map fun j => D (len + j)).length) * P.bytesOf e ≤ reachBytes := hs _ (by
      simp only [DataW.weights, ht]; exact List.mem_cons_self)
    have hs2 : ∀ i, i < len → Sz P e (D i) := fun i hi n hn => hs n (by
      simp only [DataW.weights, ht]
      refine List.mem_cons_of_mem _ (List.mem_append_left _ (mem_weightsAll (d := D i) ?_ n hn))
      simp only [List.mem_map, List.mem_range]
      exact ⟨i, hi, rfl⟩)
    have each : ∀ i, i < len → ∃ y : α, Q y ∧ (C y).length = k ∧ ∀ j u, (C y)[j]? = some u → w.cell? (ad.add (i * k + j)) = some u := fun i hi => by
      obtain ⟨cs', h1, h2⟩ := hx i (by omega)
      rw [hk] at h1
      obtain ⟨_, hlen, hcell⟩ := World.cells?_some h1
      obtain ⟨y, rfl, hQ⟩ := hel n cs' _ hlen h2 (hs2 i hi)
      refine ⟨y, hQ, hlen, fun j u hj => ?_⟩
      have hjk : j < k := by have := (List.getElem?_eq_some_iff.mp hj).1; omega
      have := hcell j hjk
      rw [Go.Deep.add_add] at this
      rw [this, hj]
    have inh : Inhabited α := ⟨dflt⟩
    obtain ⟨f, hf⟩ := Go.Deep.choose_lt each
    refine ⟨(List.range len).map f, by simp, ⟨by simpa using hl, by omega, by simp, ?_⟩, fun y hy => ?_, ?_⟩
    · by_cases h0 : len = 0
      · subst h0; exact .inl rfl
      right
      obtain ⟨b, off, spot⟩ := ad
      obtain ⟨_, hl0, hc0⟩ := hf 0 (by omega)
      have hcell0 : w.cell? ((⟨b, off, spot⟩ : Addr).add (0 * k + 0)) = some ((C (f 0))[0]'(by omega)) := hc0 0 _ (List.getElem?_eq_getElem (by omega))
      have hs : spot = none := by simpa [Addr.add] using World.cell?_spot hcell0
      subst hs
      rw [add_none] at hcell0
      refine ⟨b, off, rfl, World.block_lt_of_cell? _ _ hcell0, fun i row hi => ?_⟩
      simp only [List.map_map, List.getElem?_map, Option.map_eq_some_iff] at hi
      obtain ⟨i', hi', rfl⟩ := hi
      have hil : i < len ∧ i' = i := by
        have h1 := (List.getElem?_eq_some_iff.mp hi').1
        have h2 := (List.getElem?_eq_some_iff.mp hi').2
        simp at h1 h2
        exact ⟨h1, h2.symm⟩
      obtain ⟨hil, rfl⟩ := hil
      obtain ⟨_, h1, h2⟩ := hf i' hil
      exact ⟨h1, fun j u hj => by rw [← add_none]; exact h2 j u hj⟩
    · simp only [List.mem_map, List.mem_range] at hy
      obtain ⟨i, hi, rfl⟩ := hy
      exact (hf i hi).1
    · have := hs1
      simp only [List.length_map, List.length_range] at this
      exact Nat.le_trans (Nat.mul_le_mul_right _ (Nat.le_add_right _ _)) this
/-- A field of one cell. -/
theorem field_sz {t : TypeId} {fs : Array Field} {fuel : Nat} {cs : List Value} {x : DataW H × List MemPlace} (ht : P.underlying t = some (.struct fs)) (h : DataW.trod enc P w base spare held fuel t cs = some x)
    (i : Nat) (f : Field) (hi : fs[i]? = some f) (ho : f.offset = i) (hc : P.cellsOf f.type = 1) (hl : i < cs.length) (hs : Sz P t x.1) : ∃ v y n, cs[i]? = some v ∧ DataW.trod enc P w base spare held n f.type [v] = some y ∧ Sz P f.type y.1 := by
  obtain ⟨xs, n, _, hxd, _, hlen, hf⟩ := DataW.trod_struct ht h
  have h1 := hf i f hi
  have hlt : i < xs.length := by rw [hlen]; exact (Array.getElem?_eq_some_iff.mp hi).1
  rw [ho, hc, List.getElem?_eq_getElem hlt] at h1
  refine ⟨cs[i], xs[i], n, List.getElem?_eq_getElem hl, ?_, fun m hm => hs m ?_⟩
  rotate_left
  · rw [hxd]
    simp only [DataW.weights, ht]
    exact DataW.weights_mem_each (j := i) (t := f.type) (d := (xs[i]).1) (by simp [hi]) (by simp [hlt]) m hm
  rw [← h1]
  congr 1
  rw [List.drop_eq_getElem_cons hl]
  rfl
end
section
variable {H : Type} {enc : TypeId × Value → H} {w : World} {base : Nat} {spare : Nat → Bool} {held : Bool}
end
end Go.Proofs.Ytkhhkgfaakgdfaa.pg
