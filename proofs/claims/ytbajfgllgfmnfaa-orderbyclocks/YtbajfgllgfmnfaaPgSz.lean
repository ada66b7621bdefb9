/- A program that came in, opened, with its sizes: none of its lists takes more bytes than a machine has. -/
import Derived.Test.YtbajfgllgfmnfaaPgIn
import Derived.SizedLaws
namespace Go.Proofs.Ytbajfgllgfmnfaa.pg
open Go.ChangeShapes Go.WideShapes Go.ChangeAt Go.RowKit
set_option linter.unusedVariables false
set_option maxRecDepth 100000
def MSel.sz (s : MSel) : Prop := s.cases.length * 32 ≤ reachBytes
def MFn.sz (f : MFn) : Prop := f.code.length * 40 ≤ reachBytes ∧ f.sels.length * 32 ≤ reachBytes ∧ ∀ s ∈ f.sels, s.sz
def MPr.sz (p : MPr) : Prop := p.vars.length * 16 ≤ reachBytes ∧ p.chans.length * 8 ≤ reachBytes ∧ p.fns.length * 64 ≤ reachBytes ∧ ∀ f ∈ p.fns, f.sz
section
variable {H : Type} {enc : TypeId × Value → H} {P : Program} {w : World} {base : Nat} {spare : Nat → Bool} {held : Bool}
def Sz (P : Program) (t : TypeId) (d : DataW H) : Prop := ∀ n ∈ d.weights P t, n ≤ reachBytes
theorem mem_weightsAll {e : TypeId} {l : List (DataW H)} {d : DataW H} (hd : d ∈ l) (n : Nat) (hn : n ∈ d.weights P e) : n ∈ DataW.weightsAll P e l := by
  induction l with
  | nil => simp at hd
  | cons x t ih =>
    simp only [DataW.weightsAll, List.mem_append]
    rcases List.mem_cons.mp hd with rfl | hd
    · exact .inl hn
    · exact .inr (ih hd)
/-- A list, opened: its elements' cells are as the elements' own readings tell. -/
theorem rows_sz {α : Type} (dflt : α) {t e : TypeId} {k fuel : Nat} {a : Option Addr} {len cap : Nat} {x : DataW H × List MemPlace} (C : α → List Value) (Q : α → Prop) (ht : P.underlying t = some (.slice e)) (hk : P.cellsOf e = k) (hk0 : 0 < k)
    (hel : ∀ n cs y, cs.length = k → DataW.trod enc P w base spare held n e cs = some y → Sz P e y.1 → ∃ x, cs = C x ∧ Q x)
    (h : DataW.trod enc P w base spare held fuel t [.slice a len cap] = some x) (hs : Sz P t x.1) : ∃ l : List α, l.length = len ∧ Rows w k a cap (l.map C) ∧ (∀ x ∈ l, Q x) ∧ len * P.bytesOf e ≤ reachBytes := by
  rcases Go.Deep.open_slice ht h with ⟨hcs, _⟩ | ⟨ad, len', cap', m, n, D, Pl, hcs, _, hl, hm, hmm, hxd, hx⟩
  · simp only [List.cons.injEq, Value.slice.injEq, and_true] at hcs
    obtain ⟨rfl, rfl, rfl⟩ := hcs
    exact ⟨[], rfl, ⟨by simp, by simp, by simp, .inl rfl⟩, by simp, by simp⟩
  · simp only [List.cons.injEq, Value.slice.injEq, and_true] at hcs
    obtain ⟨rfl, rfl, rfl⟩ := hcs
    unfold maxLen at hm
    have hlm : len ≤ m := by rw [hmm]; split <;> omega
    subst hxd
    have hs1 : (((List.range len).map D).length + ((List.range (m - len)).map fun j => D (len + j)).length) * P.bytesOf e ≤ reachBytes := hs _ (by
      simp only [DataW.weights, ht]; exact List.mem_cons_self)
    have hs2 : ∀ i, i < len → Sz P e (D i) := fun i hi n hn => hs n (by
      simp only [DataW.weights, ht]
      refine List.mem_cons_of_mem _ (List.mem_append_left _ (mem_weightsAll (d := D i) ?_ n hn))
      simp only [List.mem_map, List.mem_range]
      exact ⟨i, hi, rfl⟩)
    have each : ∀ i, i < len → ∃ y : α, Q y ∧ (C y).length = k ∧ ∀ j u, (C y)[j]? = some u → w.cell? (ad.add (i * k + j)) = some u := fun i hi => by
      obtain ⟨cs', h1, h2⟩ := hx i (by omega)
      rw [hk] at h1
      obtain ⟨_, hlen, hcell⟩ := World.cells?_some h1
      obtain ⟨y, rfl, hQ⟩ := hel n cs' _ hlen h2 (hs2 i hi)
      refine ⟨y, hQ, hlen, fun j u hj => ?_⟩
      have hjk : j < k := by have := (List.getElem?_eq_some_iff.mp hj).1; omega
      have := hcell j hjk
      rw [Go.Deep.add_add] at this
      rw [this, hj]
    have inh : Inhabited α := ⟨dflt⟩
    obtain ⟨f, hf⟩ := Go.Deep.choose_lt each
    refine ⟨(List.range len).map f, by simp, ⟨by simpa using hl, by omega, by simp, ?_⟩, fun y hy => ?_, ?_⟩
    · by_cases h0 : len = 0
      · subst h0; exact .inl rfl
      right
      obtain ⟨b, off, spot⟩ := ad
      obtain ⟨_, hl0, hc0⟩ := hf 0 (by omega)
      have hcell0 : w.cell? ((⟨b, off, spot⟩ : Addr).add (0 * k + 0)) = some ((C (f 0))[0]'(by omega)) := hc0 0 _ (List.getElem?_eq_getElem (by omega))
      have hs : spot = none := by simpa [Addr.add] using World.cell?_spot hcell0
      subst hs
      rw [add_none] at hcell0
      refine ⟨b, off, rfl, World.block_lt_of_cell? _ _ hcell0, fun i row hi => ?_⟩
      simp only [List.map_map, List.getElem?_map, Option.map_eq_some_iff] at hi
      obtain ⟨i', hi', rfl⟩ := hi
      have hil : i < len ∧ i' = i := by
        have h1 := (List.getElem?_eq_some_iff.mp hi').1
        have h2 := (List.getElem?_eq_some_iff.mp hi').2
        simp at h1 h2
        exact ⟨h1, h2.symm⟩
      obtain ⟨hil, rfl⟩ := hil
      obtain ⟨_, h1, h2⟩ := hf i' hil
      exact ⟨h1, fun j u hj => by rw [← add_none]; exact h2 j u hj⟩
    · simp only [List.mem_map, List.mem_range] at hy
      obtain ⟨i, hi, rfl⟩ := hy
      exact (hf i hi).1
    · have := hs1
      simp only [List.length_map, List.length_range] at this
      exact Nat.le_trans (Nat.mul_le_mul_right _ (Nat.le_add_right _ _)) this
/-- A field of one cell. -/
theorem field_sz {t : TypeId} {fs : Array Field} {fuel : Nat} {cs : List Value} {x : DataW H × List MemPlace} (ht : P.underlying t = some (.struct fs)) (h : DataW.trod enc P w base spare held fuel t cs = some x)
    (i : Nat) (f : Field) (hi : fs[i]? = some f) (ho : f.offset = i) (hc : P.cellsOf f.type = 1) (hl : i < cs.length) (hs : Sz P t x.1) : ∃ v y n, cs[i]? = some v ∧ DataW.trod enc P w base spare held n f.type [v] = some y ∧ Sz P f.type y.1 := by
  obtain ⟨xs, n, _, hxd, _, hlen, hf⟩ := DataW.trod_struct ht h
  have h1 := hf i f hi
  have hlt : i < xs.length := by rw [hlen]; exact (Array.getElem?_eq_some_iff.mp hi).1
  rw [ho, hc, List.getElem?_eq_getElem hlt] at h1
  refine ⟨cs[i], xs[i], n, List.getElem?_eq_getElem hl, ?_, fun m hm => hs m ?_⟩
  rotate_left
  · rw [hxd]
    simp only [DataW.weights, ht]
    exact DataW.weights_mem_each (j := i) (t := f.type) (d := (xs[i]).1) (by simp [hi]) (by simp [hlt]) m hm
  rw [← h1]
  congr 1
  rw [List.drop_eq_getElem_cons hl]
  rfl
end
section
variable {H : Type} {enc : TypeId × Value → H} {w : World} {base : Nat} {spare : Nat → Bool} {held : Bool}
end
end Go.Proofs.Ytbajfgllgfmnfaa.pg
