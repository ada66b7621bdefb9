/- States as keys of a map; the first place of each in a list. -/
import Derived.Test.YtmlkcaocgklilaaReg
import Derived.Test.YtmlkcaocgklilaaMem
import Derived.Test.YtmlkcaocgklilaaPgSz
import Derived.Maps.OwnOps
import Derived.Maps.OwnSet
import Derived.DeepKeys4
import Derived.MapViews
import Derived.Laws.StructEq
namespace Go.Proofs.Ytmlkcaocgklilaa.pg
open Go.ChangeShapes Go.WideShapes Go.ChangeAt Go.RowKit
open Go.Maps (Keyed IsMap Tidy)
set_option linter.unusedVariables false
set_option linter.unusedSimpArgs false
set_option maxRecDepth 100000
/-- A state: its cells, and what it reads as. -/
structure Sta where
  cs : List Value
  len : cs.length = 121
  key : Lit
  hk : keyOf Try.prog 36 (.agg cs.toArray) = some key
theorem lawS : Keyed Try.prog 36 := Keyed.of_law (deep_law_laid (by kernel_rfl) (m := 6) (by omega) (of_decide_eq_true (by kernel_rfl)) (by kernel_rfl) (by rw [Try.underlying36]))
theorem tiledS : Try.prog.tiled 6 36 = true := by
  refine tiled_of_laidOut (by kernel_rfl) 6 36 ?_ (by kernel_rfl)
  simp only [isVar, Bool.and_eq_true, decide_eq_true_eq]
  refine ⟨of_decide_eq_true (by kernel_rfl), ?_⟩
  rw [Try.underlying36]
  rfl
theorem sta_one (x : Sta) : ∀ u ∈ x.cs, u.oneCell' = true := by
  obtain ⟨xs, L, he, hL, _⟩ := keyOf_top (by rw [Try.underlying36]) x.hk
  have := cells_of_lits 6 36 tiledS _ _ _ hL
  simp only [Value.agg.injEq] at he
  subst he
  intro u hu
  have hu2 : u ∈ L.map Lit.toCell := by rw [← this]; simpa using hu
  obtain ⟨l, _, rfl⟩ := List.mem_map.mp hu2
  cases l <;> rfl
theorem sta_eq {x y : Sta} : x.key = y.key ↔ x.cs = y.cs := by
  constructor
  · intro h
    have := lawS.inj x.hk (h ▸ y.hk)
    simpa using this
  · intro h
    have h1 := x.hk
    rw [h, y.hk] at h1
    exact (Option.some.inj h1).symm
theorem run_eqS (x y : Sta) (w : World) : ∃ r : Bool, (binOp .eql 36 (.agg x.cs.toArray) (.agg y.cs.toArray)).run Try.prog w = .ok (.bool r) w ∧ (r = true ↔ x.key = y.key) := by
  obtain ⟨r, hr, hiff⟩ := run_equal_deep (P := Try.prog) w (m := 6) (by omega) (k := 36) (by kernel_rfl) (by rw [Try.underlying36]) x.hk y.hk
  refine ⟨r, ?_, hiff⟩
  rw [run_eql_struct]
  have : (Op.equalIn 10000 36 (.agg x.cs.toArray) (.agg y.cs.toArray)).run Try.prog w = .ok r w := hr
  rw [this]
  rfl
/-- p is the first place at which stands what stands at i. -/
def IsFst (ks : List Lit) (i p : Nat) : Prop := p ≤ i ∧ ks[p]? = ks[i]? ∧ ∀ q, q < p → ks[q]? ≠ ks[i]?
theorem fst_ex (ks : List Lit) (i : Nat) : ∃ p, IsFst ks i p := by
  have : ∀ n, (∃ q, q ≤ i ∧ q ≤ n ∧ ks[q]? = ks[i]?) → ∃ p, IsFst ks i p := by
    intro n
    induction n with
    | zero =>
      rintro ⟨q, h1, h2, h3⟩
      obtain rfl : q = 0 := by omega
      exact ⟨0, h1, h3, fun q hq => by omega⟩
    | succ n ih =>
      rintro ⟨q, h1, h2, h3⟩
      by_cases e : ∃ q, q ≤ i ∧ q ≤ n ∧ ks[q]? = ks[i]?
      · exact ih e
      · exact ⟨q, h1, h3, fun r hr g => e ⟨r, by omega, by omega, g⟩⟩
  exact this i ⟨i, Nat.le_refl _, Nat.le_refl _, rfl⟩
theorem fst_uniq {ks : List Lit} {i j p q : Nat} (hi : IsFst ks i p) (hj : IsFst ks j q) (h : ks[i]? = ks[j]?) : p = q := by
  rcases Nat.lt_trichotomy p q with g | g | g
  · exact absurd (hi.2.1.trans h) (hj.2.2 p g)
  · exact g
  · exact absurd (hj.2.1.trans h.symm) (hi.2.2 q g)
/-- How many stand at their first place. -/
def cnt (P : Nat → Nat) : Nat → Nat
  | 0 => 0
  | j + 1 => cnt P j + if P j = j then 1 else 0
theorem cnt_le (P : Nat → Nat) (j : Nat) : cnt P j ≤ j := by
  induction j with
  | zero => exact Nat.le_refl _
  | succ j ih => unfold cnt; split <;> omega
theorem zeroN (w : World) : (zeroValue 3).run Try.prog w = .ok (.int .i64 0) w := by kernel_rfl
/-- The map of first places, of the first j. -/
def MapD (w : World) (B j : Nat) (ks : List Lit) (P : Nat → Nat) : Prop :=
  ∃ D : DataW Unit, w.ownsMap Try.prog 36 (plainElem Try.prog 3) B j D ∧ (∀ k i, i < j → ks[i]? = some k → Maps.has D k = true ∧ D.atKey k (.lit (.int .i64 0)) = .lit (.int .i64 (P i : Int))) ∧
    (∀ k, (∀ i, i < j → ks[i]? ≠ some k) → Maps.has D k = false) ∧ Maps.size D = cnt P j
theorem mapd_new (w : World) (ks : List Lit) (P : Nat → Nat) : MapD (w.alloc (.map #[] 0)) w.heap.size 0 ks P :=
  ⟨.map [], World.ownsMap_made _ _ _ _, fun k i h => by omega, fun k _ => rfl, rfl⟩
theorem MapD.kept {w w' : World} {B j : Nat} {ks : List Lit} {P : Nat → Nat} (h : MapD w B j ks P) (hb : w'.heap[B]? = w.heap[B]?) : MapD w' B j ks P := by
  obtain ⟨D, ⟨es, c, h1, h2⟩, h3⟩ := h
  exact ⟨D, ⟨es, c, hb.trans h1, h2⟩, h3⟩
theorem MapD.lt {w : World} {B j : Nat} {ks : List Lit} {P : Nat → Nat} (h : MapD w B j ks P) : B < w.heap.size := by
  obtain ⟨D, ⟨es, c, h1, h2⟩, h3⟩ := h
  exact (Array.getElem?_eq_some_iff.mp h1).1
theorem P_int {P : Nat → Nat} {j : Nat} (h : P j ≤ j) (hj : j < maxLen) : (Lit.int .i64 (P j : Int)).wf = true := by
  unfold maxLen at hj
  simp [Lit.wf, IntKind.min, IntKind.max, IntKind.bits, IntKind.signed]
  omega
/-- One that was seen already. -/
theorem MapD.seen {w : World} {B j : Nat} {ks : List Lit} {P : Nat → Nat} (hP : ∀ i, i < ks.length → IsFst ks i (P i)) (h : MapD w B j ks P) {k : Lit} (hk : ks[j]? = some k) (hs : ∃ i, i < j ∧ ks[i]? = some k) : MapD w B (j + 1) ks P := by
  obtain ⟨i0, hi0, hk0⟩ := hs
  have hjl := (List.getElem?_eq_some_iff.mp hk).1
  have hil := (List.getElem?_eq_some_iff.mp hk0).1
  have e : P i0 = P j := fst_uniq (hP i0 hil) (hP j hjl) (hk0.trans hk.symm)
  obtain ⟨D, h1, h2, h3, h4⟩ := h
  refine ⟨D, h1.mono (by omega), fun k' i hi hki => ?_, fun k' hn => h3 k' fun i hi => hn i (by omega), ?_⟩
  · by_cases g : i < j
    · exact h2 k' i g hki
    · obtain rfl : i = j := by omega
      obtain rfl : k = k' := by rw [hk] at hki; exact Option.some.inj hki
      have := h2 k i0 hi0 hk0
      rw [e] at this
      exact this
  · have : P j ≠ j := by
      have := (hP i0 hil).1
      omega
    rw [h4]
    simp [cnt, this]
/-- A new one, put in. -/
theorem MapD.put {w : World} {B j : Nat} {ks : List Lit} {P : Nat → Nat} (hP : ∀ i, i < ks.length → IsFst ks i (P i)) (h : MapD w B j ks P) {x : Sta} (hk : ks[j]? = some x.key) (hs : ∀ i, i < j → ks[i]? ≠ some x.key) (hj : j < maxLen) :
    ∃ w', (Instr.mapUpdate 49 (.map (some B)) (.agg x.cs.toArray) (.int .i64 (j : Int))).run Try.prog w = .ok () w' ∧ MapD w' B (j + 1) ks P ∧ w.grownBy w' (some B) := by
  have hjl := (List.getElem?_eq_some_iff.mp hk).1
  have e : P j = j := by
    have := hP j hjl
    rcases Nat.lt_or_ge (P j) j with g | g
    · exact absurd (this.2.1.trans hk) (hs _ g)
    · have := this.1; omega
  obtain ⟨D, h1, h2, h3, h4⟩ := h
  have hwf : (Lit.int .i64 (j : Int)).wf = true := by have := P_int (P := P) (j := j) (by omega) hj; rwa [e] at this
  obtain ⟨w', hr, ho, hg⟩ := h1.update lawS Try.underlying49 hj x.hk (plainElem_int Try.underlying3 hwf)
  have hM := h1.isMap
  refine ⟨w', hr, ⟨_, ho, fun k' i hi hki => ?_, fun k' hn => ?_, ?_⟩, hg⟩
  · by_cases g : i < j
    · have hne : k' ≠ x.key := fun q => hs i g (q ▸ hki)
      rw [Go.Maps.has_put_other hne, Go.Maps.atKey_put_other hne]
      exact h2 k' i g hki
    · obtain rfl : i = j := by omega
      obtain rfl : x.key = k' := by rw [hk] at hki; exact Option.some.inj hki
      rw [Go.Maps.has_put_same hM (lawS.key x.hk), Go.Maps.atKey_put_same hM (lawS.key x.hk), e]
      exact ⟨rfl, rfl⟩
  · have hne : k' ≠ x.key := fun q => hn j (by omega) (q ▸ hk)
    rw [Go.Maps.has_put_other hne]
    exact h3 k' fun i hi => hn i (by omega)
  · rw [Go.Maps.size_put (h1.tidy lawS), h3 x.key hs, h4]
    simp [cnt, e]
theorem MapD.look {w : World} {B j : Nat} {ks : List Lit} {P : Nat → Nat} (h : MapD w B j ks P) {x : Sta} {i : Nat} (hi : i < j) (hk : ks[i]? = some x.key) : (Instr.lookup 49 (.map (some B)) (.agg x.cs.toArray) false).run Try.prog w = .ok (.int .i64 (P i : Int)) w := by
  obtain ⟨D, h1, h2, h3, h4⟩ := h
  obtain ⟨c, hc, hat, _⟩ := h1.lookup_int lawS Try.underlying49 Try.underlying3 (zeroN w) x.hk
  rw [(h2 _ i hi hk).2] at hat
  simp only [DataW.lit.injEq, Lit.int.injEq, true_and] at hat
  rw [hc, hat]
theorem MapD.has {w : World} {B j : Nat} {ks : List Lit} {P : Nat → Nat} (h : MapD w B j ks P) {x : Sta} (r : Bool) (hr : r = true ↔ ∃ i, i < j ∧ ks[i]? = some x.key) : ∃ c : Int, (Instr.lookup 49 (.map (some B)) (.agg x.cs.toArray) true).run Try.prog w = .ok (.tuple #[.int .i64 c, .bool r]) w := by
  obtain ⟨D, h1, h2, h3, h4⟩ := h
  have hb : Maps.has D x.key = r := by
    cases r with
    | true =>
      obtain ⟨i, hi, hk⟩ := hr.mp rfl
      exact (h2 _ i hi hk).1
    | false => exact h3 _ fun i hi q => by have := hr.mpr ⟨i, hi, q⟩; cases this
  obtain ⟨v, ps, hrun, hv⟩ := h1.look_ok lawS Try.underlying49 (zeroN w) (plainElem_int Try.underlying3 (by decide)) x.hk
  obtain ⟨c, rfl, _, _⟩ := plainElem_int_inv Try.underlying3 hv
  exact ⟨c, by rw [hrun, hb]⟩
theorem MapD.size {w : World} {B j : Nat} {ks : List Lit} {P : Nat → Nat} (h : MapD w B j ks P) (ty : TypeId) : (Builtin.len_ #[49] ty #[.map (some B)]).run Try.prog w = .ok (.int .i64 (cnt P j : Int)) w := by
  obtain ⟨D, h1, h2, h3, h4⟩ := h
  rw [h1.len Try.underlying49, h4]
theorem state_ix {w : World} {a : Option Addr} {cap : Nat} {l : List Sta} (h : Rows w 121 a cap (l.map Sta.cs)) (i : Nat) (x : Sta) (hi : l[i]? = some x) :
    ∃ b o, (∀ wx, (Instr.indexAt 22 (.slice a l.length cap) (.int .i64 (i : Int))).run Try.prog wx = .ok (.pointer (some ⟨b, o, none⟩)) wx) ∧ b < w.heap.size ∧ w.rangeAt b o x.cs := by
  obtain ⟨b, o, hr, hlt, hc⟩ := h.ix 22 36 Try.underlying22 (by kernel_rfl) (fun wx => Try.sizeOf36 wx) i (row := x.cs) (by simp [hi])
  rw [List.length_map] at hr
  exact ⟨b, o, hr, hlt, hc⟩
theorem range_new (w : World) (cs : List Value) (t : TypeId) : (w.alloc (.cells cs.toArray t)).rangeAt w.heap.size 0 cs := fun j v hv => by
  rw [Nat.zero_add]
  exact (World.cell?_alloc_at _ _ _ _ rfl).trans (by simpa using hv)
theorem zeroS : ∃ Z : Array Value, (∀ w, (zeroValue 36).run Try.prog w = .ok (.agg Z) w) ∧ Z.size = 121 ∧ (Try.prog.info? 36).bind (·.zero) = some (.agg Z) := zero_big (by kernel_rfl)
theorem sta_all (x : Sta) : x.cs.toArray.all (·.oneCell') = true := all_oneCell_toArray (sta_one x)
theorem infoS121 (x : Sta) : (Try.prog.info? 36).map (·.size) = some x.cs.length := by rw [x.len]; kernel_rfl
theorem infoS121a (x : Sta) : (Try.prog.info? 36).map (·.size) = some x.cs.toArray.size := by rw [List.size_toArray, x.len]; kernel_rfl
end Go.Proofs.Ytmlkcaocgklilaa.pg
