/- What closing along edges, taken from the last one on, comes to. -/
import Derived.Test.YtkadlopcomjonaaDoorM30
import Derived.Test.YtkadlopcomjonaaDoorM29
import Derived.Test.YtkadlopcomjonaaDoorM27
import Derived.Test.YtkadlopcomjonaaDoorM23
namespace Go.Proofs.YtkadlopcomjonaaDoor.pg
open Go.ChangeShapes Go.WideShapes Go.ChangeAt Go.RowKit Go.Shelf
set_option linter.unusedVariables false
set_option linter.unusedSimpArgs false
/-- With all of its past. -/
def cloB (B : Nat → Nat → Bool) (n : Nat) (f : Nat → Bool) (a : Nat) : Bool := f a || (List.range n).any fun b => B a b && f b
theorem cloB_iff (B : Nat → Nat → Bool) (n : Nat) (f : Nat → Bool) (a : Nat) : cloB B n f a = true ↔ f a = true ∨ ∃ b, b < n ∧ B a b = true ∧ f b = true := by
  unfold cloB
  rw [Bool.or_eq_true, List.any_eq_true]
  simp only [List.mem_range, Bool.and_eq_true]
def gC (E : List (Nat × Nat)) (f C : Nat → Bool) (m a : Nat) : Bool := f a || (E.drop m).any fun p => p.1 == a && C p.2
theorem gC_step {E : List (Nat × Nat)} (f C : Nat → Bool) {m : Nat} {p : Nat × Nat} (hp : E[m]? = some p) (a : Nat) : gC E f C m a = (f a || ((p.1 == a && C p.2) || (E.drop (m + 1)).any fun p => p.1 == a && C p.2)) := by
  unfold gC
  have hm : m < E.length := (List.getElem?_eq_some_iff.mp hp).1
  have : E.drop m = p :: E.drop (m + 1) := by
    rw [List.drop_eq_getElem_cons hm]
    congr 1
    exact (List.getElem?_eq_some_iff.mp hp).2
  rw [this, List.any_cons]
section
variable {d B : Nat → Nat → Bool} (hB : Tells d B) {n : Nat} {E : List (Nat × Nat)} (hE : ∀ p, p ∈ E ↔ p.1 < p.2 ∧ p.2 < n ∧ edgeB d B p.1 p.2 = true) (f : Nat → Bool)
include hB hE
theorem gC_zero (a : Nat) : gC E f (cloB B n f) 0 a = cloB B n f a := by
  rw [Bool.eq_iff_iff]
  unfold gC
  rw [List.drop_zero, Bool.or_eq_true, List.any_eq_true, cloB_iff]
  constructor
  · rintro (h | ⟨p, hp, h⟩)
    · exact .inl h
    · simp only [Bool.and_eq_true, beq_iff_eq] at h
      obtain ⟨h1, h2, h3⟩ := (hE p).mp hp
      have he := edgeB_hb hB h3
      rw [h.1] at he
      right
      rcases (cloB_iff B n f p.2).mp h.2 with q | ⟨b, b1, b2, b3⟩
      · exact ⟨p.2, h2, (hB a p.2).mpr he, q⟩
      · exact ⟨b, b1, (hB a b).mpr (.then he ((hB p.2 b).mp b2)), b3⟩
  · rintro (h | ⟨b, b1, b2, b3⟩)
    · exact .inl h
    · right
      obtain ⟨m, m1, m2⟩ := edge_first hB ((hB a b).mp b2)
      have hlt := ((edgeB_iff d B a m).mp m1).1
      have hmb : m ≤ b := by
        rcases m2 with rfl | m2
        · exact Nat.le_refl _
        · have := m2.lt; omega
      refine ⟨(a, m), (hE (a, m)).mpr ⟨hlt, by show m < n; omega, m1⟩, ?_⟩
      simp only [Bool.and_eq_true, beq_iff_eq, true_and]
      rw [cloB_iff]
      rcases m2 with rfl | m2
      · exact .inl b3
      · exact .inr ⟨b, b1, (hB m b).mpr m2, b3⟩
theorem gC_known (hs : E.Pairwise fun p q => p.2 ≤ q.2) {m : Nat} {p : Nat × Nat} (hp : E[m]? = some p) : gC E f (cloB B n f) (m + 1) p.2 = cloB B n f p.2 := by
  rw [← gC_zero hB hE f p.2]
  have key : ∀ q, q ≤ m + 1 → gC E f (cloB B n f) q p.2 = gC E f (cloB B n f) (m + 1) p.2 := by
    intro q
    induction h : m + 1 - q generalizing q with
    | zero => intro hq; have : q = m + 1 := by omega
              rw [this]
    | succ r ih =>
      intro hq
      have hql : q < E.length := by have := (List.getElem?_eq_some_iff.mp hp).1; omega
      obtain ⟨x, hx, hxm⟩ := get_lt E q hql
      have hlt := ((hE x).mp hxm).1
      rw [← ih (q + 1) (by omega) (by omega), gC_step f _ hx]
      have hle : x.2 ≤ p.2 := by
        by_cases e : q = m
        · subst e
          rw [hx, Option.some.injEq] at hp
          rw [hp]; exact Nat.le_refl _
        · have h1 := List.pairwise_iff_getElem.mp hs q m hql (List.getElem?_eq_some_iff.mp hp).1 (by omega)
          rw [(List.getElem?_eq_some_iff.mp hx).2, (List.getElem?_eq_some_iff.mp hp).2] at h1
          exact h1
      have : (x.1 == p.2) = false := by rw [beq_eq_false_iff_ne]; omega
      rw [this, Bool.false_and, Bool.false_or]
      rfl
  exact (key 0 (by omega)).symm
theorem cfd_is (hs : E.Pairwise fun p q => p.2 ≤ q.2) : ∀ k, k ≤ E.length → ∀ a, cfd E f (dn E.length k) a = gC E f (cloB B n f) (E.length - k) a
  | 0, _, a => by
    show f a = _
    unfold gC
    rw [Nat.sub_zero, List.drop_length]
    simp
  | k + 1, hk, a => by
    have ih := cfd_is hs k (by omega)
    have hlt : E.length - 1 - k < E.length := by omega
    have hp : E[E.length - 1 - k]? = some (E.getD (E.length - 1 - k) (0, 0)) := by rw [List.getD_eq_getElem?_getD, List.getElem?_eq_getElem hlt]; rfl
    have e1 : E.length - k = (E.length - 1 - k) + 1 := by omega
    have e2 : E.length - (k + 1) = E.length - 1 - k := by omega
    rw [dn_more (by omega), cfd_more, e2, gC_step f _ hp]
    show cst (cfd E f (dn E.length k)) (E.getD (E.length - 1 - k) (0, 0)) a = _
    have hkn := gC_known hB hE f hs hp
    generalize E.getD (E.length - 1 - k) (0, 0) = p at *
    rw [e1] at ih
    unfold cst
    rw [ih, ih, ih, hkn]
    by_cases h : a = p.1
    · subst h
      have : (p.1 == p.1) = true := by simp
      rw [if_pos rfl, this, Bool.true_and]
      unfold gC
      cases f p.1 <;> cases cloB B n f p.2 <;> cases ((E.drop (E.length - 1 - k + 1)).any fun q => q.1 == p.1 && cloB B n f q.2) <;> rfl
    · have : (p.1 == a) = false := by rw [beq_eq_false_iff_ne]; exact fun q => h q.symm
      rw [if_neg h, this, Bool.false_and, Bool.false_or]
      rfl
theorem cfd_end (hs : E.Pairwise fun p q => p.2 ≤ q.2) : cfd E f (dn E.length E.length) = cloB B n f := by
  funext a
  rw [cfd_is hB hE f hs E.length (Nat.le_refl _), Nat.sub_self, gC_zero hB hE]
end
/-- Closed once, closed for good. -/
theorem cloB_clo {d B : Nat → Nat → Bool} (hB : Tells d B) (n : Nat) (f : Nat → Bool) (a : Nat) : cloB B n (cloB B n f) a = cloB B n f a := by
  rw [Bool.eq_iff_iff, cloB_iff]
  constructor
  · rintro (h | ⟨b, b1, b2, b3⟩)
    · exact h
    · rw [cloB_iff] at b3 ⊢
      right
      rcases b3 with q | ⟨c, c1, c2, c3⟩
      · exact ⟨b, b1, b2, q⟩
      · exact ⟨c, c1, (hB a c).mpr (.then ((hB a b).mp b2) ((hB b c).mp c2)), c3⟩
  · exact .inl
end Go.Proofs.YtkadlopcomjonaaDoor.pg
/- Closed and Cut of package order. -/
namespace Go.Proofs.YtkadlopcomjonaaDoor.pg
open Go.ChangeShapes Go.WideShapes Go.ChangeAt Go.RowKit Go.Shelf
set_option linter.unusedVariables false
set_option linter.unusedSimpArgs false
set_option maxRecDepth 100000
attribute [local go_sem ↓] Go.wp_at_zero Go.wp_at_succ
theorem infoB_some : ∃ i, Tryd.prog.info? 4 = some i := by
  have h : (Tryd.prog.info? 4).isSome = true := by kernel_rfl
  exact Option.isSome_iff_exists.mp h
theorem eqS_one (a b : Bool) (w : World) : (Op.equalIn 9999 4 (.bool a) (.bool b)).run Tryd.prog w = .ok (a == b) w := by
  have ub := Tryd.underlying4
  go_simp
theorem eqS_part (q : Nat → Bool) (i : Nat) (hi : i < 256) (w : World) : (part 4 (boolRow 256 q) (i * 1)).run Tryd.prog w = .ok (.bool (q i)) w := by
  have a1 := Tryd.isAgg4
  rw [Nat.mul_one]
  unfold part
  simp only [Sem.run_bind, a1, Result.andThen_ok]
  simp [boolRow_at hi]
theorem run_eqS (f g : Nat → Bool) (w : World) : ∀ is : List Nat, (∀ i ∈ is, i < 256) → (Op.eqItems 9999 4 1 (boolRow 256 f) (boolRow 256 g) is).run Tryd.prog w = .ok (is.all fun k => f k == g k) w
  | [], _ => by rw [Op.eqItems]; rfl
  | i :: is, h => by
    have ih := run_eqS f g w is fun k hk => h k (by simp [hk])
    have hi := h i (by simp)
    rw [Op.eqItems]
    simp only [Sem.run_bind, eqS_part _ _ hi, eqS_one, Result.andThen_ok, List.all_cons]
    cases hq : (f i == g i)
    · rfl
    · simp only [Bool.not_true, Bool.false_eq_true, if_false, Bool.true_and]
      exact ih
section
variable {l : List Ev} (hrt : ∀ x ∈ l, rightP x) {B : Nat → Nat → Bool} (hB : Tells (dpf l) B)
include hrt hB
theorem clo_rel (f : Nat → Bool) : cfd (rel (evf l) l.length).2 f (dn (rel (evf l) l.length).2.length (rel (evf l) l.length).2.length) = cloB B l.length f :=
  cfd_end hB (fun p => edges_mem hrt hB p) f (by rw [rel_list hrt hB l.length (Nat.le_refl _)]; exact elist_up _ _)
end
theorem RelB.rows {w W : World} {l : List Ev} {la : Option Addr} {lc Rr : Nat} {ca : Option Addr} {cc : Nat} {da : Option Addr} {dc : Nat} (h : RelB w W l la lc Rr ca cc da dc) : Rows W 2 da dc ((rel (evf l) l.length).2.map edg) := own_rows h.e fun row hm => by rw [List.mem_map] at hm; obtain ⟨y, _, rfl⟩ := hm; rfl
end Go.Proofs.YtkadlopcomjonaaDoor.pg
/- OrderByClocks. -/
namespace Go.Proofs.YtkadlopcomjonaaDoor.pg
open Go.ChangeShapes Go.WideShapes Go.ChangeAt Go.RowKit Go.Shelf
set_option linter.unusedVariables false
set_option linter.unusedSimpArgs false
set_option maxRecDepth 100000
attribute [local go_sem ↓] Go.wp_at_zero Go.wp_at_succ
/-- As far as a loop over a clock's numbers has come. -/
def ulTo (x y : Ck) (b : Bool) (k : Nat) : Bool := b && (List.range k).all fun q => decide (x.of q ≤ y.of q)
theorem ulTo_more (x y : Ck) (b : Bool) (k : Nat) : ulTo x y b (k + 1) = (ulTo x y b k && decide (x.of k ≤ y.of k)) := by
  unfold ulTo
  rw [List.range_succ, List.all_append]
  simp [Bool.and_assoc]
section
variable {l : List Ev} (hrt : ∀ x ∈ l, rightP x)
include hrt
theorem under_eq {i j : Nat} (hi : i < l.length) (hj : j < l.length) : ulTo ((rel (evf l) l.length).1.getD i zeroK) ((rel (evf l) l.length).1.getD j zeroK) (decide (i < j)) 6 = befK (rel (evf l) l.length).1 l i j := by
  obtain ⟨B, hB⟩ := tells_some (dpf l)
  have hl := rel_len (evf l) l.length
  have ei : (rel (evf l) l.length).1[i]? = some ((rel (evf l) l.length).1.getD i zeroK) := by rw [List.getD_eq_getElem?_getD, List.getElem?_eq_getElem (by omega)]; rfl
  have ej : (rel (evf l) l.length).1[j]? = some ((rel (evf l) l.length).1.getD j zeroK) := by rw [List.getD_eq_getElem?_getD, List.getElem?_eq_getElem (by omega)]; rfl
  have xi := rel_is hrt hB l.length (Nat.le_refl _) i _ ei
  have xj := rel_is hrt hB l.length (Nat.le_refl _) j _ ej
  unfold befK
  generalize (rel (evf l) l.length).1.getD i zeroK = x at *
  generalize (rel (evf l) l.length).1.getD j zeroK = y at *
  have hg : gof l i < 6 := gof_lt hrt hi
  unfold ulTo
  by_cases hij : i < j
  · simp only [hij, decide_true, Bool.true_and]
    rw [Bool.eq_iff_iff, List.all_eq_true, decide_eq_true_eq]
    have h1 := before_iff hB (ord_ok hrt) hij hj
    have h2 := under_iff hB (ord_ok hrt) hij hj
    constructor
    · intro h
      have := h (gof l i) (List.mem_range.mpr hg)
      exact of_decide_eq_true this
    · intro h q hq
      rw [List.mem_range] at hq
      have hb : B i j = true := h1.mp (by
        have a := xi (gof l i) hg
        have b := xj (gof l i) hg
        unfold gof at a b ⊢
        omega)
      have := (h2.mpr hb) q
      rw [decide_eq_true_eq, xi q hq, xj q hq]
      omega
  · simp [hij]
end
end Go.Proofs.YtkadlopcomjonaaDoor.pg
