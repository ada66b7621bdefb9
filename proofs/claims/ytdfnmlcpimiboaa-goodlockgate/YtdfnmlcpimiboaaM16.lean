/- look of package order. -/
import Derived.Test.YtdfnmlcpimiboaaM14
import Derived.Test.YtdfnmlcpimiboaaM15
import Derived.Test.YtdfnmlcpimiboaaM6
namespace Go.Proofs.Ytdfnmlcpimiboaa.pg
open Go.ChangeShapes Go.WideShapes Go.ChangeAt Go.RowKit Go.Shelf
set_option linter.unusedVariables false
set_option linter.unusedSimpArgs false
set_option maxRecDepth 100000
attribute [local go_sem ↓] Go.wp_at_zero Go.wp_at_succ
def evf (l : List Ev) (i : Nat) : Ev := l.getD i ev0
theorem evf_at {l : List Ev} {i : Nat} (h : i < l.length) : l[i]? = some (evf l i) := by
  unfold evf
  rw [List.getD_eq_getElem?_getD, List.getElem?_eq_getElem h]
  rfl
theorem rows_take {w : World} {k : Nat} {a : Option Addr} {cap : Nat} {L : List (List Value)} (h : Rows w k a cap L) (n : Nat) : Rows w k a cap (L.take n) := by
  obtain ⟨h1, h2, h3, h4⟩ := h
  refine ⟨by rw [List.length_take]; omega, h2, fun q => ⟨by rw [(h3 q).1]; simp, (h3 q).2⟩, ?_⟩
  rcases h4 with rfl | ⟨b, off, ha, hlt, hc⟩
  · left; simp
  · refine .inr ⟨b, off, ha, hlt, fun i row hi => hc i row ?_⟩
    rw [List.getElem?_take] at hi
    split at hi
    · exact hi
    · cases hi
end Go.Proofs.Ytdfnmlcpimiboaa.pg
/- look of package order, whole. -/
namespace Go.Proofs.Ytdfnmlcpimiboaa.pg
open Go.ChangeShapes Go.WideShapes Go.ChangeAt Go.RowKit Go.Shelf
set_option linter.unusedVariables false
set_option linter.unusedSimpArgs false
set_option maxRecDepth 100000
attribute [local go_sem ↓] Go.wp_at_zero Go.wp_at_succ
abbrev relV (ea : Option Addr) (en ec : Nat) (ca : Option Addr) (cn cc : Nat) (da : Option Addr) (dl dc : Nat) : Value := .agg #[.slice ea en ec, .slice ca cn cc, .slice da dl dc]
theorem one3 (ea : Option Addr) (en ec : Nat) (ca : Option Addr) (cn cc : Nat) (da : Option Addr) (dl dc : Nat) : (#[.slice ea en ec, .slice ca cn cc, .slice da dl dc] : Array Value).all (·.oneCell') = true := by simp [Value.oneCell']
end Go.Proofs.Ytdfnmlcpimiboaa.pg
/- The clocks that look tells are the document's: they count the past. -/
namespace Go.Proofs.Ytdfnmlcpimiboaa.pg
open Go.ChangeShapes Go.WideShapes Go.ChangeAt Go.RowKit Go.Shelf
set_option linter.unusedVariables false
set_option linter.unusedSimpArgs false
set_option maxRecDepth 100000
theorem of_join {x y : Ck} {a : Nat} (h : a < 6) : (x.join y).of a = max (x.of a) (y.of a) := by
  match a, h with
  | 0, _ => rfl
  | 1, _ => rfl
  | 2, _ => rfl
  | 3, _ => rfl
  | 4, _ => rfl
  | 5, _ => rfl
theorem of_tk {x : Ck} {g a : Nat} (hg : g < 6) (h : a < 6) : (tk x g).of a = x.of a + (if a = g then 1 else 0) := by
  unfold tk
  unfold Ck.of
  rw [put_list]
  have hl : x.list.length = 6 := rfl
  by_cases e : a = g
  · subst e
    rw [if_pos rfl]
    simp [List.getD_eq_getElem?_getD, List.getElem?_set, hl, hg, Ck.of]
  · rw [if_neg e]
    simp [List.getD_eq_getElem?_getD, List.getElem?_set, hl, hg, Ne.symm e]
theorem of_zero {a : Nat} (h : a < 6) : zeroK.of a = 0 := by
  match a, h with
  | 0, _ => rfl
  | 1, _ => rfl
  | 2, _ => rfl
  | 3, _ => rfl
  | 4, _ => rfl
  | 5, _ => rfl
def dpf (l : List Ev) (i j : Nat) : Bool := clash (evf l i).of (evf l j).of
def gof (l : List Ev) (i : Nat) : Nat := (evf l i).go.toNat
theorem own_meets (g : Int) : meets ⟨5, g, true⟩ ⟨5, g, true⟩ = true := by simp [meets]
theorem ord_ok {l : List Ev} (hrt : ∀ x ∈ l, rightP x) : Ord (dpf l) (gof l) l.length := by
  intro i j hij hj hg
  have hi := hrt _ (List.mem_of_getElem? (evf_at (l := l) (i := i) (by omega)))
  have hj2 := hrt _ (List.mem_of_getElem? (evf_at (l := l) (i := j) hj))
  have e : (evf l i).go = (evf l j).go := by
    have h1 := hi.1.1
    have h2 := hj2.1.1
    unfold gof at hg
    omega
  have q1 := hi.2.2.2
  have q2 := hj2.2.2.2
  rw [e] at q1
  exact clash_true q1 q2 (own_meets _)
section
variable {l : List Ev} (hrt : ∀ x ∈ l, rightP x) {B : Nat → Nat → Bool} (hB : Tells (dpf l) B)
include hrt
theorem gof_lt {i : Nat} (hi : i < l.length) : gof l i < 6 := by
  have := (hrt _ (List.mem_of_getElem? (evf_at hi))).1
  unfold gof
  omega
include hB
theorem told_is {cf : Nat → Ck} {j : Nat} (hj : j < l.length) (hcf : ∀ i, i < j → ∀ a, a < 6 → (cf i).of a = (ck B (gof l) i a : Int)) : ∀ k, k ≤ j → ∀ a, a < 6 → (told (evf l) cf j (dn j k)).1.of a = (cnt (fun q => gof l q == a && sB (dpf l) B j (j - k) q) j : Int)
  | 0, _, a, ha => by
    show zeroK.of a = _
    rw [of_zero ha, Nat.sub_zero, zero_eq hB]
    rfl
  | k + 1, hk, a, ha => by
    have ih := told_is hj hcf k (by omega)
    have hi : j - 1 - k < j := by omega
    have e1 : j - k = (j - 1 - k) + 1 := by omega
    have e2 : j - (k + 1) = j - 1 - k := by omega
    rw [dn_more (by omega), told_more, e2]
    rw [e1] at ih
    have hgi : gof l (j - 1 - k) < 6 := gof_lt hrt (by omega)
    have htest : (cf (j - 1 - k)).of (evf l (j - 1 - k)).go.toNat ≤ (told (evf l) cf j (dn j k)).1.of (evf l (j - 1 - k)).go.toNat ↔ sB (dpf l) B j (j - 1 - k + 1) (j - 1 - k) = true := by
      rw [← test_iff hB (ord_ok hrt) hi hj]
      have h1 := hcf (j - 1 - k) hi (gof l (j - 1 - k)) hgi
      have h2 := ih (gof l (j - 1 - k)) hgi
      unfold gof at h1 h2 ⊢
      rw [h1, h2]
      omega
    unfold stp
    by_cases c : (cf (j - 1 - k)).of (evf l (j - 1 - k)).go.toNat ≤ (told (evf l) cf j (dn j k)).1.of (evf l (j - 1 - k)).go.toNat ∨ clash (evf l (j - 1 - k)).of (evf l j).of = false
    · rw [if_pos c, ih a ha]
      have c2 : sB (dpf l) B j (j - 1 - k + 1) (j - 1 - k) = true ∨ dpf l (j - 1 - k) j = false := c.imp htest.mp id
      rw [keep_eq hB c2]
    · rw [if_neg c]
      have c2 : dpf l (j - 1 - k) j = true := by
        unfold dpf
        rw [← Bool.not_eq_false]
        exact fun q => c (.inr q)
      rw [of_join ha, ih a ha, hcf _ hi a ha, join_eq hB (ord_ok hrt) hi hj c2 a]
      rw [Int.max_def, Nat.max_def]
      split <;> split <;> omega
theorem rel_is : ∀ (j : Nat), j ≤ l.length → ∀ i x, (rel (evf l) j).1[i]? = some x → ∀ a, a < 6 → x.of a = (ck B (gof l) i a : Int)
  | 0, _, i, x, h, a, ha => by simp [rel] at h
  | j + 1, hj, i, x, h, a, ha => by
    have ih := rel_is j (by omega)
    have hl := rel_len (evf l) j
    rw [rel] at h
    by_cases e : i < j
    · rw [List.getElem?_append_left (by omega)] at h
      exact ih i x h a ha
    · rw [List.getElem?_append_right (by omega)] at h

      rw [hl] at h
      have hi : i = j := by
        apply Classical.byContradiction
        intro q
        rw [List.getElem?_eq_none (by simp; omega)] at h
        cases h
      subst hi
      rw [Nat.sub_self, List.getElem?_cons_zero, Option.some.injEq] at h
      rw [← h]
      have hgj : (evf l i).go.toNat < 6 := gof_lt hrt (by omega)
      rw [of_tk hgj ha, tick_eq hB]
      have := told_is hrt hB (cf := fun k => (rel (evf l) i).1.getD k zeroK) (j := i) (by omega) (fun k hk b hb => ih k _ (by
        rw [List.getD_eq_getElem?_getD, List.getElem?_eq_getElem (by omega)]; rfl) b hb) i (Nat.le_refl _) a ha
      rw [Nat.sub_self] at this
      rw [this]
      show _ = ((_ + (if a = gof l i then 1 else 0) : Nat) : Int)
      unfold gof
      split <;> simp
end
end Go.Proofs.Ytdfnmlcpimiboaa.pg
