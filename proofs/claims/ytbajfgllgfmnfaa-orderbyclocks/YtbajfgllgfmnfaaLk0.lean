/- What package order's look tells of a trace, as plain data. -/
import Derived.Test.YtbajfgllgfmnfaaAd1
namespace Go.Proofs.Ytbajfgllgfmnfaa.pg
open Go.ChangeShapes Go.WideShapes Go.ChangeAt Go.RowKit Go.Shelf
set_option linter.unusedVariables false
set_option linter.unusedSimpArgs false
set_option maxRecDepth 100000
def tk (x : Ck) (g : Nat) : Ck := x.put g (x.of g + 1)
/-- The clocks and the edges of the first events. -/
def rel (ev : Nat → Ev) : Nat → List Ck × List (Nat × Nat)
  | 0 => ([], [])
  | j + 1 => ((rel ev j).1 ++ [tk (told ev (fun i => (rel ev j).1.getD i zeroK) j (dn j j)).1 (ev j).go.toNat], (rel ev j).2 ++ (told ev (fun i => (rel ev j).1.getD i zeroK) j (dn j j)).2)
/-- The clock of a place, once it is told. -/
def ckf (ev : Nat → Ev) (j i : Nat) : Ck := (rel ev j).1.getD i zeroK
theorem rel_len (ev : Nat → Ev) : ∀ j, (rel ev j).1.length = j
  | 0 => rfl
  | j + 1 => by rw [rel, List.length_append, rel_len ev j, List.length_singleton]
theorem rel_edges (ev : Nat → Ev) : ∀ j, j ≤ 256 → (rel ev j).2.length ≤ 256 * j
  | 0, _ => Nat.le_refl _
  | j + 1, h => by
    have h1 := rel_edges ev j (by omega)
    have h2 := told_len ev (fun i => (rel ev j).1.getD i zeroK) j j (dn j j) (dn_len (Nat.le_refl _))
    rw [rel, List.length_append]
    omega
/-- All numbers of a clock lie between 0 and m. -/
def Ck.upto (x : Ck) (m : Int) : Prop := ∀ n ∈ x.list, 0 ≤ n ∧ n ≤ m
theorem Ck.upto_iff (x : Ck) (m : Int) : x.upto m ↔ (0 ≤ x.c0 ∧ x.c0 ≤ m) ∧ (0 ≤ x.c1 ∧ x.c1 ≤ m) ∧ (0 ≤ x.c2 ∧ x.c2 ≤ m) ∧ (0 ≤ x.c3 ∧ x.c3 ≤ m) ∧ (0 ≤ x.c4 ∧ x.c4 ≤ m) ∧ (0 ≤ x.c5 ∧ x.c5 ≤ m) := by
  unfold Ck.upto Ck.list
  simp
theorem Ck.upto_mono {x : Ck} {m k : Int} (h : x.upto m) (hk : m ≤ k) : x.upto k := fun n hn => ⟨(h n hn).1, Int.le_trans (h n hn).2 hk⟩
theorem upto_ok {x : Ck} {m : Int} (h : x.upto m) (hm : m ≤ 1073741824) : x.ok := fun n hn => ⟨(h n hn).1, Int.le_trans (h n hn).2 hm⟩
theorem zero_upto {m : Int} (h : 0 ≤ m) : zeroK.upto m := by rw [Ck.upto_iff]; simp [zeroK, h]
theorem join_upto {x y : Ck} {m : Int} (hx : x.upto m) (hy : y.upto m) : (x.join y).upto m := by
  rw [Ck.upto_iff] at hx hy ⊢
  have key : ∀ a b : Int, (0 ≤ a ∧ a ≤ m) → (0 ≤ b ∧ b ≤ m) → (0 ≤ max a b ∧ max a b ≤ m) := fun a b ha hb => by rw [Int.max_def]; split <;> omega
  exact ⟨key _ _ hx.1 hy.1, key _ _ hx.2.1 hy.2.1, key _ _ hx.2.2.1 hy.2.2.1, key _ _ hx.2.2.2.1 hy.2.2.2.1, key _ _ hx.2.2.2.2.1 hy.2.2.2.2.1, key _ _ hx.2.2.2.2.2 hy.2.2.2.2.2⟩
theorem of_mem {x : Ck} {g : Nat} (h : g < 6) : x.of g ∈ x.list ∧ x.list[g]? = some (x.of g) := by
  match g, h with
  | 0, _ => exact ⟨by simp [Ck.of, Ck.list], rfl⟩
  | 1, _ => exact ⟨by simp [Ck.of, Ck.list], rfl⟩
  | 2, _ => exact ⟨by simp [Ck.of, Ck.list], rfl⟩
  | 3, _ => exact ⟨by simp [Ck.of, Ck.list], rfl⟩
  | 4, _ => exact ⟨by simp [Ck.of, Ck.list], rfl⟩
  | 5, _ => exact ⟨by simp [Ck.of, Ck.list], rfl⟩
theorem tk_upto {x : Ck} {m : Int} {g : Nat} (hx : x.upto m) (hg : g < 6) : (tk x g).upto (m + 1) := by
  intro n hn
  have h0 := hx _ (of_mem (x := x) hg).1
  unfold tk at hn
  rw [put_list] at hn
  rcases List.mem_or_eq_of_mem_set hn with h | h
  · have := hx n h; omega
  · omega
theorem told_upto (ev : Nat → Ev) (cf : Nat → Ck) (j : Nat) (m : Int) (hm : 0 ≤ m) (hc : ∀ i, i < j → (cf i).upto m) : ∀ (n : Nat) (pre : List { i : Nat // i < j }), pre.length = n → (told ev cf j pre).1.upto m
  | 0, pre, h => by
    have : pre = [] := List.length_eq_zero_iff.mp h
    subst this
    exact zero_upto hm
  | n + 1, pre, h => by
    rcases List.eq_nil_or_concat pre with rfl | ⟨q, x, rfl⟩
    · simp at h
    · rw [List.concat_eq_append] at h ⊢
      rw [List.length_append, List.length_singleton] at h
      have h1 := told_upto ev cf j m hm hc n q (by omega)
      rw [told_more]
      unfold stp
      split
      · exact h1
      · exact join_upto h1 (hc x.1 x.2)
theorem rel_upto (ev : Nat → Ev) : ∀ (j : Nat), (∀ i, i < j → (ev i).go.toNat < 6) → ∀ x ∈ (rel ev j).1, x.upto j
  | 0, _, x, hx => by simp [rel] at hx
  | j + 1, h, x, hx => by
    have ih := rel_upto ev j fun i hi => h i (by omega)
    rw [rel, List.mem_append, List.mem_singleton] at hx
    rcases hx with hx | rfl
    · exact Ck.upto_mono (ih x hx) (by omega)
    · have := tk_upto (g := (ev j).go.toNat) (told_upto ev (fun i => (rel ev j).1.getD i zeroK) j j (by omega) (fun i hi => ?_) j (dn j j) (dn_len (Nat.le_refl _))) (h j (by omega))
      · exact Ck.upto_mono this (by omega)
      · have hl := rel_len ev j
        have : (rel ev j).1.getD i zeroK = (rel ev j).1[i]'(by omega) := by rw [List.getD_eq_getElem?_getD, List.getElem?_eq_getElem (by omega)]; rfl
        rw [this]
        exact ih _ (List.getElem_mem _)
theorem tick_is {x : Ck} {g : Nat} {m : Int} (hx : x.upto m) (hm : m < 1073741824) (hg : g < 6) : tickP x (g : Int) (tk x g) 0 :=
  .inr ⟨upto_ok hx (by omega), g, hg, rfl, x.of g, (of_mem hg).2, .inr ⟨by have := hx _ (of_mem (x := x) hg).1; omega, rfl, rfl⟩⟩
end Go.Proofs.Ytbajfgllgfmnfaa.pg
