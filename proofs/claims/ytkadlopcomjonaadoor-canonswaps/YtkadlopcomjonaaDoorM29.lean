/- Which edges package order tells, and how high chains are. -/
import Derived.Test.YtkadlopcomjonaaDoorM18
import Derived.Test.YtkadlopcomjonaaDoorM1
import Derived.Test.YtkadlopcomjonaaDoorM17
import Derived.Test.YtkadlopcomjonaaDoorM28
namespace Go.Proofs.YtkadlopcomjonaaDoor.pg
open Go.ChangeShapes Go.WideShapes Go.ChangeAt Go.RowKit Go.Shelf
set_option linter.unusedVariables false
set_option linter.unusedSimpArgs false
/-- The edges to j, from the last place down. -/
def edl (e : Nat → Nat → Bool) (j : Nat) : Nat → List (Nat × Nat)
  | 0 => []
  | k + 1 => edl e j k ++ (if e (j - 1 - k) j = true then [(j - 1 - k, j)] else [])
def elist (e : Nat → Nat → Bool) : Nat → List (Nat × Nat)
  | 0 => []
  | j + 1 => elist e j ++ edl e j j
theorem edl_mem (e : Nat → Nat → Bool) (j : Nat) (p : Nat × Nat) : ∀ k, k ≤ j → (p ∈ edl e j k ↔ p.2 = j ∧ j - k ≤ p.1 ∧ p.1 < j ∧ e p.1 j = true)
  | 0, h => by
    simp only [edl, List.not_mem_nil, false_iff]
    rintro ⟨_, h1, h2, _⟩
    omega
  | k + 1, h => by
    have ih := edl_mem e j p k (by omega)
    rw [edl, List.mem_append, ih]
    by_cases c : e (j - 1 - k) j = true
    · rw [if_pos c, List.mem_singleton]
      constructor
      · rintro (⟨h1, h2, h3, h4⟩ | rfl)
        · exact ⟨h1, by omega, h3, h4⟩
        · exact ⟨rfl, by show j - (k + 1) ≤ j - 1 - k; omega, by show j - 1 - k < j; omega, c⟩
      · rintro ⟨h1, h2, h3, h4⟩
        by_cases q : p.1 = j - 1 - k
        · right
          exact Prod.ext q h1
        · exact .inl ⟨h1, by omega, h3, h4⟩
    · rw [if_neg c]
      simp only [List.not_mem_nil, or_false]
      constructor
      · rintro ⟨h1, h2, h3, h4⟩
        exact ⟨h1, by omega, h3, h4⟩
      · rintro ⟨h1, h2, h3, h4⟩
        refine ⟨h1, ?_, h3, h4⟩
        by_cases q : p.1 = j - 1 - k
        · rw [q] at h4; exact absurd h4 c
        · omega
theorem elist_mem (e : Nat → Nat → Bool) (p : Nat × Nat) : ∀ n, p ∈ elist e n ↔ p.1 < p.2 ∧ p.2 < n ∧ e p.1 p.2 = true
  | 0 => by simp [elist]
  | n + 1 => by
    rw [elist, List.mem_append, elist_mem e p n, edl_mem e n p n (Nat.le_refl _)]
    constructor
    · rintro (⟨h1, h2, h3⟩ | ⟨h1, h2, h3, h4⟩)
      · exact ⟨h1, by omega, h3⟩
      · rw [h1]; exact ⟨h3, by omega, h4⟩
    · rintro ⟨h1, h2, h3⟩
      by_cases c : p.2 = n
      · right
        rw [c] at h1 h3
        exact ⟨c, by omega, h1, h3⟩
      · exact .inl ⟨h1, by omega, h3⟩
theorem edl_nodup (e : Nat → Nat → Bool) (j : Nat) : ∀ k, k ≤ j → (edl e j k).Nodup
  | 0, _ => List.nodup_nil
  | k + 1, h => by
    rw [edl, List.nodup_append]
    refine ⟨edl_nodup e j k (by omega), by split <;> simp, fun a ha b hb => ?_⟩
    have h1 := (edl_mem e j a k (by omega)).mp ha
    split at hb
    · rw [List.mem_singleton] at hb
      subst hb
      intro q
      have := congrArg Prod.fst q
      simp only at this
      omega
    · simp at hb
theorem elist_nodup (e : Nat → Nat → Bool) : ∀ n, (elist e n).Nodup
  | 0 => List.nodup_nil
  | n + 1 => by
    rw [elist, List.nodup_append]
    refine ⟨elist_nodup e n, edl_nodup e n n (Nat.le_refl _), fun a ha b hb => ?_⟩
    have h1 := (elist_mem e a n).mp ha
    have h2 := (edl_mem e n b n (Nat.le_refl _)).mp hb
    intro q
    rw [q] at h1
    omega
theorem elist_up (e : Nat → Nat → Bool) : ∀ n, (elist e n).Pairwise fun p q => p.2 ≤ q.2
  | 0 => .nil
  | n + 1 => by
    rw [elist, List.pairwise_append]
    refine ⟨elist_up e n, ?_, fun a ha b hb => ?_⟩
    · rw [List.pairwise_iff_forall_sublist]
      intro a b hs
      have ha := (edl_mem e n a n (Nat.le_refl _)).mp (hs.subset (by simp))
      have hb := (edl_mem e n b n (Nat.le_refl _)).mp (hs.subset (by simp))
      omega
    · have h1 := (elist_mem e a n).mp ha
      have h2 := (edl_mem e n b n (Nat.le_refl _)).mp hb
      omega
section
variable {l : List Ev} (hrt : ∀ x ∈ l, rightP x) {B : Nat → Nat → Bool} (hB : Tells (dpf l) B)
include hrt hB
theorem told_edges {cf : Nat → Ck} {j : Nat} (hj : j < l.length) (hcf : ∀ i, i < j → ∀ a, a < 6 → (cf i).of a = (ck B (gof l) i a : Int)) : ∀ k, k ≤ j → (told (evf l) cf j (dn j k)).2 = edl (edgeB (dpf l) B) j k
  | 0, _ => rfl
  | k + 1, hk => by
    have ih := told_edges hj hcf k (by omega)
    have iC := told_is hrt hB hj hcf k (by omega)
    have hi : j - 1 - k < j := by omega
    have e1 : j - k = (j - 1 - k) + 1 := by omega
    rw [dn_more (by omega), told_more]
    rw [e1] at iC
    have hgi : gof l (j - 1 - k) < 6 := gof_lt hrt (by omega)
    have htest : (cf (j - 1 - k)).of (evf l (j - 1 - k)).go.toNat ≤ (told (evf l) cf j (dn j k)).1.of (evf l (j - 1 - k)).go.toNat ↔ sB (dpf l) B j (j - 1 - k + 1) (j - 1 - k) = true := by
      rw [← test_iff hB (ord_ok hrt) hi hj]
      have h1 := hcf (j - 1 - k) hi (gof l (j - 1 - k)) hgi
      have h2 := iC (gof l (j - 1 - k)) hgi
      unfold gof at h1 h2 ⊢
      rw [h1, h2]
      omega
    unfold stp edl
    by_cases c : (cf (j - 1 - k)).of (evf l (j - 1 - k)).go.toNat ≤ (told (evf l) cf j (dn j k)).1.of (evf l (j - 1 - k)).go.toNat ∨ clash (evf l (j - 1 - k)).of (evf l j).of = false
    · rw [if_pos c, ih, if_neg, List.append_nil]
      rw [edgeB_iff]
      rintro ⟨_, q1, q2⟩
      rcases c with c | c
      · rw [htest.mp c] at q2; cases q2
      · unfold dpf at q1; rw [c] at q1; cases q1
    · rw [if_neg c, if_pos, ih]
      rw [edgeB_iff]
      refine ⟨hi, ?_, ?_⟩
      · unfold dpf
        rw [← Bool.not_eq_false]
        exact fun q => c (.inr q)
      · rw [Bool.eq_false_iff]
        exact fun q => c (.inl (htest.mpr q))
theorem rel_list : ∀ (j : Nat), j ≤ l.length → (rel (evf l) j).2 = elist (edgeB (dpf l) B) j
  | 0, _ => rfl
  | j + 1, hj => by
    have hl := rel_len (evf l) j
    rw [rel, elist, rel_list j (by omega)]
    show _ ++ _ = _
    congr 1
    exact told_edges hrt hB (cf := fun k => (rel (evf l) j).1.getD k zeroK) (by omega) (fun k hk b hb => rel_is hrt hB j (by omega) k _ (by
        rw [List.getD_eq_getElem?_getD, List.getElem?_eq_getElem (by omega)]; rfl) b hb) j (Nat.le_refl _)
theorem edges_mem (p : Nat × Nat) : p ∈ (rel (evf l) l.length).2 ↔ p.1 < p.2 ∧ p.2 < l.length ∧ edgeB (dpf l) B p.1 p.2 = true := by
  rw [rel_list hrt hB l.length (Nat.le_refl _), elist_mem]
end
/-- What Height's loop knows behind edges. -/
structure HI (n : Nat) (E : List (Nat × Nat)) (s : List Int × Int) : Prop where
  len : s.1.length = n
  pos : ∀ j, j < n → 0 ≤ s.1.getD j 0
  up : ∀ p ∈ E, s.1.getD p.1 0 + 1 ≤ s.1.getD p.2 0
  some : ∀ j, j < n → s.1.getD j 0 = 0 ∨ ∃ i, (i, j) ∈ E ∧ s.1.getD j 0 = s.1.getD i 0 + 1
  top : ∀ j, j < n → s.1.getD j 0 + 1 ≤ s.2
  hit : n = 0 ∧ s.2 = 0 ∨ ∃ j, j < n ∧ s.2 = s.1.getD j 0 + 1
theorem getD_set0 (s : List Int) (b : Nat) (m : Int) (hb : b < s.length) (j : Nat) : (s.set b m).getD j 0 = if j = b then m else s.getD j 0 := by
  simp only [List.getD_eq_getElem?_getD, List.getElem?_set]
  by_cases c : b = j
  · subst c; simp [hb]
  · rw [if_neg c, if_neg (Ne.symm c)]
theorem hi_step {n : Nat} {E : List (Nat × Nat)} {s : List Int × Int} (h : HI n E s) (p : Nat × Nat) (hp : p.1 < p.2 ∧ p.2 < n) (hE : ∀ q ∈ E, q.1 < q.2 ∧ q.2 ≤ p.2) : HI n (E ++ [p]) (hstep s p) := by
  obtain ⟨m, hm⟩ : ∃ m, max (s.1.getD p.2 0) (s.1.getD p.1 0 + 1) = m := ⟨_, rfl⟩
  have hm1 : s.1.getD p.2 0 ≤ m ∧ s.1.getD p.1 0 + 1 ≤ m ∧ (m = s.1.getD p.2 0 ∨ m = s.1.getD p.1 0 + 1) := by rw [← hm, Int.max_def]; split <;> omega
  obtain ⟨t, ht⟩ : ∃ t, max s.2 (m + 1) = t := ⟨_, rfl⟩
  have ht1 : s.2 ≤ t ∧ m + 1 ≤ t ∧ (t = s.2 ∨ t = m + 1) := by rw [← ht, Int.max_def]; split <;> omega
  have hst : hstep s p = (s.1.set p.2 m, t) := by unfold hstep; rw [hm, ht]
  have hg : ∀ j, (s.1.set p.2 m).getD j 0 = if j = p.2 then m else s.1.getD j 0 := getD_set0 s.1 p.2 m (by rw [h.len]; exact hp.2)
  rw [hst]
  refine ⟨by simp [h.len], fun j hj => ?_, fun q hq => ?_, fun j hj => ?_, fun j hj => ?_, ?_⟩
  · show 0 ≤ (s.1.set p.2 m).getD j 0
    rw [hg]
    have h1 := h.pos j hj
    have h2 := h.pos p.2 hp.2
    split <;> omega
  · show (s.1.set p.2 m).getD q.1 0 + 1 ≤ (s.1.set p.2 m).getD q.2 0
    rw [hg, hg]
    rw [List.mem_append, List.mem_singleton] at hq
    rcases hq with hq | rfl
    · have h1 := h.up q hq
      have h2 := hE q hq
      rw [if_neg (by omega)]
      by_cases c : q.2 = p.2
      · rw [if_pos c]; rw [c] at h1; omega
      · rw [if_neg c]; exact h1
    · rw [if_neg (by omega), if_pos rfl]; exact hm1.2.1
  · show (s.1.set p.2 m).getD j 0 = 0 ∨ ∃ i, (i, j) ∈ E ++ [p] ∧ (s.1.set p.2 m).getD j 0 = (s.1.set p.2 m).getD i 0 + 1
    simp only [hg]
    by_cases c : j = p.2
    · subst c
      simp only [if_true]
      rcases hm1.2.2 with q | q
      · rcases h.some p.2 hp.2 with z | ⟨i, z1, z2⟩
        · left; omega
        · right
          have := (hE _ z1).1
          refine ⟨i, List.mem_append_left _ z1, ?_⟩
          rw [if_neg (by have : i < p.2 := this; omega)]
          omega
      · right
        refine ⟨p.1, by simp, ?_⟩
        rw [if_neg (by omega)]
        exact q
    · rw [if_neg c]
      rcases h.some j hj with z | ⟨i, z1, z2⟩
      · exact .inl z
      · right
        have h1 := hE _ z1
        refine ⟨i, List.mem_append_left _ z1, ?_⟩
        rw [if_neg (by have h2 : i < j := h1.1; have h3 : j ≤ p.2 := h1.2; omega)]
        exact z2
  · show (s.1.set p.2 m).getD j 0 + 1 ≤ t
    rw [hg]
    have h1 := h.top j hj
    split <;> omega
  · right
    show ∃ j, j < n ∧ t = (s.1.set p.2 m).getD j 0 + 1
    simp only [hg]
    by_cases c : s.2 ≤ m + 1
    · exact ⟨p.2, hp.2, by rw [if_pos rfl]; omega⟩
    · rcases h.hit with ⟨q, _⟩ | ⟨j, j1, j2⟩
      · omega
      · refine ⟨j, j1, ?_⟩
        rw [if_neg (fun q => by rw [q] at j2; omega)]
        omega
theorem hi_all (n : Nat) : ∀ (k : Nat) (E : List (Nat × Nat)), E.length = k → E.Pairwise (fun p q => p.2 ≤ q.2) → (∀ p ∈ E, p.1 < p.2 ∧ p.2 < n) → HI n E (hfold n E)
  | 0, E, h, _, _ => by
    have : E = [] := List.length_eq_zero_iff.mp h
    subst this
    have h0 : ∀ j, (List.replicate n (0 : Int)).getD j 0 = 0 := fun j => by
      simp only [List.getD_eq_getElem?_getD, List.getElem?_replicate]; split <;> rfl
    refine ⟨by simp [hfold], fun j _ => by show 0 ≤ (List.replicate n (0 : Int)).getD j 0; rw [h0]; omega, fun p hp => by simp at hp, fun j _ => .inl (h0 j), fun j hj => ?_, ?_⟩
    · show (List.replicate n (0 : Int)).getD j 0 + 1 ≤ min 1 (n : Int)
      rw [h0, Int.min_def]; split <;> omega
    · show n = 0 ∧ min 1 (n : Int) = 0 ∨ ∃ j, j < n ∧ min 1 (n : Int) = (List.replicate n (0 : Int)).getD j 0 + 1
      by_cases c : n = 0
      · left; subst c; exact ⟨rfl, rfl⟩
      · right
        refine ⟨0, by omega, ?_⟩
        rw [h0, Int.min_def]; split <;> omega
  | k + 1, E, h, hs, hp => by
    rcases List.eq_nil_or_concat E with rfl | ⟨q, x, rfl⟩
    · simp at h
    · rw [List.concat_eq_append] at h hs hp ⊢
      rw [List.length_append, List.length_singleton] at h
      rw [List.pairwise_append] at hs
      have ih := hi_all n k q (by omega) hs.1 fun p hp' => hp p (List.mem_append_left _ hp')
      rw [hfold_more]
      exact hi_step ih x (hp x (by simp)) fun z hz => ⟨(hp z (List.mem_append_left _ hz)).1, hs.2.2 z hz x (by simp)⟩
section
variable {l : List Ev} (hrt : ∀ x ∈ l, rightP x) {B : Nat → Nat → Bool} (hB : Tells (dpf l) B)
include hrt hB
/-- Height's own numbers. -/
theorem hi_rel : HI l.length (rel (evf l) l.length).2 (hfold l.length (rel (evf l) l.length).2) :=
  hi_all _ _ _ rfl (by rw [rel_list hrt hB l.length (Nat.le_refl _)]; exact elist_up _ _) fun p hp => by
    have := (edges_mem hrt hB p).mp hp
    exact ⟨this.1, this.2.1⟩
theorem high_rel : High l.length (edgeB (dpf l) B) fun j => (hfold l.length (rel (evf l) l.length).2).1.getD j 0 := by
  have h := hi_rel hrt hB
  refine ⟨h.pos, fun i j h1 h2 h3 => h.up (i, j) ((edges_mem hrt hB (i, j)).mpr ⟨h1, h2, h3⟩), fun j hj => ?_⟩
  rcases h.some j hj with q | ⟨i, q1, q2⟩
  · exact .inl q
  · have := (edges_mem hrt hB (i, j)).mp q1
    exact .inr ⟨i, this.1, this.2.2, q2⟩
end
end Go.Proofs.YtkadlopcomjonaaDoor.pg
/- A trace with two neighbours changed about, and its clocks. -/
namespace Go.Proofs.YtkadlopcomjonaaDoor.pg
open Go.ChangeShapes Go.WideShapes Go.ChangeAt Go.RowKit Go.Shelf
set_option linter.unusedVariables false
set_option linter.unusedSimpArgs false
def swl (l : List Ev) (i : Nat) : List Ev := (l.set i (evf l (i + 1))).set (i + 1) (evf l i)
theorem swl_len (l : List Ev) (i : Nat) : (swl l i).length = l.length := by simp [swl]
theorem evf_swl {l : List Ev} {i : Nat} (h : i + 1 < l.length) (k : Nat) : evf (swl l i) k = evf l (swp i k) := by
  unfold swp
  by_cases c1 : k = i
  · subst c1
    rw [if_pos rfl]
    conv => lhs; unfold evf swl
    simp only [List.getD_eq_getElem?_getD, List.getElem?_set, List.length_set]
    rw [if_neg (by omega), if_true, if_pos (by omega)]
    rfl
  · rw [if_neg c1]
    by_cases c2 : k = i + 1
    · subst c2
      rw [if_pos rfl]
      conv => lhs; unfold evf swl
      simp only [List.getD_eq_getElem?_getD, List.getElem?_set, List.length_set]
      rw [if_true, if_pos (by omega)]
      rfl
    · rw [if_neg c2]
      conv => lhs; unfold evf swl
      simp only [List.getD_eq_getElem?_getD, List.getElem?_set, List.length_set]
      rw [if_neg (Ne.symm c2), if_neg (Ne.symm c1)]
      simp [evf, List.getD_eq_getElem?_getD]
theorem right_swl {l : List Ev} {i : Nat} (h : i + 1 < l.length) (hrt : ∀ x ∈ l, rightP x) : ∀ x ∈ swl l i, rightP x := by
  intro x hx
  have h1 := hrt _ (List.mem_of_getElem? (evf_at (l := l) (i := i) (by omega)))
  have h2 := hrt _ (List.mem_of_getElem? (evf_at (l := l) (i := i + 1) h))
  unfold swl at hx
  rcases List.mem_or_eq_of_mem_set hx with hx | rfl
  · rcases List.mem_or_eq_of_mem_set hx with hx | rfl
    · exact hrt x hx
    · exact h2
  · exact h1
theorem ck_ext {x y : Ck} (h : ∀ a, a < 6 → x.of a = y.of a) : x = y := by
  have h0 := h 0 (by omega)
  have h1 := h 1 (by omega)
  have h2 := h 2 (by omega)
  have h3 := h 3 (by omega)
  have h4 := h 4 (by omega)
  have h5 := h 5 (by omega)
  cases x; cases y
  simp [Ck.of, Ck.list] at h0 h1 h2 h3 h4 h5
  simp [h0, h1, h2, h3, h4, h5]
theorem rel_get (ev : Nat → Ev) (n k : Nat) (hk : k < n) : (rel ev n).1[k]? = some ((rel ev n).1.getD k zeroK) := by
  have := rel_len ev n
  rw [List.getD_eq_getElem?_getD, List.getElem?_eq_getElem (by omega)]; rfl
theorem rel_swl {l : List Ev} {i : Nat} (hrt : ∀ x ∈ l, rightP x) (h : i + 1 < l.length) (hd : clash (evf l i).of (evf l (i + 1)).of = false) (k : Nat) (hk : k < l.length) :
    (rel (evf (swl l i)) l.length).1.getD k zeroK = (rel (evf l) l.length).1.getD (swp i k) zeroK := by
  obtain ⟨B, hB⟩ := tells_some (dpf l)
  obtain ⟨B', hB'⟩ := tells_some (dpf (swl l i))
  have hk2 : swp i k < l.length := swp_lt h hk
  refine ck_ext fun a ha => ?_
  have e1 := rel_is (right_swl h hrt) hB' l.length (by rw [swl_len]; exact Nat.le_refl _) k _ (rel_get _ _ k hk) a ha
  have e2 := rel_is hrt hB l.length (Nat.le_refl _) (swp i k) _ (rel_get _ _ _ hk2) a ha
  rw [e1, e2]
  have := ck_swp hB hB' (g := gof l) (g' := gof (swl l i)) (i := i) (n := l.length) (by omega) (fun a b => by unfold dpf; rw [evf_swl h, evf_swl h]) (fun a => by unfold gof; rw [evf_swl h]) hd (by unfold dpf; rw [clash_comm]; exact hd) hk2 a
  rw [swp_swp] at this
  rw [this]
end Go.Proofs.YtkadlopcomjonaaDoor.pg
/- Apart, Past and Lasts of package order. -/
namespace Go.Proofs.YtkadlopcomjonaaDoor.pg
open Go.ChangeShapes Go.WideShapes Go.ChangeAt Go.RowKit Go.Shelf
set_option linter.unusedVariables false
set_option linter.unusedSimpArgs false
set_option maxRecDepth 100000
attribute [local go_sem ↓] Go.wp_at_zero Go.wp_at_succ
/-- By the clocks, or by what depends on what: the same. -/
theorem bef_is {l : List Ev} (hrt : ∀ x ∈ l, rightP x) {B : Nat → Nat → Bool} (hB : Tells (dpf l) B) {i j : Nat} (hi : i < l.length) (hj : j < l.length) : befK (rel (evf l) l.length).1 l i j = B i j := by
  have xi := rel_is hrt hB l.length (Nat.le_refl _) i _ (rel_get _ _ i hi)
  have xj := rel_is hrt hB l.length (Nat.le_refl _) j _ (rel_get _ _ j hj)
  have hg : gof l i < 6 := gof_lt hrt hi
  unfold befK
  by_cases hij : i < j
  · have h1 := before_iff hB (ord_ok hrt) hij hj
    have a := xi (gof l i) hg
    have b := xj (gof l i) hg
    rw [Bool.eq_iff_iff, ← h1]
    unfold gof at a b ⊢
    simp only [hij, decide_true, Bool.true_and, decide_eq_true_eq]
    rw [a, b]
    omega
  · have : B i j = false := by
      rw [Bool.eq_false_iff]
      intro q
      exact hij ((hB i j).mp q).lt
    rw [this]
    simp [hij]
theorem looks_two (l : List Ev) (la : Option Addr) (lc : Nat) (i j : Nat) (w : World) (hl : Rows w 26 la lc (l.map Ev.cells)) (hlen : l.length ≤ 256) (hrt : ∀ x ∈ l, rightP x) (hi : i < l.length) (hj : j < l.length) :
    Calls Tryd.prog 55 #[.slice la l.length lc, .slice (some ⟨w.heap.size, 0, none⟩) 2 2] (w.alloc (.cells #[.int .i64 (i : Int), .int .i64 (j : Int)] 3)) (LookPost l la lc (w.alloc (.cells #[.int .i64 (i : Int), .int .i64 (j : Int)] 3))) :=
  look_any l la lc [(i : Int), (j : Int)] (some ⟨w.heap.size, 0, none⟩) 2 _ (hl.later (boxed _ _)) (rows_ij w i j) hlen hrt (by simp) (by intro p hp; simp at hp; rcases hp with rfl | rfl <;> omega)
theorem looks_one (l : List Ev) (la : Option Addr) (lc : Nat) (i : Nat) (w : World) (hl : Rows w 26 la lc (l.map Ev.cells)) (hlen : l.length ≤ 256) (hrt : ∀ x ∈ l, rightP x) (hi : i < l.length) :
    Calls Tryd.prog 55 #[.slice la l.length lc, .slice (some ⟨w.heap.size, 0, none⟩) 1 1] (w.alloc (.cells #[.int .i64 (i : Int)] 3)) (LookPost l la lc (w.alloc (.cells #[.int .i64 (i : Int)] 3))) :=
  look_any l la lc [(i : Int)] (some ⟨w.heap.size, 0, none⟩) 1 _ (hl.later (boxed _ _)) (rows_one1 w i) hlen hrt (by simp) (by intro p hp; simp at hp; subst hp; omega)
/-- The relation in its box, beyond a world. -/
structure RelB (w W : World) (l : List Ev) (la : Option Addr) (lc Rr : Nat) (ca : Option Addr) (cc : Nat) (da : Option Addr) (dc : Nat) : Prop where
  r : W.heap[Rr]? = some (.cells #[.slice la l.length lc, .slice ca l.length cc, .slice da (rel (evf l) l.length).2.length dc] 105)
  c : OwnL W w.heap.size 79 6 ca cc ((rel (evf l) l.length).1.map Ck.cells)
  e : OwnL W w.heap.size 122 2 da dc ((rel (evf l) l.length).2.map edg)
  b : Below w.heap.size w W
theorem RelB.later {w W W' : World} {l : List Ev} {la : Option Addr} {lc Rr : Nat} {ca : Option Addr} {cc : Nat} {da : Option Addr} {dc : Nat} (h : RelB w W l la lc Rr ca cc da dc) (hb : Below W.heap.size W W') : RelB w W' l la lc Rr ca cc da dc :=
  ⟨(hb.block _ (Array.getElem?_eq_some_iff.mp h.r).1).trans h.r, own_keep h.c fun b hb' => hb.block b (blk_lt h.c b hb').2, own_keep h.e fun b hb' => hb.block b (blk_lt h.e b hb').2, bthen h.b hb⟩
theorem RelB.range {w W : World} {l : List Ev} {la : Option Addr} {lc Rr : Nat} {ca : Option Addr} {cc : Nat} {da : Option Addr} {dc : Nat} (h : RelB w W l la lc Rr ca cc da dc) : W.rangeAt Rr 0 [.slice la l.length lc, .slice ca l.length cc, .slice da (rel (evf l) l.length).2.length dc] := fun q v hv => cell_of h.r (by rw [Nat.zero_add]; simpa using hv)
theorem relB_new {w w1 : World} {l : List Ev} {la : Option Addr} {lc lo : Nat} {ca : Option Addr} {cc : Nat} {da : Option Addr} {dc : Nat} (hlo : w.heap.size ≤ lo) (h1 : OwnL w1 lo 79 6 ca cc ((rel (evf l) l.length).1.map Ck.cells)) (h2 : OwnL w1 lo 122 2 da dc ((rel (evf l) l.length).2.map edg)) (hb : Below w.heap.size w w1) :
    RelB w (w1.alloc (.cells #[.slice la l.length lc, .slice ca l.length cc, .slice da (rel (evf l) l.length).2.length dc] 105)) l la lc w1.heap.size ca cc da dc :=
  ⟨heap_alloc_new _ _, own_mono_q (own_keep h1 fun b hb' => (boxed w1 _).block b (blk_lt h1 b hb').2) hlo, own_mono_q (own_keep h2 fun b hb' => (boxed w1 _).block b (blk_lt h2 b hb').2) hlo, bthen hb (boxed _ _)⟩
end Go.Proofs.YtkadlopcomjonaaDoor.pg
