/- Which edges package order tells, and how high chains are. -/
import Derived.Test.YtkhhkgfaakgdfaaM25
import Derived.Test.YtkhhkgfaakgdfaaM31
import Derived.Test.YtkhhkgfaakgdfaaM30
namespace Go.Proofs.Ytkhhkgfaakgdfaa.pg
open Go.ChangeShapes Go.WideShapes Go.ChangeAt Go.RowKit Go.Shelf
set_option linter.unusedVariables false
set_option linter.unusedSimpArgs false
/-- The edges to j, from the last place down. -/
def edl (e : Nat → Nat → Bool) (j : Nat) : Nat → List (Nat × Nat)
  | 0 => []
  | k + 1 => edl e j k ++ (if e (j - 1 - k) j = true then [(j - 1 - k, j)] else [])
def elist (e : Nat → Nat → Bool) : Nat → List (Nat × Nat)
  | 0 => []
  | j + 1 => elist e j ++ edl e j j
theorem edl_mem (e : Nat → Nat → Bool) (j : Nat) (p : Nat × Nat) : ∀ k, k ≤ j → (p ∈ edl e j k ↔ p.2 = j ∧ j - k ≤ p.1 ∧ p.1 < j ∧ e p.1 j = true)
  | 0, h => by
    simp only [edl, List.not_mem_nil, false_iff]
    rintro ⟨_, h1, h2, _⟩
    omega
  | k + 1, h => by
    have ih := edl_mem e j p k (by omega)
    rw [edl, List.mem_append, ih]
    by_cases c : e (j - 1 - k) j = true
    · rw [if_pos c, List.mem_singleton]
      constructor
      · rintro (⟨h1, h2, h3, h4⟩ | rfl)
        · exact ⟨h1, by omega, h3, h4⟩
        · exact ⟨rfl, by show j - (k + 1) ≤ j - 1 - k; omega, by show j - 1 - k < j; omega, c⟩
      · rintro ⟨h1, h2, h3, h4⟩
        by_cases q : p.1 = j - 1 - k
        · right
          exact Prod.ext q h1
        · exact .inl ⟨h1, by omega, h3, h4⟩
    · rw [if_neg c]
      simp only [List.not_mem_nil, or_false]
      constructor
      · rintro ⟨h1, h2, h3, h4⟩
        exact ⟨h1, by omega, h3, h4⟩
      · rintro ⟨h1, h2, h3, h4⟩
        refine ⟨h1, ?_, h3, h4⟩
        by_cases q : p.1 = j - 1 - k
        · rw [q] at h4; exact absurd h4 c
        · omega
theorem elist_mem (e : Nat → Nat → Bool) (p : Nat × Nat) : ∀ n, p ∈ elist e n ↔ p.1 < p.2 ∧ p.2 < n ∧ e p.1 p.2 = true
  | 0 => by simp [elist]
  | n + 1 => by
    rw [elist, List.mem_append, elist_mem e p n, edl_mem e n p n (Nat.le_refl _)]
    constructor
    · rintro (⟨h1, h2, h3⟩ | ⟨h1, h2, h3, h4⟩)
      · exact ⟨h1, by omega, h3⟩
      · rw [h1]; exact ⟨h3, by omega, h4⟩
    · rintro ⟨h1, h2, h3⟩
      by_cases c : p.2 = n
      · right
        rw [c] at h1 h3
        exact ⟨c, by omega, h1, h3⟩
      · exact .inl ⟨h1, by omega, h3⟩
theorem edl_nodup (e : Nat → Nat → Bool) (j : Nat) : ∀ k, k ≤ j → (edl e j k).Nodup
  | 0, _ => List.nodup_nil
  | k + 1, h => by
    rw [edl, List.nodup_append]
    refine ⟨edl_nodup e j k (by omega), by split <;> simp, fun a ha b hb => ?_⟩
    have h1 := (edl_mem e j a k (by omega)).mp ha
    split at hb
    · rw [List.mem_singleton] at hb
      subst hb
      intro q
      have := congrArg Prod.fst q
      simp only at this
      omega
    · simp at hb
theorem elist_nodup (e : Nat → Nat → Bool) : ∀ n, (elist e n).Nodup
  | 0 => List.nodup_nil
  | n + 1 => by
    rw [elist, List.nodup_append]
    refine ⟨elist_nodup e n, edl_nodup e n n (Nat.le_refl _), fun a ha b hb => ?_⟩
    have h1 := (elist_mem e a n).mp ha
    have h2 := (edl_mem e n b n (Nat.le_refl _)).mp hb
    intro q
    rw [q] at h1
    omega
theorem elist_up (e : Nat → Nat → Bool) : ∀ n, (elist e n).Pairwise fun p q => p.2 ≤ q.2
  | 0 => .nil
  | n + 1 => by
    rw [elist, List.pairwise_append]
    refine ⟨elist_up e n, ?_, fun a ha b hb => ?_⟩
    · rw [List.pairwise_iff_forall_sublist]
      intro a b hs
      have ha := (edl_mem e n a n (Nat.le_refl _)).mp (hs.subset (by simp))
      have hb := (edl_mem e n b n (Nat.le_refl _)).mp (hs.subset (by simp))
      omega
    · have h1 := (elist_mem e a n).mp ha
      have h2 := (edl_mem e n b n (Nat.le_refl _)).mp hb
      omega
section
variable {l : List Ev} (hrt : ∀ x ∈ l, rightP x) {B : Nat → Nat → Bool} (hB : Tells (dpf l) B)
include hrt hB
theorem told_edges {cf : Nat → Ck} {j : Nat} (hj : j < l.length) (hcf : ∀ i, i < j → ∀ a, a < 6 → (cf i).of a = (ck B (gof l) i a : Int)) : ∀ k, k ≤ j → (told (evf l) cf j (dn j k)).2 = edl (edgeB (dpf l) B) j k
  | 0, _ => rfl
  | k + 1, hk => by
    have ih := told_edges hj hcf k (by omega)
    have iC := told_is hrt hB hj hcf k (by omega)
    have hi : j - 1 - k < j := by omega
    have e1 : j - k = (j - 1 - k) + 1 := by omega
    rw [dn_more (by omega), told_more]
    rw [e1] at iC
    have hgi : gof l (j - 1 - k) < 6 := gof_lt hrt (by omega)
    have htest : (cf (j - 1 - k)).of (evf l (j - 1 - k)).go.toNat ≤ (told (evf l) cf j (dn j k)).1.of (evf l (j - 1 - k)).go.toNat ↔ sB (dpf l) B j (j - 1 - k + 1) (j - 1 - k) = true := by
      rw [← test_iff hB (ord_ok hrt) hi hj]
      have h1 := hcf (j - 1 - k) hi (gof l (j - 1 - k)) hgi
      have h2 := iC (gof l (j - 1 - k)) hgi
      unfold gof at h1 h2 ⊢
      rw [h1, h2]
      omega
    unfold stp edl
    by_cases c : (cf (j - 1 - k)).of (evf l (j - 1 - k)).go.toNat ≤ (told (evf l) cf j (dn j k)).1.of (evf l (j - 1 - k)).go.toNat ∨ clash (evf l (j - 1 - k)).of (evf l j).of = false
    · rw [if_pos c, ih, if_neg, List.append_nil]
      rw [edgeB_iff]
      rintro ⟨_, q1, q2⟩
      rcases c with c | c
      · rw [htest.mp c] at q2; cases q2
      · unfold dpf at q1; rw [c] at q1; cases q1
    · rw [if_neg c, if_pos, ih]
      rw [edgeB_iff]
      refine ⟨hi, ?_, ?_⟩
      · unfold dpf
        rw [← Bool.not_eq_false]
        exact fun q => c (.inr q)
      · rw [Bool.eq_false_iff]
        exact fun q => c (.inl (htest.mpr q))
theorem rel_list : ∀ (j : Nat), j ≤ l.length → (rel (evf l) j).2 = elist (edgeB (dpf l) B) j
  | 0, _ => rfl
  | j + 1, hj => by
    have hl := rel_len (evf l) j
    rw [rel, elist, rel_list j (by omega)]
    show _ ++ _ = _
    congr 1
    exact told_edges hrt hB (cf := fun k => (rel (evf l) j).1.getD k zeroK) (by omega) (fun k hk b hb => rel_is hrt hB j (by omega) k _ (by
        rw [List.getD_eq_getElem?_getD, List.getElem?_eq_getElem (by omega)]; rfl) b hb) j (Nat.le_refl _)
theorem edges_mem (p : Nat × Nat) : p ∈ (rel (evf l) l.length).2 ↔ p.1 < p.2 ∧ p.2 < l.length ∧ edgeB (dpf l) B p.1 p.2 = true := by
  rw [rel_list hrt hB l.length (Nat.le_refl _), elist_mem]
end
/-- What Height's loop knows behind edges. -/
structure HI (n : Nat) (E : List (Nat × Nat)) (s : List Int × Int) : Prop where
  len : s.1.length = n
  pos : ∀ j, j < n → 0 ≤ s.1.getD j 0
  up : ∀ p ∈ E, s.1.getD p.1 0 + 1 ≤ s.1.getD p.2 0
  some : ∀ j, j < n → s.1.getD j 0 = 0 ∨ ∃ i, (i, j) ∈ E ∧ s.1.getD j 0 = s.1.getD i 0 + 1
  top : ∀ j, j < n → s.1.getD j 0 + 1 ≤ s.2
  hit : n = 0 ∧ s.2 = 0 ∨ ∃ j, j < n ∧ s.2 = s.1.getD j 0 + 1
theorem getD_set0 (s : List Int) (b : Nat) (m : Int) (hb : b < s.length) (j : Nat) : (s.set b m).getD j 0 = if j = b then m else s.getD j 0 := by
  simp only [List.getD_eq_getElem?_getD, List.getElem?_set]
  by_cases c : b = j
  · subst c; simp [hb]
  · rw [if_neg c, if_neg (Ne.symm c)]
theorem hi_step {n : Nat} {E : List (Nat × Nat)} {s : List Int × Int} (h : HI n E s) (p : Nat × Nat) (hp : p.1 < p.2 ∧ p.2 < n) (hE : ∀ q ∈ E, q.1 < q.2 ∧ q.2 ≤ p.2) : HI n (E ++ [p]) (hstep s p) := by
  obtain ⟨m, hm⟩ : ∃ m, max (s.1.getD p.2 0) (s.1.getD p.1 0 + 1) = m := ⟨_, rfl⟩
  have hm1 : s.1.getD p.2 0 ≤ m ∧ s.1.getD p.1 0 + 1 ≤ m ∧ (m = s.1.getD p.2 0 ∨ m = s.1.getD p.1 0 + 1) := by rw [← hm, Int.max_def]; split <;> omega
  obtain ⟨t, ht⟩ : ∃ t, max s.2 (m + 1) = t := ⟨_, rfl⟩
  have ht1 : s.2 ≤ t ∧ m + 1 ≤ t ∧ (t = s.2 ∨ t = m + 1) := by rw [← ht, Int.max_def]; split <;> omega
  have hst : hstep s p = (s.1.set p.2 m, t) := by unfold hstep; rw [hm, ht]
  have hg : ∀ j, (s.1.set p.2 m).getD j 0 = if j = p.2 then m else s.1.getD j 0 := getD_set0 s.1 p.2 m (by rw [h.len]; exact hp.2)
  rw [hst]
  refine ⟨by simp [h.len], fun j hj => ?_, fun q hq => ?_, fun j hj => ?_, fun j hj => ?_, ?_⟩
  · show 0 ≤ (s.1.set p.2 m).getD j 0
    rw [hg]
    have h1 := h.pos j hj
    have h2 := h.pos p.2 hp.2
    split <;> omega
  · show (s.1.set p.2 m).getD q.1 0 + 1 ≤ (s.1.set p.2 m).getD q.2 0
    rw [hg, hg]
    rw [List.mem_append, List.mem_singleton] at hq
    rcases hq with hq | rfl
    · have h1 := h.up q hq
      have h2 := hE q hq
      rw [if_neg (by omega)]
      by_cases c : q.2 = p.2
      · rw [if_pos c]; rw [c] at h1; omega
      · rw [if_neg c]; exact h1
    · rw [if_neg (by omega), if_pos rfl]; exact hm1.2.1
  · show (s.1.set p.2 m).getD j 0 = 0 ∨ ∃ i, (i, j) ∈ E ++ [p] ∧ (s.1.set p.2 m).getD j 0 = (s.1.set p.2 m).getD i 0 + 1
    simp only [hg]
    by_cases c : j = p.2
    · subst c
      simp only [if_true]
      rcases hm1.2.2 with q | q
      · rcases h.some p.2 hp.2 with z | ⟨i, z1, z2⟩
        · left; omega
        · right
          have := (hE _ z1).1
          refine ⟨i, List.mem_append_left _ z1, ?_⟩
          rw [if_neg (by have : i < p.2 := this; omega)]
          omega
      · right
        refine ⟨p.1, by simp, ?_⟩
        rw [if_neg (by omega)]
        exact q
    · rw [if_neg c]
      rcases h.some j hj with z | ⟨i, z1, z2⟩
      · exact .inl z
      · right
        have h1 := hE _ z1
        refine ⟨i, List.mem_append_left _ z1, ?_⟩
        rw [if_neg (by have h2 : i < j := h1.1; have h3 : j ≤ p.2 := h1.2; omega)]
        exact z2
  · show (s.1.set p.2 m).getD j 0 + 1 ≤ t
    rw [hg]
    have h1 := h.top j hj
    split <;> omega
  · right
    show ∃ j, j < n ∧ t = (s.1.set p.2 m).getD j 0 + 1
    simp only [hg]
    by_cases c : s.2 ≤ m + 1
    · exact ⟨p.2, hp.2, by rw [if_pos rfl]; omega⟩
    · rcases h.hit with ⟨q, _⟩ | ⟨j, j1, j2⟩
      · omega
      · refine ⟨j, j1, ?_⟩
        rw [if_neg (fun q => by rw [q] at j2; omega)]
        omega
theorem hi_all (n : Nat) : ∀ (k : Nat) (E : List (Nat × Nat)), E.length = k → E.Pairwise (fun p q => p.2 ≤ q.2) → (∀ p ∈ E, p.1 < p.2 ∧ p.2 < n) → HI n E (hfold n E)
  | 0, E, h, _, _ => by
    have : E = [] := List.length_eq_zero_iff.mp h
    subst this
    have h0 : ∀ j, (List.replicate n (0 : Int)).getD j 0 = 0 := fun j => by
      simp only [List.getD_eq_getElem?_getD, List.getElem?_replicate]; split <;> rfl
    refine ⟨by simp [hfold], fun j _ => by show 0 ≤ (List.replicate n (0 : Int)).getD j 0; rw [h0]; omega, fun p hp => by simp at hp, fun j _ => .inl (h0 j), fun j hj => ?_, ?_⟩
    · show (List.replicate n (0 : Int)).getD j 0 + 1 ≤ min 1 (n : Int)
      rw [h0, Int.min_def]; split <;> omega
    · show n = 0 ∧ min 1 (n : Int) = 0 ∨ ∃ j, j < n ∧ min 1 (n : Int) = (List.replicate n (0 : Int)).getD j 0 + 1
      by_cases c : n = 0
      · left; subst c; exact ⟨rfl, rfl⟩
      · right
        refine ⟨0, by omega, ?_⟩
        rw [h0, Int.min_def]; split <;> omega
  | k + 1, E, h, hs, hp => by
    rcases List.eq_nil_or_concat E with rfl | ⟨q, x, rfl⟩
    · simp at h
    · rw [List.concat_eq_append] at h hs hp ⊢
      rw [List.length_append, List.length_singleton] at h
      rw [List.pairwise_append] at hs
      have ih := hi_all n k q (by omega) hs.1 fun p hp' => hp p (List.mem_append_left _ hp')
      rw [hfold_more]
      exact hi_step ih x (hp x (by simp)) fun z hz => ⟨(hp z (List.mem_append_left _ hz)).1, hs.2.2 z hz x (by simp)⟩
section
variable {l : List Ev} (hrt : ∀ x ∈ l, rightP x) {B : Nat → Nat → Bool} (hB : Tells (dpf l) B)
include hrt hB
/-- Height's own numbers. -/
theorem hi_rel : HI l.length (rel (evf l) l.length).2 (hfold l.length (rel (evf l) l.length).2) :=
  hi_all _ _ _ rfl (by rw [rel_list hrt hB l.length (Nat.le_refl _)]; exact elist_up _ _) fun p hp => by
    have := (edges_mem hrt hB p).mp hp
    exact ⟨this.1, this.2.1⟩
theorem high_rel : High l.length (edgeB (dpf l) B) fun j => (hfold l.length (rel (evf l) l.length).2).1.getD j 0 := by
  have h := hi_rel hrt hB
  refine ⟨h.pos, fun i j h1 h2 h3 => h.up (i, j) ((edges_mem hrt hB (i, j)).mpr ⟨h1, h2, h3⟩), fun j hj => ?_⟩
  rcases h.some j hj with q | ⟨i, q1, q2⟩
  · exact .inl q
  · have := (edges_mem hrt hB (i, j)).mp q1
    exact .inr ⟨i, this.1, this.2.2, q2⟩
end
end Go.Proofs.Ytkhhkgfaakgdfaa.pg
/- The document's own Edge and Edges. -/
namespace Go.Proofs.Ytkhhkgfaakgdfaa.pg
open Go.ChangeShapes Go.WideShapes Go.ChangeAt Go.RowKit Go.Shelf
set_option linter.unusedVariables false
set_option linter.unusedSimpArgs false
set_option maxRecDepth 100000
attribute [local go_sem ↓] Go.wp_at_zero Go.wp_at_succ
set_option maxHeartbeats 1000000 in
theorem redge_any (lo A n : Nat) (rb : Nat → Nat) {d B : Nat → Nat → Bool} (hB : Tells d B) (i j : Nat) (w : World) (hm : Mat w lo A n n rb B) (hn : n ≤ 256) (hij : i < j) (hj : j < n) (R : Bool) (hR : Hid (R = edgeB d B i j)) :
    Calls Try.prog 49 #[.slice (some ⟨A, 0, none⟩) n n, .int .i64 (i : Int), .int .i64 (j : Int)] w fun e w' => e = .returned (.bool R) ∧ w' = w := by
  have hmH : Hid (Mat w lo A n n rb B) := hm
  have hnI : (n : Int) ≤ 256 := by omega
  have hiI : (i : Int) < 256 := by omega
  have hjI : (j : Int) < 256 := by omega
  have hyes : Hid (B i j = true → (∀ k, i < k → k < j → ¬ (B i k = true ∧ B k j = true)) → R = true) := fun h1 h2 => by
    rw [hR.out, edgeB_is hB]
    refine ⟨(hB i j).mp h1, fun k hk => ?_⟩
    exact h2 k hk.1.lt hk.2.lt ⟨(hB i k).mpr hk.1, (hB k j).mpr hk.2⟩
  have hno1 : Hid (B i j = false → R = false) := fun h1 => by
    rw [hR.out, Bool.eq_false_iff]
    intro q
    have := (hB i j).mpr ((edgeB_is hB).mp q).1
    rw [h1] at this; cases this
  have hno2 : Hid (∀ k, B i k = true → B k j = true → R = false) := fun k h1 h2 => by
    rw [hR.out, Bool.eq_false_iff]
    intro q
    exact ((edgeB_is hB).mp q).2 k ⟨(hB i k).mp h1, (hB k j).mp h2⟩
  have xI := ix_row A n i (by omega)
  have rI := hm.row (i := i) (by omega) (by omega)
  have xJ := ix_bool (rb i) n j hj
  have cJ := (hm.cell (i := i) (j := j) (by omega) hj).1
  clear hm hR hB
  obtain ⟨P, hP⟩ : ∃ P, B i j = P := ⟨_, rfl⟩
  rw [hP] at cJ
  have hPH : Hid (B i j = P) := hP
  clear hP
  cases P with
  | false =>
    have e : R = false := hno1.out hPH.out
    subst e
    go_enter Try.func49, Try.ntmps49
    go_wp2
    go_ret
    exact ⟨rfl, rfl⟩
  | true =>
    have hw1 : wrap64 ((i : Int) + 1) = (i : Int) + 1 := by simp only [wrap64]; omega
    go_enter Try.func49, Try.ntmps49
    go_wp2_with fail
    clear xJ cJ
    go_loopw [7] (fun u wr => ∃ k : Nat, i + 1 ≤ k ∧ k ≤ j ∧ u = .int .i64 k ∧ wr = w ∧ Hid (∀ q, i < q → q < k → ¬ (B i q = true ∧ B q j = true))) (fun u _ => j - (intOf u).toNat)
    case atStart => exact ⟨i + 1, Nat.le_refl _, by omega, by go_num, rfl, fun q h1 h2 => by omega⟩
    case round =>
      obtain ⟨k, hk1, hk2, rfl, rfl, hall⟩ := hrel
      by_cases hlt : k < j
      · have hkI : (k : Int) < j := by omega
        have xK := ix_bool (rb i) n k (by omega)
        have cK := (hmH.out.cell (i := i) (j := k) (by omega) (by omega)).1
        have xA := ix_row A n k (by omega)
        have rK := hmH.out.row (i := k) (by omega) (by omega)
        have xL := ix_bool (rb k) n j hj
        have cL := (hmH.out.cell (i := k) (j := j) (by omega) hj).1
        obtain ⟨P, hP⟩ : ∃ P, B i k = P := ⟨_, rfl⟩
        obtain ⟨Q, hQ⟩ : ∃ Q, B k j = Q := ⟨_, rfl⟩
        rw [hP] at cK
        rw [hQ] at cL
        have hPQ : Hid (B i k = P ∧ B k j = Q) := ⟨hP, hQ⟩
        have hmore : Hid (¬ (P = true ∧ Q = true) → ∀ q, i < q → q < k + 1 → ¬ (B i q = true ∧ B q j = true)) := fun h q h1 h2 => by
          by_cases e : q = k
          · rw [e, hPQ.out.1, hPQ.out.2]; exact h
          · exact hall.out q h1 (by omega)
        clear hP hQ hall
        cases P with
        | false =>
          go_wp2
          go_roundw
          case rel => exact ⟨k + 1, by omega, by omega, by go_num, trivial, hmore.out (by simp)⟩
          case measure => simp [intOf]; omega
        | true =>
          cases Q with
          | false =>
            go_wp2
            go_roundw
            case rel => exact ⟨k + 1, by omega, by omega, by go_num, trivial, hmore.out (by simp)⟩
            case measure => simp [intOf]; omega
          | true =>
            have e : R = false := hno2.out k hPQ.out.1 hPQ.out.2
            subst e
            go_wp2
            go_ret
            exact ⟨rfl, rfl⟩
      · have hk3 : k = j := by omega
        subst hk3
        have e : R = true := hyes.out hPH.out hall.out
        subst e
        go_wp2
        go_ret
        exact ⟨rfl, rfl⟩
/-- The edges from i to places below k. -/
def eRow (e : Nat → Nat → Bool) (i : Nat) : Nat → List (Nat × Nat)
  | 0 => []
  | k + 1 => eRow e i k ++ (if i < k ∧ e i k = true then [(i, k)] else [])
def eAll (e : Nat → Nat → Bool) (n : Nat) : Nat → List (Nat × Nat)
  | 0 => []
  | i + 1 => eAll e n i ++ eRow e i n
theorem eRow_len (e : Nat → Nat → Bool) (i : Nat) : ∀ k, (eRow e i k).length ≤ k
  | 0 => Nat.le_refl _
  | k + 1 => by have := eRow_len e i k; rw [eRow, List.length_append]; split <;> simp <;> omega
theorem eAll_len (e : Nat → Nat → Bool) (n : Nat) : ∀ i, (eAll e n i).length ≤ n * i
  | 0 => Nat.zero_le _
  | i + 1 => by have h1 := eAll_len e n i; have h2 := eRow_len e i n; rw [eAll, List.length_append, Nat.mul_add]; omega
theorem eRow_mem (e : Nat → Nat → Bool) (i : Nat) (p : Nat × Nat) : ∀ k, p ∈ eRow e i k ↔ p.1 = i ∧ i < p.2 ∧ p.2 < k ∧ e i p.2 = true
  | 0 => by simp [eRow]
  | k + 1 => by
    rw [eRow, List.mem_append, eRow_mem e i p k]
    constructor
    · rintro (⟨h1, h2, h3, h4⟩ | h)
      · exact ⟨h1, h2, by omega, h4⟩
      · split at h
        · rename_i c
          rw [List.mem_singleton] at h
          subst h
          exact ⟨rfl, c.1, by show k < k + 1; omega, c.2⟩
        · simp at h
    · rintro ⟨h1, h2, h3, h4⟩
      by_cases c : p.2 = k
      · right
        rw [c] at h2 h4
        rw [if_pos ⟨h2, h4⟩, List.mem_singleton]
        exact Prod.ext h1 c
      · exact .inl ⟨h1, h2, by omega, h4⟩
theorem eAll_mem (e : Nat → Nat → Bool) (n : Nat) (p : Nat × Nat) : ∀ i, p ∈ eAll e n i ↔ p.1 < i ∧ p.1 < p.2 ∧ p.2 < n ∧ e p.1 p.2 = true
  | 0 => by simp [eAll]
  | i + 1 => by
    rw [eAll, List.mem_append, eAll_mem e n p i, eRow_mem e i p n]
    constructor
    · rintro (⟨h1, h2, h3, h4⟩ | ⟨h1, h2, h3, h4⟩)
      · exact ⟨by omega, h2, h3, h4⟩
      · rw [h1]; exact ⟨by omega, h2, h3, h4⟩
    · rintro ⟨h1, h2, h3, h4⟩
      by_cases c : p.1 = i
      · right; rw [c] at h2 h4; exact ⟨c, h2, h3, h4⟩
      · exact .inl ⟨by omega, h2, h3, h4⟩
/-- Strictly one behind the other. -/
def lexS (x y : Nat × Nat) : Prop := x.1 < y.1 ∨ x.1 = y.1 ∧ x.2 < y.2
theorem eRow_up (e : Nat → Nat → Bool) (i : Nat) : ∀ k, (eRow e i k).Pairwise lexS
  | 0 => .nil
  | k + 1 => by
    rw [eRow, List.pairwise_append]
    refine ⟨eRow_up e i k, by split <;> simp, fun a ha b hb => ?_⟩
    have h1 := (eRow_mem e i a k).mp ha
    split at hb
    · rw [List.mem_singleton] at hb
      subst hb
      exact .inr ⟨h1.1, h1.2.2.1⟩
    · simp at hb
theorem eAll_up (e : Nat → Nat → Bool) (n : Nat) : ∀ i, (eAll e n i).Pairwise lexS
  | 0 => .nil
  | i + 1 => by
    rw [eAll, List.pairwise_append]
    refine ⟨eAll_up e n i, eRow_up e i n, fun a ha b hb => ?_⟩
    have h1 := (eAll_mem e n a i).mp ha
    have h2 := (eRow_mem e i b n).mp hb
    exact .inl (by omega)
/-- Sorted, the edges are the document's own list. -/
theorem edges_same {l : List Ev} (hrt : ∀ x ∈ l, rightP x) {B : Nat → Nat → Bool} (hB : Tells (dpf l) B) {D : List (Nat × Nat)} (hp : D.Perm (rel (evf l) l.length).2) (hs : D.Pairwise lex) : D = eAll (edgeB (dpf l) B) l.length l.length := by
  have hnd : (eAll (edgeB (dpf l) B) l.length l.length).Nodup := (eAll_up _ _ _).imp fun {a b} h q => by subst q; unfold lexS at h; omega
  have hD : D.Nodup := by
    rw [hp.nodup_iff, rel_list hrt hB l.length (Nat.le_refl _)]
    exact elist_nodup _ _
  refine List.Perm.eq_of_pairwise (le := lex) (fun a b _ _ h1 h2 => ?_) hs ((eAll_up _ _ _).imp fun {a b} h => ?_) ((List.perm_ext_iff_of_nodup hD hnd).mpr fun p => ?_)
  · unfold lex at h1 h2
    exact Prod.ext (by omega) (by omega)
  · unfold lexS at h; unfold lex; omega
  · rw [hp.mem_iff, edges_mem hrt hB, eAll_mem]
    constructor
    · rintro ⟨h1, h2, h3⟩; exact ⟨by omega, h1, h2, h3⟩
    · rintro ⟨_, h1, h2, h3⟩; exact ⟨h1, h2, h3⟩
theorem infoPr : (Try.prog.info? 41).map (fun i => (i.zero, i.size, i.bytes)) = some (some (.agg #[.int .i64 0, .int .i64 0]), 2, 16) := by kernel_rfl
theorem one2e (p : Nat × Nat) : ∀ u ∈ edg p, u.oneCell' = true := by intro u hu; simp [edg] at hu; rcases hu with rfl | rfl <;> rfl
structure PsS (w wr : World) (L : List (Nat × Nat)) (va : Option Addr) (vc : Nat) : Prop where
  be : Below w.heap.size w wr
  ow : OwnL wr w.heap.size 41 2 va vc (L.map edg)
theorem PsS.later {w wr w' : World} {L : List (Nat × Nat)} {va : Option Addr} {vc : Nat} (h : PsS w wr L va vc) (hb : Below wr.heap.size wr w') : PsS w w' L va vc :=
  ⟨bthen h.be hb, own_keep h.ow fun b hb' => hb.block b (blk_lt h.ow b hb').2⟩
theorem PsS.grown {w wr w' : World} {L : List (Nat × Nat)} {va va' : Option Addr} {vc vc' : Nat} {x : Nat × Nat} (h : PsS w wr L va vc) (hg : Grown wr w.heap.size 41 2 va (L.map edg) (edg x) va' vc' w') : PsS w w' (L ++ [x]) va' vc' :=
  ⟨below_min h.be h.be.size hg.be, by rw [List.map_append]; exact hg.ow⟩
set_option maxHeartbeats 2000000 in
theorem redges_any (l : List Ev) (la : Option Addr) (lc : Nat) (w : World) (hl : Rows w 26 la lc (l.map Ev.cells)) (hlen : l.length ≤ 256) (B : Nat → Nat → Bool) (hB : Tells (dpf l) B) :
    Calls Try.prog 18 #[.slice la l.length lc] w fun e w' => ∃ va vc, e = .returned (.slice va (eAll (edgeB (dpf l) B) l.length l.length).length vc) ∧ Rows w' 2 va vc ((eAll (edgeB (dpf l) B) l.length l.length).map edg) ∧ Below w.heap.size w w' := by
  have cM := rbef_any l la lc w hl hlen B hB
  have hlI : (l.length : Int) ≤ 256 := by omega
  have hBH : Hid (Tells (dpf l) B) := hB
  obtain ⟨iP, hiP, hzP, hsP, hbP⟩ := info_q infoPr
  have iPH : Hid (Try.prog.info? 41 = some iP ∧ iP.zero = some (.agg #[.int .i64 0, .int .i64 0]) ∧ iP.size = 2 ∧ iP.bytes = 16) := ⟨hiP, hzP, hsP, hbP⟩
  clear hl hB hiP hzP hsP hbP
  obtain ⟨ed, hed⟩ : ∃ ed, edgeB (dpf l) B = ed := ⟨_, rfl⟩
  have hedH : Hid (edgeB (dpf l) B = ed) := hed
  rw [hed]
  clear hed
  go_enter Try.func18, Try.ntmps18
  go_wp2_with (first
    | (go_at_call 26; (with_reducible refine cM.mono ?_); rintro e w1 ⟨A, rb, rfl, hm'⟩; (have hm : Hid (RbS w w1 A l.length l.length rb B) := hm'); clear hm' cM))
  have s0 : Hid (PsS w1 w1 (eAll ed l.length 0) none 0) := ⟨Below.refl _ _, own_nil_q _ _ _ _⟩
  go_loopw [4, 5] (fun o u wr => ∃ (i : Nat) (va : Option Addr) (vc : Nat), i ≤ l.length ∧ u = .int .i64 i ∧ o = .slice va (eAll ed l.length i).length vc ∧ Hid (PsS w1 wr (eAll ed l.length i) va vc)) (fun _ u _ => l.length - (intOf u).toNat)
  case atStart => exact ⟨0, none, 0, Nat.zero_le _, rfl, rfl, s0⟩
  case round =>
    obtain ⟨i, va, vc, hi, rfl, rfl, hs⟩ := hrel
    clear s0
    by_cases hlt : i < l.length
    · have hiI : (i : Int) < l.length := by omega
      have hw1 : wrap64 ((i : Int) + 1) = (i : Int) + 1 := by simp only [wrap64]; omega
      have hel := eAll_len ed l.length i
      have hel2 : Hid ((eAll ed l.length i).length ≤ 65536) := by
        show _ ≤ _
        have : l.length * i ≤ 256 * 256 := Nat.mul_le_mul hlen (by omega)
        omega
      have t0 : Hid (PsS w1 wr (eAll ed l.length i ++ eRow ed i (i + 1)) va vc) := by
        have e : eRow ed i (i + 1) = [] := by
          rw [List.eq_nil_iff_forall_not_mem]
          intro p hp
          have := (eRow_mem ed i p (i + 1)).mp hp
          omega
        rw [e, List.append_nil]; exact hs.out
      have e0 : (eAll ed l.length i ++ eRow ed i (i + 1)).length = (eAll ed l.length i).length := by
        have e : eRow ed i (i + 1) = [] := by
          rw [List.eq_nil_iff_forall_not_mem]
          intro p hp
          have := (eRow_mem ed i p (i + 1)).mp hp
          omega
        rw [e, List.append_nil]
      have e0H : Hid ((eAll ed l.length i ++ eRow ed i (i + 1)).length = (eAll ed l.length i).length) := e0
      clear hs hel e0
      go_wp2_with fail
      go_loopw [4, 6] (fun o u wq => ∃ (j : Nat) (va : Option Addr) (vc : Nat), i + 1 ≤ j ∧ j ≤ l.length ∧ u = .int .i64 j ∧ o = .slice va (eAll ed l.length i ++ eRow ed i j).length vc ∧ Hid (PsS w1 wq (eAll ed l.length i ++ eRow ed i j) va vc)) (fun _ u _ => l.length - (intOf u).toNat)
      case atStart => exact ⟨i + 1, va, vc, Nat.le_refl _, by omega, by go_num, by rw [e0H.out], t0⟩
      case round =>
        rename World => wq
        obtain ⟨j, va, vc, hj1, hj2, rfl, rfl, hs⟩ := hrel
        clear t0
        by_cases hjn : j < l.length
        · have hjI : (j : Int) < l.length := by omega
          obtain ⟨R, hR⟩ : ∃ R, Hid (R = edgeB (dpf l) B i j) := ⟨_, rfl⟩
          have cE := redge_any w.heap.size A l.length rb hBH.out i j wq ((hm.out.m.later hs.out.be)) hlen (by omega) hjn R hR
          have hmore : Hid (eRow ed i (j + 1) = eRow ed i j ++ (if R = true then [(i, j)] else [])) := by
            show _ = _
            rw [eRow, hR.out, hedH.out]
            congr 1
            by_cases c : ed i j = true
            · rw [if_pos ⟨by omega, c⟩, if_pos c]
            · rw [if_neg (fun q => c q.2), if_neg c]
          have hel3 : Hid ((eAll ed l.length i ++ eRow ed i j).length ≤ 70000) := by
            show _ ≤ _
            have h1 := hel2.out
            have h2 := eRow_len ed i j
            rw [List.length_append]; omega
          cases R with
          | true =>
            have hN : Hid (eAll ed l.length i ++ eRow ed i (j + 1) = (eAll ed l.length i ++ eRow ed i j) ++ [(i, j)]) := by show _ = _; rw [hmore.out, if_pos rfl, List.append_assoc]
            clear hmore hR
            generalize eAll ed l.length i ++ eRow ed i j = L at *
            go_wp2_with (first
              | (go_at_call 49; (refine cE.mono ?_); rintro e w5 ⟨rfl, rfl⟩; clear cE)
              | (refine wpList_buildSlice rfl 27 41 1 _ rfl (edg (i, j)).toArray iP _ Try.underlying27 iPH.out.1 iPH.out.2.1 (by rw [iPH.out.2.2.1]; omega) (by rw [iPH.out.2.2.1]; omega) (by simp only [iPH.out.2.2.1]; kernel_rfl) ?_)
              | (at_builtin; (refine wpList_app1 rfl (.tmp 27) (.tmp 31) 27 rfl w1.heap.size 41 iP _ 2 16 Try.underlying27 iPH.out.1 iPH.out.2.1 iPH.out.2.2.1 iPH.out.2.2.2 rfl (by decide) va vc (L.map edg) (by rw [List.length_map]; rfl) hs.out.ow (edg (i, j)) rfl rfl (one2e _) (by rw [List.length_map]; unfold maxLen; have := hel3.out; omega) (by rw [List.length_map]; have := hel3.out; omega) hs.out.be.size ?_); intro va' vc' w2 hg; rw [List.length_map]; (have hg2 : Hid (PsS w1 w2 (L ++ [(i, j)]) va' vc') := hs.out.grown hg); clear hg))
            go_roundw
            case rel => exact ⟨j + 1, va', vc', by omega, by omega, by go_num, by rw [hN.out, List.length_append]; rfl, by rw [hN.out]; exact hg2⟩
            case measure => simp [intOf]; omega
          | false =>
            have hN : Hid (eAll ed l.length i ++ eRow ed i (j + 1) = eAll ed l.length i ++ eRow ed i j) := by show _ = _; rw [hmore.out, if_neg Bool.false_ne_true, List.append_nil]
            clear hmore hR
            generalize eAll ed l.length i ++ eRow ed i j = L at *
            go_wp2_with (first
              | (go_at_call 49; (refine cE.mono ?_); rintro e w5 ⟨rfl, rfl⟩; clear cE))
            go_roundw
            case rel => exact ⟨j + 1, va, vc, by omega, by omega, by go_num, by rw [hN.out], by rw [hN.out]; exact hs⟩
            case measure => simp [intOf]; omega
        · have hj3 : j = l.length := by omega
          subst hj3
          have hN : Hid (eAll ed l.length (i + 1) = eAll ed l.length i ++ eRow ed i l.length) := rfl
          generalize eAll ed l.length i ++ eRow ed i l.length = L at *
          go_wp2
          go_roundw
          case rel => exact ⟨i + 1, va, vc, by omega, by go_num, by rw [hN.out], by rw [hN.out]; exact hs⟩
          case measure => simp [intOf]; omega
    · have hi2 : i = l.length := by omega
      subst hi2
      go_wp2
      go_ret
      exact ⟨va, vc, rfl, own_rows hs.out.ow (fun row hm => by rw [List.mem_map] at hm; obtain ⟨y, _, rfl⟩ := hm; rfl), bthen hm.out.b hs.out.be⟩
end Go.Proofs.Ytkhhkgfaakgdfaa.pg
