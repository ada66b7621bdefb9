/- Which edges package order tells, and how high chains are. -/
import Derived.Test.YtkhhkgfaakgdfaaM25
import Derived.Test.YtkhhkgfaakgdfaaM23
namespace Go.Proofs.Ytkhhkgfaakgdfaa.pg
open Go.ChangeShapes Go.WideShapes Go.ChangeAt Go.RowKit Go.Shelf
set_option linter.unusedVariables false
set_option linter.unusedSimpArgs false
/-- The edges to j, from the last place down. -/
def edl (e : Nat → Nat → Bool) (j : Nat) : Nat → List (Nat × Nat)
  | 0 => []
  | k + 1 => edl e j k ++ (if e (j - 1 - k) j = true then [(j - 1 - k, j)] else [])
def elist (e : Nat → Nat → Bool) : Nat → List (Nat × Nat)
  | 0 => []
  | j + 1 => elist e j ++ edl e j j
theorem edl_mem (e : Nat → Nat → Bool) (j : Nat) (p : Nat × Nat) : ∀ k, k ≤ j → (p ∈ edl e j k ↔ p.2 = j ∧ j - k ≤ p.1 ∧ p.1 < j ∧ e p.1 j = true)
  | 0, h => by
    simp only [edl, List.not_mem_nil, false_iff]
    rintro ⟨_, h1, h2, _⟩
    omega
  | k + 1, h => by
    have ih := edl_mem e j p k (by omega)
    rw [edl, List.mem_append, ih]
    by_cases c : e (j - 1 - k) j = true
    · rw [if_pos c, List.mem_singleton]
      constructor
      · rintro (⟨h1, h2, h3, h4⟩ | rfl)
        · exact ⟨h1, by omega, h3, h4⟩
        · exact ⟨rfl, by show j - (k + 1) ≤ j - 1 - k; omega, by show j - 1 - k < j; omega, c⟩
      · rintro ⟨h1, h2, h3, h4⟩
        by_cases q : p.1 = j - 1 - k
        · right
          exact Prod.ext q h1
        · exact .inl ⟨h1, by omega, h3, h4⟩
    · rw [if_neg c]
      simp only [List.not_mem_nil, or_false]
      constructor
      · rintro ⟨h1, h2, h3, h4⟩
        exact ⟨h1, by omega, h3, h4⟩
      · rintro ⟨h1, h2, h3, h4⟩
        refine ⟨h1, ?_, h3, h4⟩
        by_cases q : p.1 = j - 1 - k
        · rw [q] at h4; exact absurd h4 c
        · omega
theorem elist_mem (e : Nat → Nat → Bool) (p : Nat × Nat) : ∀ n, p ∈ elist e n ↔ p.1 < p.2 ∧ p.2 < n ∧ e p.1 p.2 = true
  | 0 => by simp [elist]
  | n + 1 => by
    rw [elist, List.mem_append, elist_mem e p n, edl_mem e n p n (Nat.le_refl _)]
    constructor
    · rintro (⟨h1, h2, h3⟩ | ⟨h1, h2, h3, h4⟩)
      · exact ⟨h1, by omega, h3⟩
      · rw [h1]; exact ⟨h3, by omega, h4⟩
    · rintro ⟨h1, h2, h3⟩
      by_cases c : p.2 = n
      · right
        rw [c] at h1 h3
        exact ⟨c, by omega, h1, h3⟩
      · exact .inl ⟨h1, by omega, h3⟩
theorem edl_nodup (e : Nat → Nat → Bool) (j : Nat) : ∀ k, k ≤ j → (edl e j k).Nodup
  | 0, _ => List.nodup_nil
  | k + 1, h => by
    rw [edl, List.nodup_append]
    refine ⟨edl_nodup e j k (by omega), by split <;> simp, fun a ha b hb => ?_⟩
    have h1 := (edl_mem e j a k (by omega)).mp ha
    split at hb
    · rw [List.mem_singleton] at hb
      subst hb
      intro q
      have := congrArg Prod.fst q
      simp only at this
      omega
    · simp at hb
theorem elist_nodup (e : Nat → Nat → Bool) : ∀ n, (elist e n).Nodup
  | 0 => List.nodup_nil
  | n + 1 => by
    rw [elist, List.nodup_append]
    refine ⟨elist_nodup e n, edl_nodup e n n (Nat.le_refl _), fun a ha b hb => ?_⟩
    have h1 := (elist_mem e a n).mp ha
    have h2 := (edl_mem e n b n (Nat.le_refl _)).mp hb
    intro q
    rw [q] at h1
    omega
theorem elist_up (e : Nat → Nat → Bool) : ∀ n, (elist e n).Pairwise fun p q => p.2 ≤ q.2
  | 0 => .nil
  | n + 1 => by
    rw [elist, List.pairwise_append]
    refine ⟨elist_up e n, ?_, fun a ha b hb => ?_⟩
    · rw [List.pairwise_iff_forall_sublist]
      intro a b hs
      have ha := (edl_mem e n a n (Nat.le_refl _)).mp (hs.subset (by simp))
      have hb := (edl_mem e n b n (Nat.le_refl _)).mp (hs.subset (by simp))
      omega
    · have h1 := (elist_mem e a n).mp ha
      have h2 := (edl_mem e n b n (Nat.le_refl _)).mp hb
      omega
section
variable {l : List Ev} (hrt : ∀ x ∈ l, rightP x) {B : Nat → Nat → Bool} (hB : Tells (dpf l) B)
include hrt hB
theorem told_edges {cf : Nat → Ck} {j : Nat} (hj : j < l.length) (hcf : ∀ i, i < j → ∀ a, a < 6 → (cf i).of a = (ck B (gof l) i a : Int)) : ∀ k, k ≤ j → (told (evf l) cf j (dn j k)).2 = edl (edgeB (dpf l) B) j k
  | 0, _ => rfl
  | k + 1, hk => by
    have ih := told_edges hj hcf k (by omega)
    have iC := told_is hrt hB hj hcf k (by omega)
    have hi : j - 1 - k < j := by omega
    have e1 : j - k = (j - 1 - k) + 1 := by omega
    rw [dn_more (by omega), told_more]
    rw [e1] at iC
    have hgi : gof l (j - 1 - k) < 6 := gof_lt hrt (by omega)
    have htest : (cf (j - 1 - k)).of (evf l (j - 1 - k)).go.toNat ≤ (told (evf l) cf j (dn j k)).1.of (evf l (j - 1 - k)).go.toNat ↔ sB (dpf l) B j (j - 1 - k + 1) (j - 1 - k) = true := by
      rw [← test_iff hB (ord_ok hrt) hi hj]
      have h1 := hcf (j - 1 - k) hi (gof l (j - 1 - k)) hgi
      have h2 := iC (gof l (j - 1 - k)) hgi
      unfold gof at h1 h2 ⊢
      rw [h1, h2]
      omega
    unfold stp edl
    by_cases c : (cf (j - 1 - k)).of (evf l (j - 1 - k)).go.toNat ≤ (told (evf l) cf j (dn j k)).1.of (evf l (j - 1 - k)).go.toNat ∨ clash (evf l (j - 1 - k)).of (evf l j).of = false
    · rw [if_pos c, ih, if_neg, List.append_nil]
      rw [edgeB_iff]
      rintro ⟨_, q1, q2⟩
      rcases c with c | c
      · rw [htest.mp c] at q2; cases q2
      · unfold dpf at q1; rw [c] at q1; cases q1
    · rw [if_neg c, if_pos, ih]
      rw [edgeB_iff]
      refine ⟨hi, ?_, ?_⟩
      · unfold dpf
        rw [← Bool.not_eq_false]
        exact fun q => c (.inr q)
      · rw [Bool.eq_false_iff]
        exact fun q => c (.inl (htest.mpr q))
theorem rel_list : ∀ (j : Nat), j ≤ l.length → (rel (evf l) j).2 = elist (edgeB (dpf l) B) j
  | 0, _ => rfl
  | j + 1, hj => by
    have hl := rel_len (evf l) j
    rw [rel, elist, rel_list j (by omega)]
    show _ ++ _ = _
    congr 1
    exact told_edges hrt hB (cf := fun k => (rel (evf l) j).1.getD k zeroK) (by omega) (fun k hk b hb => rel_is hrt hB j (by omega) k _ (by
        rw [List.getD_eq_getElem?_getD, List.getElem?_eq_getElem (by omega)]; rfl) b hb) j (Nat.le_refl _)
theorem edges_mem (p : Nat × Nat) : p ∈ (rel (evf l) l.length).2 ↔ p.1 < p.2 ∧ p.2 < l.length ∧ edgeB (dpf l) B p.1 p.2 = true := by
  rw [rel_list hrt hB l.length (Nat.le_refl _), elist_mem]
end
/-- What Height's loop knows behind edges. -/
structure HI (n : Nat) (E : List (Nat × Nat)) (s : List Int × Int) : Prop where
  len : s.1.length = n
  pos : ∀ j, j < n → 0 ≤ s.1.getD j 0
  up : ∀ p ∈ E, s.1.getD p.1 0 + 1 ≤ s.1.getD p.2 0
  some : ∀ j, j < n → s.1.getD j 0 = 0 ∨ ∃ i, (i, j) ∈ E ∧ s.1.getD j 0 = s.1.getD i 0 + 1
  top : ∀ j, j < n → s.1.getD j 0 + 1 ≤ s.2
  hit : n = 0 ∧ s.2 = 0 ∨ ∃ j, j < n ∧ s.2 = s.1.getD j 0 + 1
theorem getD_set0 (s : List Int) (b : Nat) (m : Int) (hb : b < s.length) (j : Nat) : (s.set b m).getD j 0 = if j = b then m else s.getD j 0 := by
  simp only [List.getD_eq_getElem?_getD, List.getElem?_set]
  by_cases c : b = j
  · subst c; simp [hb]
  · rw [if_neg c, if_neg (Ne.symm c)]
theorem hi_step {n : Nat} {E : List (Nat × Nat)} {s : List Int × Int} (h : HI n E s) (p : Nat × Nat) (hp : p.1 < p.2 ∧ p.2 < n) (hE : ∀ q ∈ E, q.1 < q.2 ∧ q.2 ≤ p.2) : HI n (E ++ [p]) (hstep s p) := by
  obtain ⟨m, hm⟩ : ∃ m, max (s.1.getD p.2 0) (s.1.getD p.1 0 + 1) = m := ⟨_, rfl⟩
  have hm1 : s.1.getD p.2 0 ≤ m ∧ s.1.getD p.1 0 + 1 ≤ m ∧ (m = s.1.getD p.2 0 ∨ m = s.1.getD p.1 0 + 1) := by rw [← hm, Int.max_def]; split <;> omega
  obtain ⟨t, ht⟩ : ∃ t, max s.2 (m + 1) = t := ⟨_, rfl⟩
  have ht1 : s.2 ≤ t ∧ m + 1 ≤ t ∧ (t = s.2 ∨ t = m + 1) := by rw [← ht, Int.max_def]; split <;> omega
  have hst : hstep s p = (s.1.set p.2 m, t) := by unfold hstep; rw [hm, ht]
  have hg : ∀ j, (s.1.set p.2 m).getD j 0 = if j = p.2 then m else s.1.getD j 0 := getD_set0 s.1 p.2 m (by rw [h.len]; exact hp.2)
  rw [hst]
  refine ⟨by simp [h.len], fun j hj => ?_, fun q hq => ?_, fun j hj => ?_, fun j hj => ?_, ?_⟩
  · show 0 ≤ (s.1.set p.2 m).getD j 0
    rw [hg]
    have h1 := h.pos j hj
    have h2 := h.pos p.2 hp.2
    split <;> omega
  · show (s.1.set p.2 m).getD q.1 0 + 1 ≤ (s.1.set p.2 m).getD q.2 0
    rw [hg, hg]
    rw [List.mem_append, List.mem_singleton] at hq
    rcases hq with hq | rfl
    · have h1 := h.up q hq
      have h2 := hE q hq
      rw [if_neg (by omega)]
      by_cases c : q.2 = p.2
      · rw [if_pos c]; rw [c] at h1; omega
      · rw [if_neg c]; exact h1
    · rw [if_neg (by omega), if_pos rfl]; exact hm1.2.1
  · show (s.1.set p.2 m).getD j 0 = 0 ∨ ∃ i, (i, j) ∈ E ++ [p] ∧ (s.1.set p.2 m).getD j 0 = (s.1.set p.2 m).getD i 0 + 1
    simp only [hg]
    by_cases c : j = p.2
    · subst c
      simp only [if_true]
      rcases hm1.2.2 with q | q
      · rcases h.some p.2 hp.2 with z | ⟨i, z1, z2⟩
        · left; omega
        · right
          have := (hE _ z1).1
          refine ⟨i, List.mem_append_left _ z1, ?_⟩
          rw [if_neg (by have : i < p.2 := this; omega)]
          omega
      · right
        refine ⟨p.1, by simp, ?_⟩
        rw [if_neg (by omega)]
        exact q
    · rw [if_neg c]
      rcases h.some j hj with z | ⟨i, z1, z2⟩
      · exact .inl z
      · right
        have h1 := hE _ z1
        refine ⟨i, List.mem_append_left _ z1, ?_⟩
        rw [if_neg (by have h2 : i < j := h1.1; have h3 : j ≤ p.2 := h1.2; omega)]
        exact z2
  · show (s.1.set p.2 m).getD j 0 + 1 ≤ t
    rw [hg]
    have h1 := h.top j hj
    split <;> omega
  · right
    show ∃ j, j < n ∧ t = (s.1.set p.2 m).getD j 0 + 1
    simp only [hg]
    by_cases c : s.2 ≤ m + 1
    · exact ⟨p.2, hp.2, by rw [if_pos rfl]; omega⟩
    · rcases h.hit with ⟨q, _⟩ | ⟨j, j1, j2⟩
      · omega
      · refine ⟨j, j1, ?_⟩
        rw [if_neg (fun q => by rw [q] at j2; omega)]
        omega
theorem hi_all (n : Nat) : ∀ (k : Nat) (E : List (Nat × Nat)), E.length = k → E.Pairwise (fun p q => p.2 ≤ q.2) → (∀ p ∈ E, p.1 < p.2 ∧ p.2 < n) → HI n E (hfold n E)
  | 0, E, h, _, _ => by
    have : E = [] := List.length_eq_zero_iff.mp h
    subst this
    have h0 : ∀ j, (List.replicate n (0 : Int)).getD j 0 = 0 := fun j => by
      simp only [List.getD_eq_getElem?_getD, List.getElem?_replicate]; split <;> rfl
    refine ⟨by simp [hfold], fun j _ => by show 0 ≤ (List.replicate n (0 : Int)).getD j 0; rw [h0]; omega, fun p hp => by simp at hp, fun j _ => .inl (h0 j), fun j hj => ?_, ?_⟩
    · show (List.replicate n (0 : Int)).getD j 0 + 1 ≤ min 1 (n : Int)
      rw [h0, Int.min_def]; split <;> omega
    · show n = 0 ∧ min 1 (n : Int) = 0 ∨ ∃ j, j < n ∧ min 1 (n : Int) = (List.replicate n (0 : Int)).getD j 0 + 1
      by_cases c : n = 0
      · left; subst c; exact ⟨rfl, rfl⟩
      · right
        refine ⟨0, by omega, ?_⟩
        rw [h0, Int.min_def]; split <;> omega
  | k + 1, E, h, hs, hp => by
    rcases List.eq_nil_or_concat E with rfl | ⟨q, x, rfl⟩
    · simp at h
    · rw [List.concat_eq_append] at h hs hp ⊢
      rw [List.length_append, List.length_singleton] at h
      rw [List.pairwise_append] at hs
      have ih := hi_all n k q (by omega) hs.1 fun p hp' => hp p (List.mem_append_left _ hp')
      rw [hfold_more]
      exact hi_step ih x (hp x (by simp)) fun z hz => ⟨(hp z (List.mem_append_left _ hz)).1, hs.2.2 z hz x (by simp)⟩
section
variable {l : List Ev} (hrt : ∀ x ∈ l, rightP x) {B : Nat → Nat → Bool} (hB : Tells (dpf l) B)
include hrt hB
/-- Height's own numbers. -/
theorem hi_rel : HI l.length (rel (evf l) l.length).2 (hfold l.length (rel (evf l) l.length).2) :=
  hi_all _ _ _ rfl (by rw [rel_list hrt hB l.length (Nat.le_refl _)]; exact elist_up _ _) fun p hp => by
    have := (edges_mem hrt hB p).mp hp
    exact ⟨this.1, this.2.1⟩
theorem high_rel : High l.length (edgeB (dpf l) B) fun j => (hfold l.length (rel (evf l) l.length).2).1.getD j 0 := by
  have h := hi_rel hrt hB
  refine ⟨h.pos, fun i j h1 h2 h3 => h.up (i, j) ((edges_mem hrt hB (i, j)).mpr ⟨h1, h2, h3⟩), fun j hj => ?_⟩
  rcases h.some j hj with q | ⟨i, q1, q2⟩
  · exact .inl q
  · have := (edges_mem hrt hB (i, j)).mp q1
    exact .inr ⟨i, this.1, this.2.2, q2⟩
end
end Go.Proofs.Ytkhhkgfaakgdfaa.pg
/- How package order compares two edges. -/
namespace Go.Proofs.Ytkhhkgfaakgdfaa.pg
open Go.ChangeShapes Go.WideShapes Go.ChangeAt Go.RowKit Go.Shelf
set_option linter.unusedVariables false
set_option linter.unusedSimpArgs false
set_option maxRecDepth 100000
attribute [local go_sem ↓] Go.wp_at_zero Go.wp_at_succ
def cmp2 (a b : Nat × Nat) : Int := if cmpP a.1 b.1 = 0 then cmpP a.2 b.2 else cmpP a.1 b.1
theorem cmpP_val (a b : Int) : cmpP a b = -1 ∧ a < b ∨ cmpP a b = 0 ∧ a = b ∨ cmpP a b = 1 ∧ b < a := by
  unfold cmpP
  split
  · exact .inl ⟨rfl, by assumption⟩
  · split
    · exact .inr (.inr ⟨rfl, by omega⟩)
    · exact .inr (.inl ⟨rfl, by omega⟩)
set_option maxHeartbeats 1000000 in
theorem compare2_any (a b : Nat × Nat) (A B : Nat) (w : World) (a0 : w.cell? ⟨A, 0, none⟩ = some (.int .i64 (a.1 : Int))) (a1 : w.cell? ⟨A, 1, none⟩ = some (.int .i64 (a.2 : Int))) (b0 : w.cell? ⟨B, 0, none⟩ = some (.int .i64 (b.1 : Int))) (b1 : w.cell? ⟨B, 1, none⟩ = some (.int .i64 (b.2 : Int))) :
    Calls Try.prog 45 #[.slice (some ⟨A, 0, none⟩) 2 2, .slice (some ⟨B, 0, none⟩) 2 2] w fun e w' => e = .returned (.int .i64 (cmp2 a b)) ∧ w' = w := by
  have c1 : ∀ (x y : Int) wx, Calls Try.prog 68 #[.int .i64 x, .int .i64 y] wx _ := fun x y wx => cmp_any x y wx
  go_enter Try.func45, Try.ntmps45
  go_wp2
  go_loopw [11] (fun u wr => wr = w ∧ (u = .int .i64 0 ∨ u = .int .i64 1 ∧ Hid (cmpP a.1 b.1 = 0) ∨ u = .int .i64 2 ∧ Hid (cmpP a.1 b.1 = 0 ∧ cmpP a.2 b.2 = 0))) (fun u _ => 2 - (intOf u).toNat)
  case atStart => exact ⟨rfl, .inl rfl⟩
  case round =>
    obtain ⟨rfl, rfl | ⟨rfl, h0⟩ | ⟨rfl, h0⟩⟩ := hrel
    · by_cases e : cmpP a.1 b.1 = 0
      · have c2 : ∀ wx, Calls Try.prog 68 #[.int .i64 (a.1 : Int), .int .i64 (b.1 : Int)] wx fun e w' => e = .returned (.int .i64 0) ∧ w' = wx := fun wx => by rw [← e]; exact c1 _ _ wx
        have hh : Hid (cmpP a.1 b.1 = 0) := e
        clear e c1
        go_wp2_with (go_at_call 68; (with_reducible refine (c2 _).mono ?_); rintro e w1 ⟨rfl, rfl⟩)
        go_roundw
        case rel => exact ⟨trivial, .inr (.inl ⟨rfl, hh⟩)⟩
        case measure => simp [intOf]
      · have h2 : Hid (cmp2 a b = cmpP a.1 b.1) := by show _ = _; unfold cmp2; rw [if_neg e]
        have e2 : (cmpP a.1 b.1 == 0) = false := by simpa using e
        have c2 := c1 a.1 b.1
        generalize cmpP a.1 b.1 = r at *
        clear c1
        go_wp2_with (go_at_call 68; (with_reducible refine (c2 _).mono ?_); rintro e w1 ⟨rfl, rfl⟩)
        go_ret
        exact ⟨by rw [h2.out]; rfl, rfl⟩
    · by_cases e : cmpP a.2 b.2 = 0
      · have c2 : ∀ wx, Calls Try.prog 68 #[.int .i64 (a.2 : Int), .int .i64 (b.2 : Int)] wx fun e w' => e = .returned (.int .i64 0) ∧ w' = wx := fun wx => by rw [← e]; exact c1 _ _ wx
        have hh : Hid (cmpP a.1 b.1 = 0 ∧ cmpP a.2 b.2 = 0) := ⟨h0.out, e⟩
        clear e c1
        go_wp2_with (go_at_call 68; (with_reducible refine (c2 _).mono ?_); rintro e w1 ⟨rfl, rfl⟩)
        go_roundw
        case rel => exact ⟨trivial, .inr (.inr ⟨rfl, hh⟩)⟩
        case measure => simp [intOf]
      · have h2 : Hid (cmp2 a b = cmpP a.2 b.2) := by show _ = _; unfold cmp2; rw [if_pos h0.out]
        have e2 : (cmpP a.2 b.2 == 0) = false := by simpa using e
        have c2 := c1 a.2 b.2
        generalize cmpP a.2 b.2 = r at *
        clear c1
        go_wp2_with (go_at_call 68; (with_reducible refine (c2 _).mono ?_); rintro e w1 ⟨rfl, rfl⟩)
        go_ret
        exact ⟨by rw [h2.out]; rfl, rfl⟩
    · have h2 : Hid (cmp2 a b = 0) := by show _ = _; unfold cmp2; rw [if_pos h0.out.1]; exact h0.out.2
      go_wp2
      go_ret
      exact ⟨by rw [h2.out]; rfl, rfl⟩
abbrev objEdge (p : Nat × Nat) : Obj := .cells #[.int .i64 (p.1 : Int), .int .i64 (p.2 : Int)] 41
theorem sub2 (B : Nat) : ∀ wx, (Instr.sliceAt 41 (.pointer (some ⟨B, 0, none⟩)) none none none).run Try.prog wx = .ok (.slice (some ⟨B, 0, none⟩) 2 2) wx := by
  intro wx
  have u := Try.underlying41
  have z := Try.sizeOf3
  simp [Instr.sliceAt, run_underlying u, asIntOf, go_sem, z]
set_option maxHeartbeats 1000000 in
theorem cmpE_any (a b : Nat × Nat) (w : World) : Calls Try.prog 44 #[.agg (edg a).toArray, .agg (edg b).toArray] w fun e w' => e = .returned (.int .i64 (cmp2 a b)) ∧ ∃ q, w' = ((w.alloc (objEdge a)).alloc (objEdge b)).drewN q := by
  have s1 := sub2 w.heap.size
  have s2 := sub2 (w.heap.size + 1)
  have h1 : ((w.alloc (objEdge a)).alloc (objEdge b)).heap[w.heap.size]? = some (objEdge a) := (Below.heap_alloc _ _ _ (by simp [World.size_alloc])).trans (heap_alloc_new w _)
  have h2 : ((w.alloc (objEdge a)).alloc (objEdge b)).heap[w.heap.size + 1]? = some (objEdge b) := by
    have := heap_alloc_new (w.alloc (objEdge a)) (objEdge b)
    rwa [World.size_alloc] at this
  have c1 : ∀ wx, wx.heap[w.heap.size]? = some (objEdge a) → wx.heap[w.heap.size + 1]? = some (objEdge b) → Calls Try.prog 45 #[.slice (some ⟨w.heap.size, 0, none⟩) 2 2, .slice (some ⟨w.heap.size + 1, 0, none⟩) 2 2] wx fun e w' => e = .returned (.int .i64 (cmp2 a b)) ∧ w' = wx := fun wx q1 q2 => compare2_any a b _ _ wx (cell_of q1 rfl) (cell_of q1 rfl) (cell_of q2 rfl) (cell_of q2 rfl)
  generalize cmp2 a b = r at *
  show Calls Try.prog 44 #[.agg #[.int .i64 (a.1 : Int), .int .i64 (a.2 : Int)], .agg #[.int .i64 (b.1 : Int), .int .i64 (b.2 : Int)]] w _
  go_enter Try.func44, Try.ntmps44
  go_wp2_with fail
  generalize hWW : (w.alloc (objEdge a)).alloc (objEdge b) = W at *
  refine wp_region_held_drew (S := fun _ => True) (by kernel_rfl) trivial (fun hH => ?_)
  refine reg_move (i := 0) rfl (by kernel_rfl) (by kernel_rfl) (by kernel_rfl) (fun _ _ _ _ h => h) rfl (.slice (some ⟨w.heap.size, 0, none⟩) 2 2) (fun wx => by unfold execOp; exact run_value_of (s1 wx)) hH ?_
  simp only [Act.put, List.getElem_toArray, List.getElem_cons_succ, List.getElem_cons_zero, List.setIfInBounds_toArray, List.set_cons_zero, List.set_cons_succ]
  refine reg_move (i := 1) rfl (by kernel_rfl) (by kernel_rfl) (by kernel_rfl) (fun _ _ _ _ h => h) rfl (.slice (some ⟨w.heap.size + 1, 0, none⟩) 2 2) (fun wx => by unfold execOp; exact run_value_of (s2 wx)) hH ?_
  simp only [Act.put, List.getElem_toArray, List.getElem_cons_succ, List.getElem_cons_zero, List.setIfInBounds_toArray, List.set_cons_zero, List.set_cons_succ]
  refine reg_call2 (i := 2) (by kernel_rfl) rfl rfl 45 _ _ _ _ rfl (.slice (some ⟨w.heap.size, 0, none⟩) 2 2) (.slice (some ⟨w.heap.size + 1, 0, none⟩) 2 2) rfl rfl (cf_fn Try.func45 (by kernel_rfl) (by kernel_rfl) _ _) _ (c1 _ h1 h2) ?_
  rintro e w1 ⟨rfl, rfl⟩
  refine ⟨_, rfl, trivial, fun _ => ?_⟩
  simp only [Act.put, List.getElem_toArray, List.getElem_cons_succ, List.getElem_cons_zero, List.setIfInBounds_toArray, List.set_cons_zero, List.set_cons_succ]
  refine reg_move (i := 3) rfl (by kernel_rfl) (by kernel_rfl) (by kernel_rfl) (fun _ _ _ _ h => h) rfl _ (fun _ => rfl) trivial ?_
  simp only [Act.put, List.getElem_toArray, List.getElem_cons_succ, List.getElem_cons_zero, List.setIfInBounds_toArray, List.set_cons_zero, List.set_cons_succ]
  refine wpAnyH_done (by kernel_rfl) ?_ _
  go_wp2
  go_ret
  exact ⟨rfl, 1, by rw [hWW]; rfl⟩
end Go.Proofs.Ytkhhkgfaakgdfaa.pg
