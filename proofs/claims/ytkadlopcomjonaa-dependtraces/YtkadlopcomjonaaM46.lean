/- Both lists of objects are one. -/
import Derived.Test.YtkadlopcomjonaaM45
import Derived.Test.YtkadlopcomjonaaM9
namespace Go.Proofs.Ytkadlopcomjonaa.pg
open Go.ChangeShapes Go.WideShapes Go.ChangeAt Go.RowKit Go.Shelf
set_option linter.unusedVariables false
set_option linter.unusedSimpArgs false
theorem bef_iff (x y : Acc) : bef x y = true ↔ (x.kind < y.kind ∨ x.kind = y.kind ∧ x.num < y.num) := by unfold bef; simp
theorem bef_no (x y : Acc) : bef x y = false ↔ ¬ (x.kind < y.kind ∨ x.kind = y.kind ∧ x.num < y.num) := by unfold bef; rw [decide_eq_false_iff_not]
theorem srt_ext : ∀ (P Q : List Acc), P.Pairwise (fun x y => bef x y = true) → Q.Pairwise (fun x y => bef x y = true) → (∀ a, a ∈ P ↔ a ∈ Q) → P = Q
  | [], [], _, _, _ => rfl
  | [], b :: Q, _, _, h => by have := (h b).mpr (by simp); cases this
  | a :: P, [], _, _, h => by have := (h a).mp (by simp); cases this
  | a :: P, b :: Q, hP, hQ, h => by
    rw [List.pairwise_cons] at hP hQ
    have hab : a = b := by
      have h1 := (h a).mp (by simp)
      have h2 := (h b).mpr (by simp)
      rw [List.mem_cons] at h1 h2
      rcases h1 with h1 | h1
      · exact h1
      · rcases h2 with h2 | h2
        · exact h2.symm
        · have q1 := (bef_iff _ _).mp (hQ.1 a h1)
          have q2 := (bef_iff _ _).mp (hP.1 b h2)
          omega
    subst hab
    congr 1
    refine srt_ext P Q hP.2 hQ.2 fun x => ⟨fun hx => ?_, fun hx => ?_⟩
    · have := (h x).mp (List.mem_cons_of_mem _ hx)
      rw [List.mem_cons] at this
      rcases this with e | e
      · subst e; have q := (bef_iff _ _).mp (hP.1 x hx); omega
      · exact e
    · have := (h x).mpr (List.mem_cons_of_mem _ hx)
      rw [List.mem_cons] at this
      rcases this with e | e
      · subst e; have q := (bef_iff _ _).mp (hQ.1 x hx); omega
      · exact e
theorem wrs_self (a : Acc) : wrs a.kind a.num a = a.wr := by simp [wrs]
theorem wrs_ne {k n : Int} {a : Acc} (h : ¬ (a.kind = k ∧ a.num = n)) : wrs k n a = false := by
  unfold wrs
  have : (a.kind == k && a.num == n) = false := by
    rw [Bool.eq_false_iff]
    intro q
    rw [Bool.and_eq_true, beq_iff_eq, beq_iff_eq] at q
    exact h q
  rw [this]; rfl
/-- What is put together of sorted accesses. -/
structure Mrg (D os : List Acc) : Prop where
  s : os.Pairwise fun x y => bef x y = true
  b : ∀ o ∈ os, ∃ a ∈ D, a.kind = o.kind ∧ a.num = o.num
  c : ∀ a ∈ D, ∃ o ∈ os, o.kind = a.kind ∧ o.num = a.num
  d : ∀ o ∈ os, o.wr = D.any (wrs o.kind o.num)
theorem mrg_step {D os : List Acc} {a : Acc} (h : Mrg D os) (hn : ∀ x ∈ D, bef a x = false) : Mrg (D ++ [a]) (mst os a) := by
  have hno : ∀ o ∈ os, bef a o = false := fun o ho => by
    obtain ⟨x, hx, h1, h2⟩ := h.b o ho
    have := (bef_no _ _).mp (hn x hx)
    rw [bef_no]; omega
  have hany : ∀ k n, (D ++ [a]).any (wrs k n) = (D.any (wrs k n) || wrs k n a) := fun k n => by rw [List.any_append]; simp
  rcases List.eq_nil_or_concat os with rfl | ⟨p, o, rfl⟩
  · rw [mst_nil]
    have hD : D = [] := by
      cases D with
      | nil => rfl
      | cons x t => obtain ⟨o, ho, _⟩ := h.c x (by simp); cases ho
    subst hD
    refine ⟨by simp, fun o ho => ⟨a, by simp, ?_⟩, fun x hx => ⟨a, by simp, ?_⟩, fun o ho => ?_⟩
    · rw [List.mem_singleton] at ho; subst ho; exact ⟨rfl, rfl⟩
    · rw [List.nil_append, List.mem_singleton] at hx; subst hx; exact ⟨rfl, rfl⟩
    · rw [List.mem_singleton] at ho; subst ho; rw [hany, wrs_self]; rfl
  · rw [List.concat_eq_append] at h hno ⊢
    have hs := List.pairwise_append.mp h.s
    have hpo : ∀ x ∈ p, bef x o = true := fun x hx => hs.2.2 x hx o (by simp)
    cases hq : (o.kind == a.kind && o.num == a.num) with
    | true =>
      have hqq : o.kind = a.kind ∧ o.num = a.num := by simpa [Bool.and_eq_true, beq_iff_eq] using hq
      rw [mst_yes hq]
      refine ⟨?_, fun x hx => ?_, fun x hx => ?_, fun x hx => ?_⟩
      · rw [List.pairwise_append]
        refine ⟨hs.1, by simp, fun x hx y hy => ?_⟩
        rw [List.mem_singleton] at hy
        subst hy
        have := (bef_iff _ _).mp (hpo x hx)
        rw [bef_iff]; exact this
      · rw [List.mem_append, List.mem_singleton] at hx
        rcases hx with hx | hx
        · obtain ⟨z, hz, q⟩ := h.b x (by simp [hx])
          exact ⟨z, by simp [hz], q⟩
        · subst hx
          exact ⟨a, by simp, hqq.1.symm, hqq.2.symm⟩
      · rw [List.mem_append, List.mem_singleton] at hx
        rcases hx with hx | hx
        · obtain ⟨z, hz, q⟩ := h.c x hx
          rw [List.mem_append, List.mem_singleton] at hz
          rcases hz with hz | hz
          · exact ⟨z, by simp [hz], q⟩
          · subst hz; exact ⟨⟨z.kind, z.num, z.wr || a.wr⟩, by simp, q⟩
        · subst hx; exact ⟨⟨o.kind, o.num, o.wr || x.wr⟩, by simp, hqq⟩
      · rw [List.mem_append, List.mem_singleton] at hx
        rcases hx with hx | hx
        · have q := (bef_iff _ _).mp (hpo x hx)
          rw [hany, h.d x (by simp [hx]), wrs_ne (by omega), Bool.or_false]
        · subst hx
          show (o.wr || a.wr) = (D ++ [a]).any (wrs o.kind o.num)
          rw [hany, h.d o (by simp), hqq.1, hqq.2, wrs_self]
    | false =>
      have hqq : ¬ (o.kind = a.kind ∧ o.num = a.num) := fun q => by simp [q.1, q.2] at hq
      rw [mst_no hq]
      have hoa : bef o a = true := by
        have := (bef_no _ _).mp (hno o (by simp))
        rw [bef_iff]; omega
      have hall : ∀ x ∈ p ++ [o], bef x a = true := fun x hx => by
        rw [List.mem_append, List.mem_singleton] at hx
        rcases hx with hx | hx
        · have q1 := (bef_iff _ _).mp (hpo x hx)
          have q2 := (bef_iff _ _).mp hoa
          rw [bef_iff]; omega
        · subst hx; exact hoa
      refine ⟨?_, fun x hx => ?_, fun x hx => ?_, fun x hx => ?_⟩
      · rw [List.pairwise_append]
        refine ⟨h.s, by simp, fun x hx y hy => ?_⟩
        rw [List.mem_singleton] at hy
        subst hy
        exact hall x hx
      · rw [List.mem_append, List.mem_singleton] at hx
        rcases hx with hx | hx
        · obtain ⟨z, hz, q⟩ := h.b x hx
          exact ⟨z, by simp [hz], q⟩
        · subst hx; exact ⟨x, by simp, rfl, rfl⟩
      · rw [List.mem_append, List.mem_singleton] at hx
        rcases hx with hx | hx
        · obtain ⟨z, hz, q⟩ := h.c x hx
          exact ⟨z, List.mem_append_left _ hz, q⟩
        · subst hx; exact ⟨x, by simp, rfl, rfl⟩
      · rw [List.mem_append, List.mem_singleton] at hx
        rcases hx with hx | hx
        · have q := (bef_iff _ _).mp (hall x hx)
          rw [hany, h.d x hx, wrs_ne (by omega), Bool.or_false]
        · subst hx
          rw [hany, wrs_self]
          have : D.any (wrs x.kind x.num) = false := by
            rw [Bool.eq_false_iff]
            intro q
            obtain ⟨z, hz, q⟩ := List.any_eq_true.mp q
            have hz2 : z.kind = x.kind ∧ z.num = x.num := by
              have := q
              simp only [wrs, Bool.and_eq_true, beq_iff_eq] at this
              exact this.1
            obtain ⟨o2, ho2, q1, q2⟩ := h.c z hz
            have := (bef_iff _ _).mp (hall o2 ho2)
            omega
          rw [this, Bool.false_or]
theorem mrg_is : ∀ (n : Nat) (D : List Acc), D.length = n → D.Pairwise (fun x y => bef y x = false) → Mrg D (mrg D)
  | 0, D, h, _ => by
    have : D = [] := List.length_eq_zero_iff.mp h
    subst this
    exact ⟨.nil, fun o ho => (by cases ho), fun o ho => (by cases ho), fun o ho => (by cases ho)⟩
  | n + 1, D, h, hs => by
    rcases List.eq_nil_or_concat D with rfl | ⟨q, x, rfl⟩
    · simp at h
    · rw [List.concat_eq_append] at h hs ⊢
      rw [List.length_append, List.length_singleton] at h
      rw [List.pairwise_append] at hs
      have ih := mrg_is n q (by omega) hs.1
      have e : mrg (q ++ [x]) = mst (mrg q) x := by unfold mrg; rw [List.foldl_append]; rfl
      rw [e]
      exact mrg_step ih fun y hy => hs.2.2 y hy x (by simp)
theorem users_iff {l : List Ev} {k n : Int} : ∀ {j : Nat} {i : Int}, i ∈ usersTo l k n j ↔ ∃ (q : Nat) (x : Ev), i = (q : Int) ∧ q < j ∧ l[q]? = some x ∧ tch x k n = true
  | 0, i => by simp [usersTo]
  | j + 1, i => by
    unfold usersTo
    rw [List.mem_append, users_iff]
    constructor
    · rintro (⟨q, x, h1, h2, h3, h4⟩ | h)
      · exact ⟨q, x, h1, by omega, h3, h4⟩
      · split at h
        · rename_i x hx
          split at h
          · rename_i ht
            rw [List.mem_singleton] at h
            exact ⟨j, x, h, by omega, hx, ht⟩
          · cases h
        · cases h
    · rintro ⟨q, x, h1, h2, h3, h4⟩
      by_cases c : q < j
      · exact .inl ⟨q, x, h1, c, h3, h4⟩
      · right
        have : q = j := by omega
        subst this
        rw [h3]
        simp [h4, h1]
theorem gath_mem {l : List Ev} {a : Acc} : a ∈ gath l l.length ↔ ∃ x ∈ l, a ∈ x.of := by
  unfold gath
  rw [List.take_length, List.mem_flatMap]
theorem users_some {l : List Ev} {k n : Int} : (usersTo l k n l.length).length ≠ 0 ↔ ∃ a ∈ gath l l.length, a.kind = k ∧ a.num = n := by
  constructor
  · intro h
    obtain ⟨i, hi⟩ := List.exists_mem_of_length_pos (Nat.pos_of_ne_zero h)
    obtain ⟨q, x, _, _, hx, ht⟩ := users_iff.mp hi
    obtain ⟨a, ha, q⟩ := List.any_eq_true.mp ht
    rw [Bool.and_eq_true, beq_iff_eq, beq_iff_eq] at q
    exact ⟨a, gath_mem.mpr ⟨x, List.mem_of_getElem? hx, ha⟩, q⟩
  · rintro ⟨a, ha, h1, h2⟩ h0
    obtain ⟨x, hx, hax⟩ := gath_mem.mp ha
    obtain ⟨q, hq⟩ := List.mem_iff_getElem?.mp hx
    have : (q : Int) ∈ usersTo l k n l.length := users_iff.mpr ⟨q, x, rfl, (List.getElem?_eq_some_iff.mp hq).1, hq, List.any_eq_true.mpr ⟨a, hax, by simp [h1, h2]⟩⟩
    rw [List.length_eq_zero_iff.mp h0] at this
    cases this
theorem users_wr (l : List Ev) (k n : Int) : wrU l k n (usersTo l k n l.length) = (gath l l.length).any (wrs k n) := by
  rw [Bool.eq_iff_iff]
  unfold wrU
  rw [List.any_eq_true, List.any_eq_true]
  constructor
  · rintro ⟨i, hi, h⟩
    obtain ⟨q, x, rfl, _, hx, ht⟩ := users_iff.mp hi
    obtain ⟨a, ha, hw⟩ := List.any_eq_true.mp h
    have e : evf l ((q : Int)).toNat = x := by
      have h1 := evf_at (l := l) (i := q) (List.getElem?_eq_some_iff.mp hx).1
      rw [hx] at h1
      have h2 : x = evf l q := by simpa using h1
      rw [h2]; rfl
    rw [e] at ha
    exact ⟨a, gath_mem.mpr ⟨x, List.mem_of_getElem? hx, ha⟩, hw⟩
  · rintro ⟨a, ha, hw⟩
    obtain ⟨x, hx, hax⟩ := gath_mem.mp ha
    obtain ⟨q, hq⟩ := List.mem_iff_getElem?.mp hx
    have hk : a.kind = k ∧ a.num = n := by
      have := hw
      simp only [wrs, Bool.and_eq_true, beq_iff_eq] at this
      exact this.1
    refine ⟨(q : Int), users_iff.mpr ⟨q, x, rfl, (List.getElem?_eq_some_iff.mp hq).1, hq, List.any_eq_true.mpr ⟨a, hax, by simp [hk.1, hk.2]⟩⟩, ?_⟩
    have e : evf l ((q : Int)).toNat = x := by
      have h1 := evf_at (l := l) (i := q) (List.getElem?_eq_some_iff.mp hq).1
      rw [hq] at h1
      have h2 : x = evf l q := by simpa using h1
      rw [h2]; rfl
    unfold wrE
    rw [e]
    exact List.any_eq_true.mpr ⟨a, hax, hw⟩
theorem oOne_mem {l : List Ev} {k n : Int} {a : Acc} : a ∈ oOne l k n ↔ (a.kind = k ∧ a.num = n) ∧ (∃ x ∈ gath l l.length, x.kind = k ∧ x.num = n) ∧ a.wr = (gath l l.length).any (wrs k n) := by
  unfold oOne
  rw [← users_some, ← users_wr]
  by_cases h : (usersTo l k n l.length).length = 0
  · rw [if_pos h]
    exact ⟨fun q => (by cases q), fun q => absurd h q.2.1⟩
  · rw [if_neg h, List.mem_singleton]
    constructor
    · intro q; subst q; exact ⟨⟨rfl, rfl⟩, h, rfl⟩
    · rintro ⟨⟨h1, h2⟩, _, h3⟩
      cases a
      simp only at h1 h2 h3
      rw [h1, h2, h3]
theorem oRow_mem {l : List Ev} {k : Int} {a : Acc} : ∀ {m : Nat}, a ∈ oRow l k m ↔ (a.kind = k ∧ 0 ≤ a.num ∧ a.num < m) ∧ (∃ x ∈ gath l l.length, x.kind = a.kind ∧ x.num = a.num) ∧ a.wr = (gath l l.length).any (wrs a.kind a.num)
  | 0 => by
    unfold oRow
    exact ⟨fun q => (by cases q), fun q => by have := q.1.2; omega⟩
  | m + 1 => by
    unfold oRow
    rw [List.mem_append, oRow_mem (m := m), oOne_mem]
    constructor
    · rintro (⟨⟨h1, h2, h3⟩, h4⟩ | ⟨⟨h1, h2⟩, h4⟩)
      · exact ⟨⟨h1, h2, by omega⟩, h4⟩
      · rw [← h1, ← h2] at h4
        exact ⟨⟨h1, by omega, by omega⟩, h4⟩
    · rintro ⟨⟨h1, h2, h3⟩, h4⟩
      by_cases c : a.num = (m : Int)
      · right
        rw [← h1, ← c]
        exact ⟨⟨rfl, rfl⟩, h4⟩
      · exact .inl ⟨⟨h1, h2, by omega⟩, h4⟩
theorem oRow_srt (l : List Ev) (k : Int) : ∀ m, (oRow l k m).Pairwise fun x y => bef x y = true
  | 0 => .nil
  | m + 1 => by
    unfold oRow
    rw [List.pairwise_append]
    refine ⟨oRow_srt l k m, ?_, fun x hx y hy => ?_⟩
    · unfold oOne; split <;> simp
    · have h1 := (oRow_mem.mp hx).1
      have h2 := (oOne_mem.mp hy).1
      rw [bef_iff]; omega
theorem oAll_mem {l : List Ev} {a : Acc} : ∀ {k : Nat}, a ∈ oAll l k ↔ (1 ≤ a.kind ∧ a.kind ≤ k ∧ 0 ≤ a.num ∧ a.num < manyP a.kind) ∧ (∃ x ∈ gath l l.length, x.kind = a.kind ∧ x.num = a.num) ∧ a.wr = (gath l l.length).any (wrs a.kind a.num)
  | 0 => by
    unfold oAll
    exact ⟨fun q => (by cases q), fun q => by have := q.1; omega⟩
  | k + 1 => by
    unfold oAll
    rw [List.mem_append, oAll_mem (k := k), oRow_mem]
    have hp := (manyP_le ((k : Int) + 1)).1
    constructor
    · rintro (⟨⟨h1, h2, h3, h5⟩, h4⟩ | ⟨⟨h1, h2, h3⟩, h4⟩)
      · exact ⟨⟨h1, by omega, h3, h5⟩, h4⟩
      · exact ⟨⟨by omega, by omega, h2, by rw [h1]; omega⟩, h4⟩
    · rintro ⟨⟨h1, h2, h3, h5⟩, h4⟩
      by_cases c : a.kind = (k : Int) + 1
      · right
        rw [c] at h5
        exact ⟨⟨c, h3, by omega⟩, h4⟩
      · exact .inl ⟨⟨h1, by omega, h3, h5⟩, h4⟩
theorem oAll_srt (l : List Ev) : ∀ k, (oAll l k).Pairwise fun x y => bef x y = true
  | 0 => .nil
  | k + 1 => by
    unfold oAll
    rw [List.pairwise_append]
    refine ⟨oAll_srt l k, oRow_srt l _ _, fun x hx y hy => ?_⟩
    have h1 := (oAll_mem.mp hx).1
    have h2 := (oRow_mem.mp hy).1
    rw [bef_iff]; omega
theorem gath_right {l : List Ev} (hrt : ∀ x ∈ l, rightP x) {a : Acc} (h : a ∈ gath l l.length) : 1 ≤ a.kind ∧ a.kind ≤ 6 ∧ 0 ≤ a.num ∧ a.num < manyP a.kind := by
  obtain ⟨x, hx, ha⟩ := gath_mem.mp h
  obtain ⟨i, hi⟩ := List.mem_iff_getElem?.mp ha
  have hl := (List.getElem?_eq_some_iff.mp hi).1
  rw [Ev.of_len] at hl
  have hr := ((hrt x hx).2.1 i hl a (by rw [← of_at hl]; exact hi)).1
  refine ⟨?_, ?_, hr.1, hr.2⟩
  · have := hr.2; have h0 := hr.1; unfold manyP at this; by_cases c : 1 ≤ a.kind
    · exact c
    · rw [if_neg (by omega), if_neg (by omega), if_neg (by omega), if_neg (by omega), if_neg (by omega), if_neg (by omega)] at this; omega
  · have := hr.2; have h0 := hr.1; unfold manyP at this; by_cases c : a.kind ≤ 6
    · exact c
    · rw [if_neg (by omega), if_neg (by omega), if_neg (by omega), if_neg (by omega), if_neg (by omega), if_neg (by omega)] at this; omega
theorem objects_one {l : List Ev} (hrt : ∀ x ∈ l, rightP x) {D : List Acc} (hp : D.Perm (gath l l.length)) (hs : D.Pairwise fun x y => bef y x = false) : mrg D = oAll l 6 := by
  have h := mrg_is _ D rfl hs
  have hany : ∀ k n, D.any (wrs k n) = (gath l l.length).any (wrs k n) := fun k n => by
    rw [Bool.eq_iff_iff, List.any_eq_true, List.any_eq_true]
    exact ⟨fun ⟨x, hx, q⟩ => ⟨x, hp.mem_iff.mp hx, q⟩, fun ⟨x, hx, q⟩ => ⟨x, hp.mem_iff.mpr hx, q⟩⟩
  refine srt_ext _ _ h.s (oAll_srt l 6) fun a => ?_
  rw [oAll_mem]
  constructor
  · intro ha
    obtain ⟨x, hx, h1, h2⟩ := h.b a ha
    have hg := hp.mem_iff.mp hx
    have hr := gath_right hrt hg
    rw [h1, h2] at hr
    exact ⟨hr, ⟨x, hg, h1, h2⟩, by rw [h.d a ha, hany]⟩
  · rintro ⟨hr, ⟨x, hg, h1, h2⟩, hw⟩
    obtain ⟨o, ho, q1, q2⟩ := h.c x (hp.mem_iff.mpr hg)
    have hd := h.d o ho
    have : o = a := by
      have e1 : o.kind = a.kind := by omega
      have e2 : o.num = a.num := by omega
      have e3 : o.wr = a.wr := by rw [hd, hany, hw, e1, e2]
      cases o; cases a
      simp only at e1 e2 e3
      rw [e1, e2, e3]
    rw [← this]
    exact ho
end Go.Proofs.Ytkadlopcomjonaa.pg
/- DependTraces, walked. -/
namespace Go.Proofs.Ytkadlopcomjonaa.pg
open Go.ChangeShapes Go.WideShapes Go.ChangeAt Go.RowKit Go.Shelf
set_option linter.unusedVariables false
set_option linter.unusedSimpArgs false
set_option maxRecDepth 100000
attribute [local go_sem ↓] Go.wp_at_zero Go.wp_at_succ
set_option maxHeartbeats 1000000 in
theorem sameAccs_any (l : List Acc) (a b : Option Addr) (ca cb : Nat) (w : World) (ha : Rows w 3 a ca (l.map Acc.cells)) (hb : Rows w 3 b cb (l.map Acc.cells)) :
    Calls Try.prog 16 #[.slice a l.length ca, .slice b l.length cb] w fun e w' => e = .returned (.bool true) ∧ Below w.heap.size w w' := by
  have hlI : (l.length : Int) ≤ 9223372036854775807 := rows_len ha
  go_enter Try.func16, Try.ntmps16
  go_wp2_with fail
  go_loopw [13] (fun u wr => ∃ k : Nat, k ≤ l.length ∧ u = .int .i64 k ∧ Below w.heap.size w wr) (fun u _ => l.length - (intOf u).toNat)
  case atStart => exact ⟨0, Nat.zero_le _, rfl, Below.refl _ _⟩
  case round =>
    obtain ⟨k, hk, rfl, hbe⟩ := hrel
    by_cases hlt : k < l.length
    · obtain ⟨y, hy, hym⟩ := get_lt l k hlt
      obtain ⟨b1, o1, hix1, hbl1, k0, k1, k2⟩ := acc_ix (ha.later hbe) k y hy
      obtain ⟨b2, o2, hix2, hbl2, m0, m1, m2⟩ := acc_ix (hb.later hbe) k y hy
      have hkI : (k : Int) < l.length := by omega
      have heq : ∀ wx, (binOp .neq 67 (.agg #[.int .i64 y.kind, .int .i64 y.num, .bool y.wr]) (.agg #[.int .i64 y.kind, .int .i64 y.num, .bool y.wr])).run Try.prog wx = .ok (.bool false) wx := fun wx => by
        have := run_neA y y wx
        rw [(eqA_iff y y).mpr rfl] at this
        exact this
      go_wp2_with fail
      go_quiet (fail)
      go_wp2
      go_roundw
      case rel => exact ⟨k + 1, by omega, by go_num, below_drewN hbe _⟩
      case measure => simp [intOf]; omega
    · have hk2 : k = l.length := by omega
      subst hk2
      go_wp2
      go_ret
      exact ⟨rfl, hbe⟩
theorem tb_row {w : World} {va : Option Addr} {vc H : Nat} {L : Nat → List Bool} {pa : Nat → Option Addr} {pc : Nat → Nat} (h : Rows w 1 va vc (slR H pa pc L)) (i : Nat) (hi : i < H) :
    ∃ b o, (∀ wx, (Instr.indexAt 25 (.slice va H vc) (.int .i64 (i : Int))).run Try.prog wx = .ok (.pointer (some ⟨b, o, none⟩)) wx) ∧ b < w.heap.size ∧ w.cell? ⟨b, o, none⟩ = some (.slice (pa i) (L i).length (pc i)) := by
  obtain ⟨b, o, hr, hlt, hc⟩ := h.ix 25 36 Try.underlying25 (by kernel_rfl) (fun wx => Try.sizeOf36 wx) i (row := [slB pa pc L i]) (by unfold slR; simp [hi])
  rw [slR_len] at hr
  exact ⟨b, o, hr, hlt, hc 0 _ rfl⟩
theorem tb_cell {w : World} {va : Option Addr} {vc : Nat} {R : List Bool} (h : Rows w 1 va vc (R.map blC)) (i : Nat) (v : Bool) (hi : R[i]? = some v) :
    ∃ b o, (∀ wx, (Instr.indexAt 36 (.slice va R.length vc) (.int .i64 (i : Int))).run Try.prog wx = .ok (.pointer (some ⟨b, o, none⟩)) wx) ∧ b < w.heap.size ∧ w.cell? ⟨b, o, none⟩ = some (.bool v) := by
  obtain ⟨b, o, hr, hlt, hc⟩ := h.ix 36 4 Try.underlying36 (by kernel_rfl) (fun wx => Try.sizeOf4 wx) i (row := blC v) (by simp [hi])
  rw [List.length_map] at hr
  exact ⟨b, o, hr, hlt, hc 0 _ rfl⟩
set_option maxHeartbeats 4000000 in
theorem traces_any (l : List Ev) (la : Option Addr) (lc : Nat) (w : World) (hl : EvsIn w la lc l) : Calls Try.prog 3 #[.slice la l.length lc] w fun e w' => e = .returned (.bool true) ∧ Below w.heap.size w w' := by
  obtain ⟨c, hc⟩ := check_ex l
  have c0 : Calls Try.prog 10 #[.slice la l.length lc] w _ := check_any l la lc w hl.1 c hc
  have c2 : ∀ wx, Below w.heap.size w wx → Calls Try.prog 13 #[.slice la l.length lc] wx _ := fun wx h => rcheck_any l la lc wx (hl.1.later h) c hc
  have c3 : ∀ wx, Calls Try.prog 14 #[] wx _ := fun wx => speaks_any wx
  by_cases h0 : c = 0
  · subst h0
    have hr : l.length ≤ 256 ∧ ∀ x ∈ l, rightP x := by
      rcases hc with ⟨_, q⟩ | ⟨_, _, q⟩ | ⟨q, r, _⟩
      · cases q
      · cases q
      · exact ⟨q, r⟩
    have c1 : ∀ wx, Below w.heap.size w wx → Calls Try.prog 11 #[.slice la l.length lc] wx _ := fun wx h => table_ok l la lc wx (hl.1.later h) hr.1 hr.2
    have c4 : ∀ wx, Below w.heap.size w wx → Calls Try.prog 12 #[.slice la l.length lc] wx _ := fun wx h => objects_ok l la lc wx (hl.1.later h) hr.1 hr.2
    have c5 : ∀ wx, Below w.heap.size w wx → Calls Try.prog 15 #[.slice la l.length lc] wx _ := fun wx h => rtable_ok l la lc wx (hl.1.later h) hr.1
    have c6 : ∀ wx, Below w.heap.size w wx → Calls Try.prog 17 #[.slice la l.length lc] wx _ := fun wx h => robjects_ok l la lc wx (hl.1.later h) hr.1 hr.2
    have hrH : Hid (∀ x ∈ l, rightP x) := hr.2
    have hlI : (l.length : Int) ≤ 256 := by have := hr.1; omega
    clear hl hc hr
    go_enter Try.func3, Try.ntmps3
    go_wp2_with (first
      | (go_at_call 10; (with_reducible refine c0.mono ?_); rintro e w0 ⟨rfl, hb0⟩; (have hB0 : Hid (Below w.heap.size w w0) := hb0); clear hb0 c0)
      | (go_at_call 11; (with_reducible refine (c1 _ hB0.out).mono ?_); rintro e w1 ⟨A, rb, rfl, hs1⟩; (have hB1 : Hid (Below w.heap.size w w1) := bthen hB0.out hs1.b); (have hM1 : Hid (Mat w1 w0.heap.size A l.length l.length rb (dpf l)) := hs1.m); clear hs1 c1)
      | (go_at_call 12; (with_reducible refine (c4 _ hB1.out).mono ?_); rintro e w2 ⟨oa, oc, D, rfl, hs2⟩; (have hB2 : Hid (Below w.heap.size w w2) := bthen hB1.out hs2.out.2.2.2); (have hM2 : Hid (Mat w2 w0.heap.size A l.length l.length rb (dpf l)) := hM1.out.later hs2.out.2.2.2); (have hD : Hid (mrg D = oAll l 6) := objects_one hrH.out hs2.out.1 hs2.out.2.1); (have hO2 : Hid (Rows w2 3 oa oc ((oAll l 6).map Acc.cells)) := by rw [← hD.out]; exact hs2.out.2.2.1); rw [hD.out]; clear hs2 c4 hM1 hD)
      | (go_at_call 13; (with_reducible refine (c2 _ hB2.out).mono ?_); rintro e w3 ⟨rfl, hb3⟩; (have hB3 : Hid (Below w.heap.size w w3) := bthen hB2.out hb3); (have hM3 : Hid (Mat w3 w0.heap.size A l.length l.length rb (dpf l)) := hM2.out.later hb3); (have hO3 : Hid (Rows w3 3 oa oc ((oAll l 6).map Acc.cells)) := hO2.out.later hb3); clear hb3 c2 hM2 hO2)
      | (go_at_call 14; (with_reducible refine (c3 _).mono ?_); rintro e w4 ⟨rfl, hb4⟩; (have hB4 : Hid (Below w.heap.size w w4) := bthen hB3.out hb4); (have hM4 : Hid (Mat w4 w0.heap.size A l.length l.length rb (dpf l)) := hM3.out.later hb4); (have hO4 : Hid (Rows w4 3 oa oc ((oAll l 6).map Acc.cells)) := hO3.out.later hb4); clear hb4 c3 hM3 hO3)
      | (go_at_call 15; (with_reducible refine (c5 _ hB4.out).mono ?_); rintro e w5 ⟨va, vc, rfl, hs5⟩; (have hB5 : Hid (Below w.heap.size w w5) := bthen hB4.out hs5.out.2); (have hM5 : Hid (Mat w5 w0.heap.size A l.length l.length rb (dpf l)) := hM4.out.later hs5.out.2); (have hO5 : Hid (Rows w5 3 oa oc ((oAll l 6).map Acc.cells)) := hO4.out.later hs5.out.2); (have hT5 : Hid (Tb w5 va vc l.length (rwL l)) := hs5.out.1); clear hs5 c5 hM4 hO4)
      | (go_at_call 17; (with_reducible refine (c6 _ hB5.out).mono ?_); rintro e w6 ⟨ua, uc, rfl, hs6⟩; (have hB6 : Hid (Below w.heap.size w w6) := bthen hB5.out hs6.out.2); (have hM6 : Hid (Mat w6 w0.heap.size A l.length l.length rb (dpf l)) := hM5.out.later hs6.out.2); (have hO6 : Hid (Rows w6 3 oa oc ((oAll l 6).map Acc.cells)) := hO5.out.later hs6.out.2); (have hT6 : Hid (Tb w6 va vc l.length (rwL l)) := hT5.out.later hs6.out.2); (have hU6 : Hid (Rows w6 3 ua uc ((oAll l 6).map Acc.cells)) := hs6.out.1); clear hs6 c6 hM5 hO5 hT5)
      | (go_at_call 16; (with_reducible refine (sameAccs_any (oAll l 6) oa ua oc uc _ hO6.out hU6.out).mono ?_); rintro e w7 ⟨rfl, hb7⟩; (have hB7 : Hid (Below w.heap.size w w7) := bthen hB6.out hb7); (have hM7 : Hid (Mat w7 w0.heap.size A l.length l.length rb (dpf l)) := hM6.out.later hb7); (have hT7 : Hid (Tb w7 va vc l.length (rwL l)) := hT6.out.later hb7); clear hb7 hM6 hO6 hT6 hU6))
    obtain ⟨pa, pc, hR', hQ'⟩ := hT7.out
    have hR : Hid (Rows w7 1 va vc (slR l.length pa pc (rwL l))) := hR'
    have hQ : Hid (∀ k, k < l.length → Rows w7 1 (pa k) (pc k) ((rwL l k).map blC)) := hQ'
    have hln : Hid (∀ k, (rwL l k).length = l.length) := fun k => rwT_lenB l k l.length
    clear hR' hQ' hT7 hB0 hB1 hB2 hB3 hB4 hB5 hB6
    go_loopw [10] (fun u wr => ∃ i : Nat, i ≤ l.length ∧ u = .int .i64 (i : Int) ∧ Hid (Below w7.heap.size w7 wr)) (fun u _ => l.length - (intOf u).toNat)
    case atStart => exact ⟨0, Nat.zero_le _, rfl, Below.refl _ _⟩
    case round =>
      obtain ⟨i, hi, rfl, hbr⟩ := hrel
      by_cases hlt : i < l.length
      · have hiI : (i : Int) < l.length := by omega
        have xA := ix_row A l.length i hlt
        obtain ⟨b1, o1, x1, l1, k1'⟩ := tb_row hR.out i hlt
        rw [hln.out i] at k1'
        have k1 : ∀ wx, Below w7.heap.size w7 wx → wx.cell? ⟨b1, o1, none⟩ = some (.slice (pa i) l.length (pc i)) := fun wx h => cell_later h k1'
        have kA : ∀ wx, Below w7.heap.size w7 wx → wx.cell? ⟨A, i, none⟩ = some (.slice (some ⟨rb i, 0, none⟩) l.length l.length) := fun wx h => (hM7.out.later h).row hlt hlt
        have k1H : Hid (∀ wx, Below w7.heap.size w7 wx → wx.cell? ⟨b1, o1, none⟩ = some (.slice (pa i) l.length (pc i))) := k1
        have kAH : Hid (∀ wx, Below w7.heap.size w7 wx → wx.cell? ⟨A, i, none⟩ = some (.slice (some ⟨rb i, 0, none⟩) l.length l.length)) := kA
        have y1 := k1 _ hbr.out
        have y2 := kA _ hbr.out
        clear k1 kA k1' l1
        go_wp2_with fail
        go_quiet (fail)
        rename_i nq
        have hbq : Hid (Below w7.heap.size w7 (wr.drewN nq)) := below_drewN hbr.out nq
        generalize wr.drewN nq = W5 at *
        clear y1 y2 hbr
        go_wp2_with fail
        go_loopw [11] (fun u wv => ∃ j : Nat, j ≤ l.length ∧ u = .int .i64 (j : Int) ∧ Hid (Below w7.heap.size w7 wv)) (fun u _ => l.length - (intOf u).toNat)
        case atStart => exact ⟨0, Nat.zero_le _, rfl, hbq⟩
        case round =>
          rename World => wv
          obtain ⟨j, hj, rfl, hbv⟩ := hrel
          have y1 := k1H.out _ hbv.out
          have y2 := kAH.out _ hbv.out
          by_cases hjt : j < l.length
          · have hjI : (j : Int) < l.length := by omega
            have xR := ix_bool (rb i) l.length j hjt
            obtain ⟨b2, o2, x2, l2, k2⟩ := tb_cell ((hQ.out i hlt).later hbv.out) j (dpf l i j) (by unfold rwL rwT; simp [hjt])
            rw [hln.out i] at x2
            have y3 := ((hM7.out.later hbv.out).cell (i := i) (j := j) hlt hjt).1
            generalize dpf l i j = P at *
            have hPP : (P != P) = false := by cases P <;> rfl
            go_wp2_with fail
            go_quiet (fail)
            rename Nat => nq2
            have hbq2 : Hid (Below w7.heap.size w7 (wv.drewN nq2)) := below_drewN hbv.out nq2
            generalize wv.drewN nq2 = W6 at *
            clear y1 y2 y3 hbv x2 k2
            go_wp2
            go_roundw
            case rel => exact ⟨j + 1, by omega, by go_num, hbq2⟩
            case measure => simp [intOf]; omega
          · have hj2 : j = l.length := by omega
            subst hj2
            go_wp2
            go_roundw
            case rel => exact ⟨i + 1, by omega, by go_num, hbv⟩
            case measure => simp [intOf]; omega
      · have hi2 : i = l.length := by omega
        subst hi2
        go_wp2
        go_ret
        exact ⟨rfl, bthen hB7.out hbr.out⟩
  · have h0b : (c == 0) = false := by simpa using h0
    have c1 : ∀ wx, Below w.heap.size w wx → Calls Try.prog 11 #[.slice la l.length lc] wx _ := fun wx h => table_bad l la lc wx (hl.1.later h) c hc h0b
    have c4 : ∀ wx, Below w.heap.size w wx → Calls Try.prog 12 #[.slice la l.length lc] wx _ := fun wx h => objects_bad l la lc wx (hl.1.later h) c hc h0b
    clear hl hc h0
    go_enter Try.func3, Try.ntmps3
    go_wp2_with (first
      | (go_at_call 10; (with_reducible refine c0.mono ?_); rintro e w0 ⟨rfl, hb0⟩; (have hB0 : Hid (Below w.heap.size w w0) := hb0))
      | (go_at_call 11; (with_reducible refine (c1 _ hB0.out).mono ?_); rintro e w1 ⟨rfl, hb1⟩; (have hB1 : Hid (Below w.heap.size w w1) := bthen hB0.out hb1))
      | (go_at_call 12; (with_reducible refine (c4 _ hB1.out).mono ?_); rintro e w2 ⟨rfl, hb2⟩; (have hB2 : Hid (Below w.heap.size w w2) := bthen hB1.out hb2))
      | (go_at_call 13; (with_reducible refine (c2 _ hB2.out).mono ?_); rintro e w3 ⟨rfl, hb3⟩; (have hB3 : Hid (Below w.heap.size w w3) := bthen hB2.out hb3))
      | (go_at_call 14; (with_reducible refine (c3 _).mono ?_); rintro e w4 ⟨rfl, hb4⟩; (have hB4 : Hid (Below w.heap.size w w4) := bthen hB3.out hb4)))
    go_ret
    exact ⟨rfl, hB4.out⟩
end Go.Proofs.Ytkadlopcomjonaa.pg
