/- A history in which no two operations run at one time, none pending: the order in which they began is the only one. Plain mathematics. -/
import Derived.Test.YtklpifammbnldaaM22
import Derived.Test.YtklpifammbnldaaM28
import Derived.Test.YtklpifammbnldaaM19
import Derived.Test.YtklpifammbnldaaM3
namespace Go.Proofs.Ytklpifammbnldaa.pg
open Go.RowKit
set_option linter.unusedVariables false
theorem asc_uniq (b : Nat → Int) : ∀ (l m : List Nat), (l.Pairwise fun x y => b x < b y) → (m.Pairwise fun x y => b x < b y) → (∀ x, x ∈ l ↔ x ∈ m) → l = m
  | [], [], _, _, _ => rfl
  | [], y :: s, _, _, h => absurd ((h y).mpr List.mem_cons_self) (by simp)
  | x :: r, [], _, _, h => absurd ((h x).mp List.mem_cons_self) (by simp)
  | x :: r, y :: s, h1, h2, h => by
    obtain ⟨p1, q1⟩ := List.pairwise_cons.mp h1
    obtain ⟨p2, q2⟩ := List.pairwise_cons.mp h2
    have e : x = y := by
      rcases List.mem_cons.mp ((h x).mp List.mem_cons_self) with e | e
      · exact e
      · rcases List.mem_cons.mp ((h y).mpr List.mem_cons_self) with e' | e'
        · exact e'.symm
        · have a1 := p2 x e
          have a2 := p1 y e'
          omega
    subst e
    have hm : ∀ z, z ∈ r ↔ z ∈ s := fun z => by
      constructor
      · intro hz
        rcases List.mem_cons.mp ((h z).mp (List.mem_cons_of_mem _ hz)) with e | e
        · have := p1 z hz
          rw [e] at this
          omega
        · exact e
      · intro hz
        rcases List.mem_cons.mp ((h z).mpr (List.mem_cons_of_mem _ hz)) with e | e
        · have := p2 z hz
          rw [e] at this
          omega
        · exact e
    rw [asc_uniq b r s q1 q2 hm]
/-- No two operations run at one time, and none is pending. -/
structure AloneH (h : List Cl) : Prop where
  no : ∀ i, i < h.length → (hf h i).pend = false
  two : ∀ i j, i < h.length → j < h.length → i ≠ j → endB (hf h i) (hf h j) = true ∨ endB (hf h j) (hf h i) = true
theorem end_lt {k : Int} {h : List Cl} (r : RightH k h) (al : AloneH h) {i j : Nat} (hi : i < h.length) (q : endB (hf h i) (hf h j) = true) : (hf h i).bg < (hf h j).bg := by
  unfold endB at q
  rw [Bool.and_eq_true, decide_eq_true_eq] at q
  rcases r.time hi with t | t
  · rw [al.no i hi] at t; cases t
  · have := q.2; omega
/-- An order that keeps time is the order in which they began. -/
theorem alone_asc {k : Int} {h : List Cl} (r : RightH k h) (al : AloneH h) {o : List Nat} (hm : ∀ x ∈ o, x < h.length) (hn : o.Nodup) (q : o.Pairwise fun a b => endB (hf h b) (hf h a) = false) : o.Pairwise fun a b => (hf h a).bg < (hf h b).bg := by
  have hb : o.Pairwise fun a b => a ≠ b ∧ endB (hf h b) (hf h a) = false := List.Pairwise.and hn q
  refine List.Pairwise.imp_of_mem (fun {a b} ha hb e => ?_) hb
  rcases al.two a b (hm a ha) (hm b hb) e.1 with z | z
  · exact end_lt r al (hm a ha) z
  · rw [e.2] at z; cases z
theorem asc_keeps {k : Int} {h : List Cl} (r : RightH k h) (al : AloneH h) {o : List Nat} (hm : ∀ x ∈ o, x < h.length) (q : o.Pairwise fun a b => (hf h a).bg < (hf h b).bg) : o.Pairwise fun a b => endB (hf h b) (hf h a) = false := by
  refine List.Pairwise.imp_of_mem (fun {a b} ha hb e => ?_) q
  cases z : endB (hf h b) (hf h a) with
  | false => rfl
  | true => have := end_lt r al (hm b hb) z; omega
theorem asc_nodup {h : List Cl} {o : List Nat} (q : o.Pairwise fun a b => (hf h a).bg < (hf h b).bg) : o.Nodup := List.Pairwise.imp (fun {a b} e => fun z => by rw [z] at e; omega) q
/-- It is linearisable just if the order in which they began fits; and then by that order. -/
theorem fsB_alone {k : Int} {h : List Cl} (r : RightH k h) (al : AloneH h) {c : List Int} {o : List Nat} (hm : ∀ x, x ∈ o ↔ x < h.length) (q : o.Pairwise fun a b => (hf h a).bg < (hf h b).bg) : fsB k endB h (fun _ => false) c = if (runC k h c o).2 = true then some o else none := by
  cases e : fsB k endB h (fun _ => false) c with
  | none =>
    have := fsB_none (fun i j hi hj t => end_pend t) (fun i hi => r.end_irr hi) e o (fun x hx => (hm x).mp hx) (asc_nodup q) (asc_keeps r al (fun x hx => (hm x).mp hx) q) fun x hx _ => (hm x).mpr hx
    rw [this]
    rfl
  | some o' =>
    have w := fst0_sound e
    have hm' : ∀ x ∈ o', x < h.length := fun x hx => (walkP_mem w x hx).1
    have eo : o' = o := asc_uniq (fun i => (hf h i).bg) o' o (alone_asc r al hm' (walkP_nodup w) (walkP_keeps w)) q fun x => by
      constructor
      · intro hx; exact (hm x).mpr (hm' x hx)
      · intro hx
        rcases walkP_all w x ((hm x).mp hx) (al.no x ((hm x).mp hx)) with z | z
        · cases z
        · exact z
    have hw := walkP_fits w
    rw [eo] at hw
    rw [if_pos hw, eo]
end Go.Proofs.Ytklpifammbnldaa.pg
/- The order in which operations began, when no two run at one time: plain mathematics. -/
namespace Go.Proofs.Ytklpifammbnldaa.pg
open Go.RowKit
set_option linter.unusedVariables false
set_option linter.unusedSimpArgs false
/-- Before which operations does another one end? -/
def befB (h : List Cl) (i j : Nat) : Bool := !(j == i) && decide ((hf h j).en < (hf h i).bg)
/-- How many end before an operation begins. -/
def atF (h : List Cl) (i : Nat) : Nat := cntD (befB h i) h.length
/-- What the first i rounds make. -/
def ouR (h : List Cl) : Nat → List Nat
  | 0 => []
  | i + 1 => (if i = 0 then List.replicate h.length 0 else ouR h i).set (atF h i) i
theorem cntD_mono {f g : Nat → Bool} (q : ∀ b, f b = true → g b = true) : ∀ n, cntD f n ≤ cntD g n
  | 0 => Nat.le_refl _
  | n + 1 => by
    have := cntD_mono q n
    unfold cntD
    cases e : f n with
    | false => simp; omega
    | true => rw [q n e]; simp; omega
theorem cntD_lt {f g : Nat → Bool} (q : ∀ b, f b = true → g b = true) {n i : Nat} (hi : i < n) (h1 : f i = false) (h2 : g i = true) : cntD f n < cntD g n := by
  have e := cntD_set h1 hi
  have : cntD (setD f i) n ≤ cntD g n := cntD_mono (fun b hb => by
    unfold setD at hb
    by_cases c : b = i
    · subst c; exact h2
    · rw [if_neg c] at hb; exact q b hb) n
  omega
theorem atF_lt {h : List Cl} {i : Nat} (hi : i < h.length) : atF h i < h.length := by
  have h1 : befB h i i = false := by unfold befB; simp
  have e := cntD_set h1 hi
  have := cntD_le (setD (befB h i) i) h.length
  unfold atF
  omega
theorem ouR_len {h : List Cl} : ∀ {i : Nat}, 0 < i → (ouR h i).length = h.length
  | 0, q => absurd q (by omega)
  | i + 1, _ => by
    unfold ouR
    rw [List.length_set]
    by_cases e : i = 0
    · rw [if_pos e, List.length_replicate]
    · rw [if_neg e, ouR_len (by omega)]
/-- What alone asks of a history. -/
structure AlC (h : List Cl) (n : Nat) : Prop where
  e : ∀ i, i < n → (hf h i).en ≠ -1
  t : ∀ i j, i < n → j < h.length → j ≠ i → (hf h j).en < (hf h i).bg ∨ (hf h i).en ≤ (hf h j).bg
section
variable {k : Int} {h : List Cl}
theorem AlC.alone (r : RightH k h) (a : AlC h h.length) : AloneH h := by
  have hp : ∀ i, i < h.length → (hf h i).pend = false := fun i hi => by
    unfold Cl.pend
    exact beq_eq_false_iff_ne.mpr (a.e i hi)
  refine ⟨hp, fun i j hi hj hne => ?_⟩
  have hm := r.pair2 hne hi hj
  unfold pairB momB at hm
  simp only [Bool.or_eq_false_iff] at hm
  have h3 : (hf h i).en ≠ (hf h j).bg := by
    have := hm.1.1.2
    exact beq_eq_false_iff_ne.mp this
  unfold endB
  rw [hp i hi, hp j hj]
  simp only [Bool.not_false, Bool.true_and, decide_eq_true_eq]
  rcases a.t i j hi hj (fun q => hne q.symm) with q | q
  · exact .inr q
  · exact .inl (by omega)
theorem AlC.bg (r : RightH k h) {i j : Nat} (hi : i < h.length) (hj : j < h.length) (hne : i ≠ j) : (hf h i).bg ≠ (hf h j).bg := by
  have hm := r.pair2 hne hi hj
  unfold pairB momB at hm
  simp only [Bool.or_eq_false_iff] at hm
  exact beq_eq_false_iff_ne.mp hm.1.1.1.1
theorem AlC.bef (r : RightH k h) (a : AlC h h.length) {i j : Nat} (hi : i < h.length) (hj : j < h.length) : befB h i j = decide ((hf h j).bg < (hf h i).bg) := by
  have ht := fun x hx => (r.time (i := x) hx).resolve_left (by
    have : (hf h x).pend = false := beq_eq_false_iff_ne.mpr (a.e x hx)
    rw [this]; simp)
  have t1 := ht i hi
  have t2 := ht j hj
  unfold befB
  by_cases e : j = i
  · subst e
    simp
  · have : (j == i) = false := beq_eq_false_iff_ne.mpr e
    rw [this]
    simp only [Bool.not_false, Bool.true_and]
    refine decide_eq_decide.mpr ⟨fun q => by omega, fun q => ?_⟩
    rcases a.t i j hi hj e with z | z
    · exact z
    · omega
theorem AlC.at_lt (r : RightH k h) (a : AlC h h.length) {i j : Nat} (hi : i < h.length) (hj : j < h.length) (q : (hf h i).bg < (hf h j).bg) : atF h i < atF h j := by
  have e1 : atF h i = cntD (fun b => decide (b < h.length) && befB h i b) h.length := cntD_same fun b hb => by simp [hb]
  have e2 : atF h j = cntD (fun b => decide (b < h.length) && befB h j b) h.length := cntD_same fun b hb => by simp [hb]
  rw [e1, e2]
  refine cntD_lt (i := i) (fun b hb => ?_) hi ?_ ?_
  · simp only [Bool.and_eq_true, decide_eq_true_eq] at hb ⊢
    refine ⟨hb.1, ?_⟩
    have := hb.2
    rw [AlC.bef r a hi hb.1, decide_eq_true_eq] at this
    rw [AlC.bef r a hj hb.1, decide_eq_true_eq]
    omega
  · show (decide (i < h.length) && befB h i i) = false
    rw [AlC.bef r a hi hi, decide_eq_false (Int.lt_irrefl _), Bool.and_false]
  · rw [AlC.bef r a hj hi, decide_eq_true q, decide_eq_true hi]; rfl
theorem AlC.at_inj (r : RightH k h) (a : AlC h h.length) {i j : Nat} (hi : i < h.length) (hj : j < h.length) (q : atF h i = atF h j) : i = j := by
  apply Classical.byContradiction
  intro hne
  have hb := AlC.bg r hi hj hne
  rcases Int.lt_or_gt_of_ne hb with z | z
  · have := AlC.at_lt r a hi hj z; omega
  · have := AlC.at_lt r a hj hi z; omega
theorem AlC.ou (r : RightH k h) (a : AlC h h.length) : ∀ t, t ≤ h.length → ∀ i, i < t → (ouR h t)[atF h i]? = some i
  | 0, _, i, hi => absurd hi (by omega)
  | t + 1, ht, i, hi => by
    have hl : (if t = 0 then List.replicate h.length 0 else ouR h t).length = h.length := by
      by_cases e : t = 0
      · rw [if_pos e, List.length_replicate]
      · rw [if_neg e, ouR_len (by omega)]
    unfold ouR
    rw [List.getElem?_set]
    by_cases e : i = t
    · subst e
      rw [if_pos rfl, if_pos (by rw [hl]; exact atF_lt (by omega))]
    · rw [if_neg (fun q => e (AlC.at_inj r a (by omega) (by omega) q.symm)), if_neg (by omega)]
      exact AlC.ou r a t (by omega) i (by omega)
theorem AlC.onto (r : RightH k h) (a : AlC h h.length) {p : Nat} (hp : p < h.length) : ∃ i, i < h.length ∧ atF h i = p := by
  apply Classical.byContradiction
  intro hno
  have hL : ((List.range h.length).map (atF h)).Nodup := by
    refine List.pairwise_map.mpr (List.Pairwise.imp_of_mem (fun {x y} hx hy hne q => ?_) (List.nodup_range))
    exact hne (AlC.at_inj r a (List.mem_range.mp hx) (List.mem_range.mp hy) q)
  have h1 : (p :: (List.range h.length).map (atF h)).Nodup := List.nodup_cons.mpr ⟨fun q => by
    obtain ⟨i, hi, e⟩ := List.mem_map.mp q
    exact hno ⟨i, List.mem_range.mp hi, e⟩, hL⟩
  have := len_nodup h.length _ h1 (fun x hx => by
    rcases List.mem_cons.mp hx with rfl | hx
    · exact hp
    · obtain ⟨i, hi, rfl⟩ := List.mem_map.mp hx
      exact atF_lt (List.mem_range.mp hi))
  simp at this
  omega
/-- The order in which they began. -/
theorem AlC.ord (r : RightH k h) (a : AlC h h.length) : (∀ x, x ∈ ouR h h.length ↔ x < h.length) ∧ (ouR h h.length).Pairwise fun x y => (hf h x).bg < (hf h y).bg := by
  by_cases h0 : h.length = 0
  · rw [h0]
    exact ⟨fun x => by simp [ouR], by simp [ouR]⟩
  · have hl : (ouR h h.length).length = h.length := ouR_len (by omega)
    have hat : ∀ p, p < h.length → ∃ i, i < h.length ∧ atF h i = p ∧ (ouR h h.length)[p]? = some i := fun p hp => by
      obtain ⟨i, hi, e⟩ := AlC.onto r a hp
      exact ⟨i, hi, e, by rw [← e]; exact AlC.ou r a _ (Nat.le_refl _) i hi⟩
    refine ⟨fun x => ⟨fun hx => ?_, fun hx => List.mem_of_getElem? (AlC.ou r a _ (Nat.le_refl _) x hx)⟩, ?_⟩
    · obtain ⟨p, hp, e⟩ := List.getElem_of_mem hx
      obtain ⟨i, hi, _, e2⟩ := hat p (by omega)
      rw [List.getElem?_eq_getElem hp, e] at e2
      cases e2
      exact hi
    · rw [List.pairwise_iff_getElem]
      intro p q hp hq hpq
      obtain ⟨i, hi, e1, e2⟩ := hat p (by omega)
      obtain ⟨j, hj, e3, e4⟩ := hat q (by omega)
      rw [List.getElem?_eq_getElem hp] at e2
      rw [List.getElem?_eq_getElem hq] at e4
      rw [Option.some.inj e2, Option.some.inj e4]
      apply Classical.byContradiction
      intro hno
      by_cases c : i = j
      · subst c; omega
      · have := AlC.bg r hi hj c
        have := AlC.at_lt r a hj hi (by omega)
        omega
/-- .. is an order, for Fits. -/
theorem AlC.fits (r : RightH k h) (a : AlC h h.length) : (∀ x ∈ ouR h h.length, x < h.length) ∧ (ouR h h.length).length ≤ 8 ∧ isOrdB h (asI (ouR h h.length)) = true ∧ keepsB endB h (ouR h h.length) = true ∧ keepsB turnB h (ouR h h.length) = true ∧ fsB k endB h (fun _ => false) (firstC k) = if (runC k h (firstC k) (ouR h h.length)).2 = true then some (ouR h h.length) else none := by
  obtain ⟨hm, hp⟩ := AlC.ord r a
  have h1 : ∀ x ∈ ouR h h.length, x < h.length := fun x hx => (hm x).mp hx
  have h2 := asc_nodup hp
  have h3 := asc_keeps r (AlC.alone r a) h1 hp
  refine ⟨h1, Nat.le_trans (len_nodup h.length _ h2 h1) r.n, ?_, decide_eq_true h3, decide_eq_true (r.keeps_turns h1 h3), fsB_alone r (AlC.alone r a) hm hp⟩
  unfold isOrdB
  rw [Bool.and_eq_true]
  refine ⟨decide_eq_true ⟨List.pairwise_map.mpr (h2.imp fun hab q => hab (by omega)), ?_⟩, hasB_yes fun i hi hl => ?_⟩
  · intro x hx
    obtain ⟨j, hj, rfl⟩ := List.mem_map.mp hx
    have := h1 j hj
    omega
  · unfold lastK at hl
    simp only [Bool.and_eq_true, decide_eq_true_eq] at hl
    exact decide_eq_true (List.mem_map.mpr ⟨i, (hm i).mpr hl.2.1, rfl⟩)
end
end Go.Proofs.Ytklpifammbnldaa.pg
/- An empty list literal; a row of a list written over. -/
namespace Go.Proofs.Ytklpifammbnldaa.pg
open Go.ChangeShapes Go.WideShapes Go.ChangeAt Go.RowKit
set_option linter.unusedVariables false
set_option linter.unusedSimpArgs false
theorem wpList_empty {P : Program} {ops : Array Oper} {rest : List Oper} {o : Oper} {a : Act} {w : World} {Q : Exit → Act → World → Prop} (hg : o.guard = none) (t e : TypeId) (ho : o.op = .buildSlice t 0 #[]) (ie : TypeInfo)
    (hu : P.underlying t = some (.slice e)) (hie : P.info? e = some ie)
    (h : wpList P ops Q rest (a.put o.dst (.slice (some ⟨w.heap.size, 0, none⟩) 0 0)) (w.alloc (.cells #[] e))) : wpList P ops Q (o :: rest) a w :=
  wpList_plain hg fun _ hK => by
    have hr : (Instr.buildSlice t 0 #[]).run P w = .ok (.slice (some ⟨w.heap.size, 0, none⟩) 0 0) (w.alloc (.cells #[] e)) := by
      simp [Instr.buildSlice, run_underlying hu, sizeOf, typeInfo, hie, newRow, Instr.fill, go_sem]
    unfold Oper.wp execOp
    simp only [ho, Sem.run_bind, Sem.run_pure, Result.andThen_ok, List.map_toArray, List.map_nil, Array.map_empty, hr]
    exact hK _ _ h
theorem own_empty (w : World) (lo e k : Nat) (hl : lo ≤ w.heap.size) : OwnL (w.alloc (.cells #[] e)) lo e k (some ⟨w.heap.size, 0, none⟩) 0 [] :=
  ⟨by simp, .inr ⟨w.heap.size, 0, #[], rfl, hl, heap_new_q w _, by simp, by unfold maxLen; omega, by simp, by simp⟩⟩
/-- A row of an own list can be written over. -/
theorem own_there {w : World} {lo e k : Nat} {g cap : Nat} {L : List (List Value)} (h : OwnL w lo e k (some ⟨g, 0, none⟩) cap L) (hk : ∀ row ∈ L, row.length = k) {i : Nat} (hi : i < L.length) : w.there g (i * k) k := by
  have hr := own_rows h hk
  obtain ⟨x, hx, hm⟩ := get_lt L i hi
  obtain ⟨b0, off, ha, hlt, hc⟩ := hr.row hx
  intro j hj
  refine ⟨?_, ?_⟩
  · have hlt2 : i * k + j < L.length * k := by
      have : (i + 1) * k ≤ L.length * k := Nat.mul_le_mul_right k hi
      rw [Nat.add_mul] at this
      omega
    rw [World.ownsRow.cellAt h (i * k + j) hlt2, flatten_at L hk i x hx j hj, List.getElem?_eq_getElem (by rw [hk x hm]; exact hj)]
    rfl
  · rcases h.2 with ⟨h1, _⟩ | ⟨g', cap', cur, h1, _, hg, _⟩
    · simp only [Value.slice.injEq] at h1
      cases h1.1
    · simp only [Value.slice.injEq, Option.some.injEq, Addr.mk.injEq, and_true, true_and] at h1
      rw [h1.1]
      exact frozen_of_row _ _ _ _ _ hg
theorem rows_put {w : World} {k g cap : Nat} {L : List (List Value)} (h : Rows w k (some ⟨g, 0, none⟩) cap L) {i : Nat} (hi : i < L.length) {row : List Value} (hr : row.length = k) (ht : w.there g (i * k) k) : Rows (w.setCells g (i * k) row) k (some ⟨g, 0, none⟩) cap (L.set i row) := by
  obtain ⟨h1, h2, h3, h4⟩ := h
  rcases h4 with rfl | ⟨b, off, ha, hlt, hc⟩
  · simp at hi
  · simp only [Option.some.injEq, Addr.mk.injEq, and_true] at ha
    obtain ⟨rfl, rfl⟩ := ha
    refine ⟨by simpa using h1, h2, by simp, .inr ⟨g, 0, rfl, ?_, fun q rw' hq => ?_⟩⟩
    · have := (World.keptBut_setCells g (may := fun _ => True) row (i * k) w (fun _ _ => trivial))
      have hs : w.heap.size ≤ (w.setCells g (i * k) row).heap.size := by
        have e : ∀ (vs : List Value) (o : Nat) (w : World), (w.setCells g o vs).heap.size = w.heap.size := by
          intro vs
          induction vs with
          | nil => intro o w; rfl
          | cons v vs ih => intro o w; simp only [World.setCells]; rw [ih]; exact World.size_setCell _ _ _
        rw [e]; exact Nat.le_refl _
      omega
    · rw [List.getElem?_set] at hq
      by_cases c : i = q
      · subst c
        rw [if_pos rfl, if_pos hi, Option.some.injEq] at hq
        subst hq
        refine ⟨hr, fun j u hj => ?_⟩
        have hjl := (List.getElem?_eq_some_iff.mp hj).1
        rw [Nat.zero_add]
        rw [World.cell?_setCells_in g row (i * k) w (fun j hj => (ht j (by omega)).1) j hjl]
        rw [← hj, List.getElem?_eq_getElem hjl]
      · rw [if_neg c] at hq
        obtain ⟨r1, r2⟩ := hc q rw' hq
        refine ⟨r1, fun j u hj => ?_⟩
        rw [World.cell?_setCells_out g row (i * k) w]
        · exact r2 j u hj
        · intro _ _
          show 0 + (q * k + j) < i * k ∨ i * k + row.length ≤ 0 + (q * k + j)
          have hjl : j < k := by have := (List.getElem?_eq_some_iff.mp hj).1; omega
          rw [hr]
          rcases Nat.lt_or_gt_of_ne c with c | c
          · right
            have : (i + 1) * k ≤ q * k := Nat.mul_le_mul_right k c
            rw [Nat.add_mul] at this
            omega
          · left
            have : (q + 1) * k ≤ i * k := Nat.mul_le_mul_right k c
            rw [Nat.add_mul] at this
            omega
theorem size_setCells (g : Nat) : ∀ (vs : List Value) (o : Nat) (w : World), (w.setCells g o vs).heap.size = w.heap.size
  | [], _, _ => rfl
  | v :: vs, o, w => by simp only [World.setCells]; rw [size_setCells g vs]; exact World.size_setCell _ _ _
theorem below_setCells {n₀ g : Nat} (hg : n₀ ≤ g) : ∀ (vs : List Value) (o : Nat) (w w' : World), Below n₀ w w' → Below n₀ w (w'.setCells g o vs)
  | [], _, _, _, h => h
  | v :: vs, o, w, w', h => below_setCells hg vs (o + 1) w _ (h.setCell (p := ⟨g, o, none⟩) hg v)
theorem rows_ix_g {t e : TypeId} {k : Nat} (hu : Try.prog.underlying t = some (.slice e)) (hz : ∀ wx, (sizeOf e).run Try.prog wx = .ok k wx) (g n cap i : Nat) (h : i < n) : ∀ wx, (Instr.indexAt t (.slice (some ⟨g, 0, none⟩) n cap) (.int .i64 (i : Int))).run Try.prog wx = .ok (.pointer (some ⟨g, i * k, none⟩)) wx := by
  intro wx
  have q1 : (i : Int) < n := by omega
  have q2 : ¬ (i : Int) < 0 := by omega
  simp [Instr.indexAt, run_underlying hu, asIntOf, go_sem, hz, q1, q2, h]
end Go.Proofs.Ytklpifammbnldaa.pg
