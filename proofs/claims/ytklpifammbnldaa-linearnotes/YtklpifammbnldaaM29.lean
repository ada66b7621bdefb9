/- The beginning of a history, up to a moment: plain mathematics. -/
import Derived.Test.YtklpifammbnldaaM22
import Derived.Test.YtklpifammbnldaaM28
namespace Go.Proofs.Ytklpifammbnldaa.pg
open Go.RowKit
set_option linter.unusedVariables false
section
variable {α β : Type} (g : α → Option β)
/-- The place that an element has behind a sifting. -/
def sift (l : List α) (i : Nat) : Nat := ((l.take i).filterMap g).length
theorem sift_at {l : List α} {i : Nat} {x : α} {y : β} (hx : l[i]? = some x) (hy : g x = some y) : (l.filterMap g)[sift g l i]? = some y := by
  obtain ⟨hi, rfl⟩ := List.getElem?_eq_some_iff.mp hx
  have e : l = l.take i ++ l[i] :: l.drop (i + 1) := by rw [List.getElem_cons_drop, List.take_append_drop]
  have : l.filterMap g = (l.take i).filterMap g ++ y :: (l.drop (i + 1)).filterMap g := by
    conv => lhs; rw [e]
    rw [List.filterMap_append, List.filterMap_cons, hy]
  rw [this]
  unfold sift
  rw [List.getElem?_append_right (Nat.le_refl _), Nat.sub_self]
  rfl
theorem sift_lt {l : List α} {i j : Nat} {x : α} {y : β} (hx : l[i]? = some x) (hy : g x = some y) (hij : i < j) : sift g l i < sift g l j := by
  unfold sift
  have h1 : (l.take j)[i]? = some x := by rw [List.getElem?_take_of_lt hij]; exact hx
  have h2 := sift_at g h1 hy
  have h3 : sift g (l.take j) i = sift g l i := by unfold sift; rw [List.take_take, Nat.min_eq_left (by omega)]
  rw [h3] at h2
  obtain ⟨h4, _⟩ := List.getElem?_eq_some_iff.mp h2
  exact h4
theorem sift_onto : ∀ {l : List α} {p : Nat}, p < (l.filterMap g).length → ∃ i x y, l[i]? = some x ∧ g x = some y ∧ sift g l i = p
  | [], p, h => absurd h (by simp)
  | a :: r, p, h => by
    cases ha : g a with
    | none =>
      rw [List.filterMap_cons, ha] at h
      obtain ⟨i, x, y, h1, h2, h3⟩ := sift_onto h
      refine ⟨i + 1, x, y, by simpa using h1, h2, ?_⟩
      unfold sift at *
      rw [List.take_succ_cons, List.filterMap_cons, ha]
      exact h3
    | some b =>
      rw [List.filterMap_cons, ha] at h
      cases p with
      | zero => exact ⟨0, a, b, rfl, ha, rfl⟩
      | succ q =>
        obtain ⟨i, x, y, h1, h2, h3⟩ := sift_onto (l := r) (p := q) (by simpa using h)
        refine ⟨i + 1, x, y, by simpa using h1, h2, ?_⟩
        unfold sift at *
        rw [List.take_succ_cons, List.filterMap_cons, ha, List.length_cons, h3]
end
/-- An operation up to a moment: none if it begins later, pending if it ends later. -/
def cutC (m : Int) (x : Cl) : Option Cl := if m < x.bg then none else some (if m < x.en then { x with en := -1, out := 0, em := false } else x)
def partH (m : Int) (h : List Cl) : List Cl := h.filterMap (cutC m)
def cutX (m : Int) (x : Cl) : Cl := if m < x.en then { x with en := -1, out := 0, em := false } else x
theorem cutC_some {m : Int} {x : Cl} (q : x.bg ≤ m) : cutC m x = some (cutX m x) := by
  unfold cutC cutX
  rw [if_neg (by omega)]
theorem cutC_of {m : Int} {x y : Cl} (q : cutC m x = some y) : x.bg ≤ m ∧ y = cutX m x := by
  unfold cutC at q
  split at q
  · cases q
  · exact ⟨by omega, (Option.some.inj q).symm⟩
theorem cutX_bg (m : Int) (x : Cl) : (cutX m x).bg = x.bg := by unfold cutX; split <;> rfl
theorem cutX_go (m : Int) (x : Cl) : (cutX m x).go = x.go := by unfold cutX; split <;> rfl
theorem cutX_d (m : Int) (x : Cl) : (cutX m x).d = x.d := by unfold cutX; split <;> rfl
theorem cutX_inn (m : Int) (x : Cl) : (cutX m x).inn = x.inn := by unfold cutX; split <;> rfl
theorem cutX_pend {m : Int} {x : Cl} (q : (cutX m x).pend = false) : cutX m x = x ∧ x.pend = false ∧ x.en ≤ m := by
  unfold cutX at *
  split at q
  · simp [Cl.pend] at q
  · rename_i e
    exact ⟨if_neg e, q, by omega⟩
theorem cutX_end {m : Int} {x y : Cl} (q : endB (cutX m x) (cutX m y) = true) : endB x y = true := by
  have e := (cutX_pend (end_pend q)).1
  rw [e] at q
  unfold endB at *
  rw [cutX_bg] at q
  exact q
theorem nxt_cut (k m : Int) (c : List Int) (x : Cl) : nxtC k c (cutX m x) = nxtC k c x := by
  unfold nxtC
  rw [cutX_d, cutX_inn]
theorem fit_cut {k m : Int} {c : List Int} {x : Cl} (q : fitC k c x = true) : fitC k c (cutX m x) = true := by
  cases hp : (cutX m x).pend with
  | true => unfold fitC; rw [hp]; rfl
  | false => rw [(cutX_pend hp).1]; exact q
theorem rc_cut {m : Int} {x : Cl} (q : rcB x = true) : rcB (cutX m x) = true := by
  unfold cutX
  split
  · unfold rcB rtB rvB Cl.pend at *
    simp only [Bool.and_eq_true, Bool.or_eq_true, decide_eq_true_eq, beq_iff_eq] at *
    obtain ⟨⟨⟨h1, h2⟩, h3⟩, h4⟩ := q
    refine ⟨⟨⟨h1, h2⟩, h3.1, ?_⟩, ⟨h4.1.1, ?_⟩, ?_⟩ <;> simp
  · exact q
theorem rc_bg {x : Cl} (q : rcB x = true) : 0 ≤ x.bg := by
  unfold rcB rtB at q
  simp only [Bool.and_eq_true, decide_eq_true_eq] at q
  exact q.1.2.1.1
theorem cut_pair {m : Int} {x y : Cl} (hx : rcB x = true) (hy : rcB y = true) (bx : x.bg ≤ m) (bY : y.bg ≤ m) (q : pairB x y = false) : pairB (cutX m x) (cutX m y) = false := by
  have gx := rc_bg hx
  have gy := rc_bg hy
  unfold pairB at *
  rw [Bool.or_eq_false_iff] at *
  refine ⟨?_, ?_⟩
  · have q1 := q.1
    unfold momB Cl.pend at *
    rw [cutX_bg, cutX_bg]
    simp only [Bool.or_eq_false_iff, Bool.and_eq_false_iff, beq_eq_false_iff_ne, ne_eq] at *
    obtain ⟨⟨⟨h1, h2⟩, h3⟩, h4⟩ := q1
    unfold cutX
    refine ⟨⟨⟨h1, ?_⟩, ?_⟩, ?_⟩
    · split
      · show ¬ x.bg = -1
        omega
      · exact h2
    · split
      · show ¬ (-1 : Int) = y.bg
        omega
      · exact h3
    · split
      · right; rfl
      · split
        · rcases h4 with h4 | h4
          · by_cases e : x.en = -1
            · right; rw [e]; rfl
            · exact .inl e
          · exact .inr h4
        · exact h4
  · rw [cutX_go, cutX_go]
    cases hg : (x.go == y.go) with
    | false => rfl
    | true =>
      have q2 := q.2
      rw [hg, Bool.true_and, Bool.and_eq_false_iff] at q2
      have one : ∀ a b : Cl, b.bg ≤ m → endB a b = true → endB (cutX m a) (cutX m b) = true := fun a b hb e => by
        have e' := e
        unfold endB at e'
        rw [Bool.and_eq_true, decide_eq_true_eq] at e'
        have : cutX m a = a := by unfold cutX; exact if_neg (by have := e'.2; omega)
        rw [this]
        unfold endB at *
        rw [cutX_bg]
        exact e
      rcases q2 with e | e
      · rw [one x y bY (by simpa using e)]; rfl
      · rw [one y x bx (by simpa using e)]; simp
theorem RightH.part {k m : Int} {h : List Cl} (r : RightH k h) : RightH k (partH m h) := by
  refine ⟨r.kd, Nat.le_trans (List.length_filterMap_le _ _) r.n, fun y hy => ?_, ?_⟩
  · obtain ⟨x, hx, e⟩ := List.mem_filterMap.mp hy
    obtain ⟨h1, rfl⟩ := cutC_of e
    have := r.c x hx
    rw [cutX_d]
    exact ⟨this.1, rc_cut this.2⟩
  · unfold partH
    rw [List.pairwise_filterMap]
    refine List.Pairwise.imp_of_mem (fun {a b} ha hb e => ?_) r.p
    intro a' ea b' eb
    obtain ⟨h1, rfl⟩ := cutC_of ea
    obtain ⟨h2, rfl⟩ := cutC_of eb
    exact cut_pair (r.c _ hb).2 (r.c _ ha).2 h2 h1 e
theorem hf_part {m : Int} {h : List Cl} {i : Nat} (hi : i < h.length) (hb : (hf h i).bg ≤ m) : hf (partH m h) (sift (cutC m) h i) = cutX m (hf h i) := by
  have := sift_at (cutC m) (hf_at hi) (cutC_some hb)
  show (partH m h).getD _ cl0 = _
  rw [List.getD_eq_getElem?_getD]
  unfold partH
  rw [this]
  rfl
theorem sift_len {m : Int} {h : List Cl} {i : Nat} (hi : i < h.length) (hb : (hf h i).bg ≤ m) : sift (cutC m) h i < (partH m h).length :=
  (List.getElem?_eq_some_iff.mp (sift_at (cutC m) (hf_at hi) (cutC_some hb))).1
theorem trim (e : Nat → Bool) : ∀ o : List Nat, ∃ u s, o = u ++ s ∧ (∀ x ∈ s, e x = false) ∧ (u = [] ∨ ∃ v z, u = v ++ [z] ∧ e z = true)
  | [] => ⟨[], [], rfl, by simp, .inl rfl⟩
  | a :: r => by
    obtain ⟨u, s, h1, h2, h3⟩ := trim e r
    rcases h3 with rfl | ⟨v, z, rfl, hz⟩
    · cases ha : e a with
      | true => exact ⟨[a], s, by rw [h1]; rfl, h2, .inr ⟨[], a, rfl, ha⟩⟩
      | false =>
        refine ⟨[], a :: s, by rw [h1]; rfl, fun x hx => ?_, .inl rfl⟩
        rcases List.mem_cons.mp hx with rfl | hx
        · exact ha
        · exact h2 x hx
    · exact ⟨a :: (v ++ [z]), s, by rw [h1]; rfl, h2, .inr ⟨a :: v, z, rfl, hz⟩⟩
theorem runC_pre {k : Int} {h : List Cl} : ∀ (u v : List Nat) (c : List Int), (runC k h c (u ++ v)).2 = true → (runC k h c u).2 = true
  | [], v, c, q => rfl
  | i :: r, v, c, q => by
    have q' : (fitC k c (hf h i) && (runC k h (nxtC k c (hf h i)) (r ++ v)).2) = true := q
    rw [Bool.and_eq_true] at q'
    show (fitC k c (hf h i) && (runC k h (nxtC k c (hf h i)) r).2) = true
    rw [q'.1, runC_pre r v _ q'.2]; rfl
theorem runC_cut {k m : Int} {h : List Cl} : ∀ (u : List Nat) (c : List Int), (∀ x ∈ u, x < h.length ∧ (hf h x).bg ≤ m) → (runC k h c u).2 = true → (runC k (partH m h) c (u.map (sift (cutC m) h))).2 = true
  | [], c, _, q => rfl
  | i :: r, c, hm, q => by
    have q' : (fitC k c (hf h i) && (runC k h (nxtC k c (hf h i)) r).2) = true := q
    rw [Bool.and_eq_true] at q'
    have hi := hm i List.mem_cons_self
    have e := hf_part hi.1 hi.2
    show (fitC k c (hf (partH m h) (sift (cutC m) h i)) && (runC k (partH m h) (nxtC k c (hf (partH m h) (sift (cutC m) h i))) (r.map (sift (cutC m) h))).2) = true
    rw [e, nxt_cut, fit_cut q'.1, runC_cut r _ (fun x hx => hm x (List.mem_cons_of_mem _ hx)) q'.2]; rfl
/-- Each beginning of a linearisable history is linearisable. -/
theorem fsB_part_of {k m : Int} {h : List Cl} (r : RightH k h) {c : List Int} {o : List Nat} (q : fsB k endB h (fun _ => false) c = some o) : ∃ o', fsB k endB (partH m h) (fun _ => false) c = some o' := by
  cases e : fsB k endB (partH m h) (fun _ => false) c with
  | some o' => exact ⟨o', rfl⟩
  | none =>
    exfalso
    have w := fst0_sound q
    have rp : RightH k (partH m h) := r.part
    obtain ⟨u, s, rfl, hs, hu⟩ := trim (fun i => !(hf h i).pend && decide ((hf h i).en ≤ m)) o
    have hm : ∀ x ∈ u ++ s, x < h.length := fun x hx => (walkP_mem w x hx).1
    have hk := (List.pairwise_append.mp (walkP_keeps w)).1
    have hn := (List.pairwise_append.mp (walkP_nodup w)).1
    have hb : ∀ x ∈ u, x < h.length ∧ (hf h x).bg ≤ m := by
      rcases hu with rfl | ⟨v, z, rfl, hz⟩
      · intro x hx; cases hx
      · intro x hx
        have hxl := hm x (List.mem_append_left _ hx)
        have hzl := hm z (List.mem_append_left _ (by simp))
        rw [Bool.and_eq_true, decide_eq_true_eq] at hz
        have hz1 : (hf h z).pend = false := by simpa using hz.1
        refine ⟨hxl, ?_⟩
        rcases List.mem_append.mp hx with hx | hx
        · have := (List.pairwise_append.mp hk).2.2 x hx z (by simp)
          unfold endB at this
          rw [hz1] at this
          simp at this
          have := hz.2
          omega
        · have : x = z := by simpa using hx
          subst this
          rcases r.time hzl with t | t
          · rw [hz1] at t; cases t
          · have := hz.2; omega
    have hne : ∀ i j, i < h.length → (hf h i).bg ≤ m → j < h.length → (hf h j).bg ≤ m → i ≠ j → sift (cutC m) h i ≠ sift (cutC m) h j := fun i j hi bi hj bj hij => by
      rcases Nat.lt_or_gt_of_ne hij with z | z
      · have := sift_lt (cutC m) (hf_at hi) (cutC_some bi) z; omega
      · have := sift_lt (cutC m) (hf_at hj) (cutC_some bj) z; omega
    have f := fsB_none (fun i j hi hj t => end_pend t) (fun i hi => rp.end_irr hi) e (u.map (sift (cutC m) h))
      (fun x hx => by
        obtain ⟨i, hi, rfl⟩ := List.mem_map.mp hx
        exact sift_len (hb i hi).1 (hb i hi).2)
      (List.pairwise_map.mpr (List.Pairwise.imp_of_mem (fun {a b} ha hb' z => hne a b (hb a ha).1 (hb a ha).2 (hb b hb').1 (hb b hb').2 z) hn))
      (List.pairwise_map.mpr (List.Pairwise.imp_of_mem (fun {a b} ha hb' z => by
        rw [hf_part (hb a ha).1 (hb a ha).2, hf_part (hb b hb').1 (hb b hb').2]
        cases y : endB (cutX m (hf h b)) (cutX m (hf h a)) with
        | false => rfl
        | true => rw [cutX_end y] at z; cases z) hk))
      (fun x hx hp => by
        obtain ⟨i, y, y', h1, h2, rfl⟩ := sift_onto (cutC m) hx
        have hi := (List.getElem?_eq_some_iff.mp h1).1
        have ey : y = hf h i := Option.some.inj (h1.symm.trans (hf_at hi))
        subst ey
        have hbg := (cutC_of h2).1
        rw [hf_part hi hbg] at hp
        obtain ⟨_, p1, p2⟩ := cutX_pend hp
        rcases walkP_all w i hi p1 with z | z
        · cases z
        · rcases List.mem_append.mp z with z | z
          · exact List.mem_map.mpr ⟨i, z, rfl⟩
          · have := hs i z
            rw [p1, decide_eq_true p2] at this
            cases this)
    rw [runC_cut u c hb (runC_pre u s c (walkP_fits w))] at f
    cases f
end Go.Proofs.Ytklpifammbnldaa.pg
/- A beginning of a linearisable history is linearisable: LinearParts, walked. -/
namespace Go.Proofs.Ytklpifammbnldaa.pg
open Go.ChangeShapes Go.WideShapes Go.ChangeAt Go.RowKit
set_option linter.unusedVariables false
set_option linter.unusedSimpArgs false
set_option maxRecDepth 100000
attribute [local go_sem ↓] Go.wp_at_zero Go.wp_at_succ
theorem infoCl : (Try.prog.info? 53).map (fun i => (i.zero, i.size, i.bytes)) = some (some (.agg zCl), 7, 56) := by kernel_rfl
/-- What is taken of the first i operations. -/
def paT (m : Int) (h : List Cl) (i : Nat) : List Cl := (h.take i).filterMap (cutC m)
theorem paT_zero (m : Int) (h : List Cl) : paT m h 0 = [] := by unfold paT; rw [List.take_zero]; rfl
theorem paT_all (m : Int) (h : List Cl) : paT m h h.length = partH m h := by unfold paT; rw [List.take_length]; rfl
theorem paT_skip {m : Int} {h : List Cl} {i : Nat} (hi : i < h.length) (q : m < (hf h i).bg) : paT m h (i + 1) = paT m h i := by
  unfold paT
  rw [List.take_add_one, hf_at hi, List.filterMap_append]
  have : cutC m (hf h i) = none := by unfold cutC; rw [if_pos q]
  simp [this]
theorem paT_step {m : Int} {h : List Cl} {i : Nat} (hi : i < h.length) (q : ¬ m < (hf h i).bg) : paT m h (i + 1) = paT m h i ++ [cutX m (hf h i)] := by
  unfold paT
  rw [List.take_add_one, hf_at hi, List.filterMap_append]
  have : cutC m (hf h i) = some (cutX m (hf h i)) := cutC_some (by omega)
  simp [this]
theorem paT_len (m : Int) (h : List Cl) (i : Nat) : (paT m h i).length ≤ h.length := by
  unfold paT
  exact Nat.le_trans (List.length_filterMap_le _ _) (by rw [List.length_take]; omega)
theorem part_I {m : Int} {h : List Cl} (hI : ∀ x ∈ h, I64 x.inn) : ∀ x ∈ partH m h, I64 x.inn := by
  intro x hx
  unfold partH at hx
  obtain ⟨y, hy, e⟩ := List.mem_filterMap.mp hx
  rw [(cutC_of e).2, cutX_inn]
  exact hI y hy
theorem cl_rows7 (l : List Cl) : ∀ row ∈ l.map Cl.cells, row.length = 7 := by
  intro row hr
  obtain ⟨x, _, rfl⟩ := List.mem_map.mp hr
  rfl
/-- How LinearParts stands. -/
structure PaS (w X : World) (m : Int) (h : List Cl) (i n : Nat) (pa : Option Addr) (pc : Nat) : Prop where
  n : n = (paT m h i).length
  o : OwnL X w.heap.size 53 7 pa pc ((paT m h i).map Cl.cells)
  b : Below w.heap.size w X
theorem PaS.later {w X X' : World} {m : Int} {h : List Cl} {i n : Nat} {pa : Option Addr} {pc : Nat} (g : PaS w X m h i n pa pc) (hb : Below X.heap.size X X') : PaS w X' m h i n pa pc := ⟨g.n, own_keep g.o fun b hbb => hb.block b (blk_lt g.o b hbb).2, bthen g.b hb⟩
section
variable {w : World} {k : Int} {h : List Cl} {ha : Option Addr} {hc : Nat} {m : Int}
set_option maxHeartbeats 4000000 in
theorem parts_bad (hh : Rows w 7 ha hc (h.map Cl.cells)) (hI : ∀ x ∈ h, I64 x.inn) (hR : ¬ RightH k h) : Calls Try.prog 8 #[.int .i64 k, .slice ha h.length hc, .int .i64 m] w fun e w' => e = .returned (.bool true) ∧ Below w.heap.size w w' := by
  have hhH : Hid (∀ wx, Below w.heap.size w wx → Rows wx 7 ha hc (h.map Cl.cells)) := fun wx q => hh.later q
  have cL : ∀ wx, Below w.heap.size w wx → Calls Try.prog 11 #[.int .i64 k, .slice ha h.length hc] wx _ := fun wx q => linear_any (hhH.out wx q) hI
  have cC : ∀ wx, Below w.heap.size w wx → Calls Try.prog 9 #[.int .i64 k, .slice ha h.length hc] wx _ := fun wx q => rcheckH_any (hhH.out wx q)
  have cS : ∀ wx, Calls Try.prog 13 #[] wx _ := fun wx => speaks_lin wx
  have hRH : Hid (¬ RightH k h) := hR
  clear hh hI hR
  go_enter Try.func8, Try.ntmps8
  go_wp2_with (first
    | (go_at_call 11; (with_reducible refine (cL _ (Below.refl _ _)).mono ?_); rintro e w1 ⟨a1, n1, c1, b1, x1, rfl, hF, hb⟩; (obtain ⟨rfl, rfl, rfl, rfl, rfl⟩ := findV_bad hF hRH.out); (have hB1 : Hid (Below w.heap.size w w1) := hb); clear hF hb cL)
    | (go_at_call 9; (with_reducible refine (cC _ hB3.out).mono ?_); rintro e w4 ⟨hq, hb⟩; (obtain rfl := (hq.elim (fun q => absurd q.1 hRH.out) (fun q => q.2))); (have hB4 : Hid (Below w.heap.size w w4) := bthen hB3.out hb); clear hb hq)
    | (go_at_call 9; (with_reducible refine (cC _ hB1.out).mono ?_); rintro e w3 ⟨hq, hb⟩; (obtain rfl := (hq.elim (fun q => absurd q.1 hRH.out) (fun q => q.2))); (have hB3 : Hid (Below w.heap.size w w3) := bthen hB1.out hb); clear hb hq)
    | (go_at_call 13; (with_reducible refine (cS _).mono ?_); rintro e w9 ⟨rfl, hb⟩; (have hB9 : Hid (Below w.heap.size w w9) := bthen hB4.out hb); clear hb))
  go_ret
  exact ⟨rfl, hB9.out⟩
set_option maxHeartbeats 4000000 in
theorem parts_none (hh : Rows w 7 ha hc (h.map Cl.cells)) (hI : ∀ x ∈ h, I64 x.inn) (hR : RightH k h) (h1 : fsB k endB h (fun _ => false) (firstC k) = none) : Calls Try.prog 8 #[.int .i64 k, .slice ha h.length hc, .int .i64 m] w fun e w' => e = .returned (.bool true) ∧ Below w.heap.size w w' := by
  have hhH : Hid (∀ wx, Below w.heap.size w wx → Rows wx 7 ha hc (h.map Cl.cells)) := fun wx q => hh.later q
  have cL : ∀ wx, Below w.heap.size w wx → Calls Try.prog 11 #[.int .i64 k, .slice ha h.length hc] wx _ := fun wx q => linear_any (hhH.out wx q) hI
  have cC : ∀ wx, Below w.heap.size w wx → Calls Try.prog 9 #[.int .i64 k, .slice ha h.length hc] wx _ := fun wx q => rcheckH_any (hhH.out wx q)
  have cS : ∀ wx, Calls Try.prog 13 #[] wx _ := fun wx => speaks_lin wx
  have hRH : Hid (RightH k h) := hR
  have hf1 : Hid (fsB k endB h (fun _ => false) (firstC k) = none) := h1
  clear hh hI hR h1
  go_enter Try.func8, Try.ntmps8
  go_wp2_with (first
    | (go_at_call 11; (with_reducible refine (cL _ (Below.refl _ _)).mono ?_); rintro e w1 ⟨a1, n1, c1, b1, x1, rfl, hF, hb⟩; (obtain ⟨rfl, rfl, rfl, rfl, rfl⟩ := findV_none hF hRH.out hf1.out); (have hB1 : Hid (Below w.heap.size w w1) := hb); clear hF hb cL)
    | (go_at_call 9; (with_reducible refine (cC _ hB3.out).mono ?_); rintro e w4 ⟨hq, hb⟩; (obtain rfl := (hq.elim (fun q => q.2) (fun q => absurd hRH.out q.1))); (have hB4 : Hid (Below w.heap.size w w4) := bthen hB3.out hb); clear hb hq)
    | (go_at_call 9; (with_reducible refine (cC _ hB1.out).mono ?_); rintro e w3 ⟨hq, hb⟩; (obtain rfl := (hq.elim (fun q => q.2) (fun q => absurd hRH.out q.1))); (have hB3 : Hid (Below w.heap.size w w3) := bthen hB1.out hb); clear hb hq)
    | (go_at_call 13; (with_reducible refine (cS _).mono ?_); rintro e w9 ⟨rfl, hb⟩; (have hB9 : Hid (Below w.heap.size w w9) := bthen hB4.out hb); clear hb))
  go_ret
  exact ⟨rfl, hB9.out⟩
set_option maxHeartbeats 8000000 in
theorem parts_some {r : List Nat} (hh : Rows w 7 ha hc (h.map Cl.cells)) (hI : ∀ x ∈ h, I64 x.inn) (hR : RightH k h) (h1 : fsB k endB h (fun _ => false) (firstC k) = some r) {r2 : List Nat} (h2 : fsB k endB (partH m h) (fun _ => false) (firstC k) = some r2) : Calls Try.prog 8 #[.int .i64 k, .slice ha h.length hc, .int .i64 m] w fun e w' => e = .returned (.bool true) ∧ Below w.heap.size w w' := by
  have hhH : Hid (∀ wx, Below w.heap.size w wx → Rows wx 7 ha hc (h.map Cl.cells)) := fun wx q => hh.later q
  have cL : ∀ wx, Below w.heap.size w wx → Calls Try.prog 11 #[.int .i64 k, .slice ha h.length hc] wx _ := fun wx q => linear_any (hhH.out wx q) hI
  have cC : ∀ wx, Below w.heap.size w wx → Calls Try.prog 9 #[.int .i64 k, .slice ha h.length hc] wx _ := fun wx q => rcheckH_any (hhH.out wx q)
  have cS : ∀ wx, Calls Try.prog 13 #[] wx _ := fun wx => speaks_lin wx
  have hRH : Hid (RightH k h) := hR
  have hRp : Hid (RightH k (partH m h)) := hR.part
  have hf1 : Hid (fsB k endB h (fun _ => false) (firstC k) = some r) := h1
  have hfp : Hid (fsB k endB (partH m h) (fun _ => false) (firstC k) = some r2) := h2
  have hIp : Hid (∀ x ∈ partH m h, I64 x.inn) := part_I hI
  have huX : Hid (Try.prog.underlying 53 = _) := Try.underlying53
  have hn8 : h.length ≤ 8 := hR.n
  obtain ⟨iX, hiX', hzX', hsX', hbX'⟩ := info_q infoCl
  have hiX : Hid _ := hiX'
  have hzX : Hid _ := hzX'
  have hsX : Hid _ := hsX'
  have hbX : Hid _ := hbX'
  clear hh hI hR h1 h2 hiX' hzX' hsX' hbX'
  go_enter Try.func8, Try.ntmps8
  go_upto_region 4 with (first
    | (go_at_call 11; (with_reducible refine (cL _ (Below.refl _ _)).mono ?_); rintro e w1 ⟨a1, n1, c1, b1, x1, rfl, hF, hb⟩; ((obtain ⟨hn1, rfl, rfl, ho1, _⟩ := findV_some hF hRH.out hf1.out); subst hn1); (have hB1 : Hid (Below w.heap.size w w1) := hb); clear hF hb cL)
    | (go_at_call 9; (with_reducible refine (cC _ hB1.out).mono ?_); rintro e w3 ⟨hq, hb⟩; (obtain rfl := (hq.elim (fun q => q.2) (fun q => absurd hRH.out q.1))); (have hB3 : Hid (Below w.heap.size w w3) := bthen hB1.out hb); clear hb hq))
  go_wp2_with fail
  have hP0 : Hid (PaS w w3 m h 0 0 none 0) := ⟨by rw [paT_zero]; rfl, by rw [paT_zero]; exact own_nil_q _ _ _ _, hB3.out⟩
  clear hB1 hB3 cC
  go_loopw [10, 11] (fun u v wr => ∃ (i n : Nat) (pa : Option Addr) (pc : Nat), i ≤ h.length ∧ u = .slice pa n pc ∧ v = .int .i64 (i : Int) ∧ Hid (PaS w wr m h i n pa pc)) (fun _ v _ => h.length - (intOf v).toNat)
  case atStart => exact ⟨0, 0, none, 0, Nat.zero_le _, rfl, rfl, hP0⟩
  case round =>
    obtain ⟨i, n, pa, pc, hi, rfl, rfl, hP⟩ := hrel
    clear hP0
    by_cases hlt : i < h.length
    · have hiI : (i : Int) < h.length := by omega
      obtain ⟨b1, o1, x1, _, r1⟩ := cl_ix (hhH.out _ hP.out.b) hlt
      obtain ⟨x, hx⟩ : ∃ x, hf h i = x := ⟨_, rfl⟩
      have hxH : Hid (hf h i = x) := hx
      rw [hx] at r1
      have r1H : Hid (wr.rangeAt b1 o1 [.int .i64 x.go, .int .i64 x.d, .int .i64 x.inn, .int .i64 x.out, .bool x.em, .int .i64 x.bg, .int .i64 x.en]) := r1
      clear r1 hx
      go_upto_region 9 with ((with_reducible refine at_loadL 53 (.tmp 49) rfl ?_); refine stopL_out ?_; refine wpList_load_mid rfl 53 _ rfl b1 o1 rfl [.int .i64 x.go, .int .i64 x.d, .int .i64 x.inn, .int .i64 x.out, .bool x.em, .int .i64 x.bg, .int .i64 x.en] _ r1H.out huX.out rfl infoX ?_)
      have hP1 : Hid (PaS w (wr.alloc (oCl x)) m h i n pa pc ∧ (wr.alloc (oCl x)).heap[wr.heap.size]? = some (oCl x)) := ⟨hP.out.later (boxed _ _), heap_alloc_new _ _⟩
      have hpl : Hid (∀ b ∈ blk pa, b ≠ wr.heap.size) := fun b hb => Nat.ne_of_lt (blk_lt hP.out.o b hb).2
      have hwl : Hid (w.heap.size ≤ wr.heap.size) := hP.out.b.size
      obtain ⟨V, hV⟩ : ∃ V, wr.alloc (oCl x) = V := ⟨_, rfl⟩
      rw [hV] at hP1 ⊢
      generalize wr.heap.size = CB at *
      clear hP r1H hV x1
      obtain ⟨k0, k1, k2, k3, k4, k5, k6⟩ := cl7 hP1.out.2
      by_cases hb : m < x.bg
      · have hP7 : Hid (PaS w V m h (i + 1) n pa pc) := by
          have e := paT_skip hlt (by rw [hxH.out]; exact hb)
          have q := hP1.out.1
          exact ⟨by rw [e]; exact q.n, by rw [e]; exact q.o, q.b⟩
        clear hP1 hxH
        go_wp2
        go_roundw
        case rel => exact ⟨i + 1, n, pa, pc, by omega, rfl, by go_num, hP7.out⟩
        case measure => simp [intOf]; omega
      · have hnb : Hid (¬ m < (hf h i).bg) := by (show ¬ _; rw [hxH.out]; exact hb)
        by_cases he : m < x.en
        · have hcx : Hid (cutX m x = { x with en := -1, out := 0, em := false }) := by (show _ = _; unfold cutX; rw [if_pos he])
          go_upto_region 14 with (first
            | (refine wpList_puti rfl 3 _ _ rfl ⟨CB, 6, none⟩ rfl (-1) rfl (by kernel_rfl) _ k6 (frozen_of_row _ _ _ _ _ hP1.out.2) fun V1 hV1 => ?_; (have hq1 : Hid (V1 = V.setRow CB (Cl.cells { x with en := -1 }).toArray) := by (show _ = _; rw [hV1]; exact setCell_eq_setRow V CB 6 _ _ _ _ hP1.out.2)); clear hV1)
            | (refine wpList_puti rfl 2 _ _ rfl ⟨CB, 3, none⟩ rfl 0 rfl (by kernel_rfl) (.int .i64 x.out) (by rw [hq1.out]; exact cell_lc (k := 3) (setRow_heap _ _ _ _ _ _ hP1.out.2) rfl) (by rw [hq1.out]; exact frozen_of_row _ _ _ _ _ (setRow_heap _ _ _ _ _ _ hP1.out.2)) fun V2 hV2 => ?_; (have hq2 : Hid (V2 = V.setRow CB (Cl.cells { x with en := -1, out := 0 }).toArray) := by (show _ = _; rw [hV2, hq1.out, setCell_eq_setRow _ CB 3 _ _ _ _ (setRow_heap _ _ _ _ _ _ hP1.out.2), setRow_setRow]; rfl)); clear hV2 hq1)
            | (refine wpList_putb rfl 4 _ _ rfl ⟨CB, 4, none⟩ rfl false rfl (by kernel_rfl) (.bool x.em) (by rw [hq2.out]; exact cell_lc (k := 4) (setRow_heap _ _ _ _ _ _ hP1.out.2) rfl) (by rw [hq2.out]; exact frozen_of_row _ _ _ _ _ (setRow_heap _ _ _ _ _ _ hP1.out.2)) fun V3 hV3 => ?_; (have hq3 : Hid (V3 = V.setRow CB (Cl.cells { x with en := -1, out := 0, em := false }).toArray) := by (show _ = _; rw [hV3, hq2.out, setCell_eq_setRow _ CB 4 _ _ _ _ (setRow_heap _ _ _ _ _ _ hP1.out.2), setRow_setRow]; rfl)); clear hV3 hq2))
          clear k0 k1 k2 k3 k4 k5 k6
          have hPc : Hid (PaS w V3 m h i n pa pc ∧ V3.heap[CB]? = some (oCl { x with en := -1, out := 0, em := false })) := by (rw [hq3.out]; exact ⟨⟨hP1.out.1.n, own_keep hP1.out.1.o fun b hb => setRow_other _ _ _ _ (hpl.out b hb), below_setRow hP1.out.1.b hwl.out _⟩, setRow_heap _ _ _ _ _ _ hP1.out.2⟩)
          clear hP1
          go_wp2_with (first
            | ((with_reducible refine at_loadL 53 (.tmp 12) rfl ?_); refine stopL_out ?_; refine wpList_load_row rfl 53 _ rfl CB rfl _ _ _ _ hPc.out.2 huX.out rfl infoX ?_)
            | (at_builtin; (refine wpList_app1 rfl (.tmp 62) (.tmp 64) 22 rfl w.heap.size 53 iX _ 7 56 Try.underlying22 hiX.out hzX.out hsX.out hbX.out rfl (by decide) pa pc ((paT m h i).map Cl.cells) (by rw [List.length_map, ← hPc.out.1.n]; rfl) hPc.out.1.o (Cl.cells { x with en := -1, out := 0, em := false }) rfl rfl (by simp [Cl.cells, Value.oneCell']) (by rw [List.length_map]; have := paT_len m h i; unfold maxLen; omega) (by rw [List.length_map]; have := paT_len m h i; omega) hPc.out.1.b.size ?_); intro va vc w7 hg; rw [List.length_map, ← hPc.out.1.n]))
          have hP7 : Hid (PaS w w7 m h (i + 1) (n + 1) va vc) := by
            have e := paT_step hlt hnb.out
            rw [hxH.out, hcx.out] at e
            refine ⟨?_, ?_, ?_⟩
            · rw [e, List.length_append, ← hPc.out.1.n]; rfl
            · rw [e, List.map_append]; exact hg.ow
            · have := hg.be
              rw [Nat.min_eq_left hPc.out.1.b.size] at this
              exact hPc.out.1.b.trans this
          clear hg hPc hnb hxH
          go_roundw
          case rel => exact ⟨i + 1, n + 1, va, vc, by omega, rfl, by go_num, hP7.out⟩
          case measure => simp [intOf]; omega
        · have hcx : Hid (cutX m x = x) := by (show _ = _; unfold cutX; rw [if_neg he])
          go_upto_region 14 with fail
          clear k0 k1 k2 k3 k4 k5 k6
          have hPc : Hid (PaS w V m h i n pa pc ∧ V.heap[CB]? = some (oCl x)) := hP1.out
          clear hP1
          go_wp2_with (first
            | ((with_reducible refine at_loadL 53 (.tmp 12) rfl ?_); refine stopL_out ?_; refine wpList_load_row rfl 53 _ rfl CB rfl _ _ _ _ hPc.out.2 huX.out rfl infoX ?_)
            | (at_builtin; (refine wpList_app1 rfl (.tmp 62) (.tmp 64) 22 rfl w.heap.size 53 iX _ 7 56 Try.underlying22 hiX.out hzX.out hsX.out hbX.out rfl (by decide) pa pc ((paT m h i).map Cl.cells) (by rw [List.length_map, ← hPc.out.1.n]; rfl) hPc.out.1.o (Cl.cells x) rfl rfl (by simp [Cl.cells, Value.oneCell']) (by rw [List.length_map]; have := paT_len m h i; unfold maxLen; omega) (by rw [List.length_map]; have := paT_len m h i; omega) hPc.out.1.b.size ?_); intro va vc w7 hg; rw [List.length_map, ← hPc.out.1.n]))
          have hP7 : Hid (PaS w w7 m h (i + 1) (n + 1) va vc) := by
            have e := paT_step hlt hnb.out
            rw [hxH.out, hcx.out] at e
            refine ⟨?_, ?_, ?_⟩
            · rw [e, List.length_append, ← hPc.out.1.n]; rfl
            · rw [e, List.map_append]; exact hg.ow
            · have := hg.be
              rw [Nat.min_eq_left hPc.out.1.b.size] at this
              exact hPc.out.1.b.trans this
          clear hg hPc hnb hxH
          go_roundw
          case rel => exact ⟨i + 1, n + 1, va, vc, by omega, rfl, by go_num, hP7.out⟩
          case measure => simp [intOf]; omega
    · have hie : i = h.length := by omega
      have hiI : ¬ (i : Int) < h.length := by omega
      have hPe : Hid (n = (partH m h).length ∧ Rows wr 7 pa pc ((partH m h).map Cl.cells) ∧ Below w.heap.size w wr) := by
        have q := hP.out
        rw [hie] at q
        exact ⟨by rw [← paT_all]; exact q.n, by rw [← paT_all]; exact own_rows q.o (cl_rows7 _), q.b⟩
      have cP := linear_any (k := k) hPe.out.2.1 hIp.out
      rw [← hPe.out.1] at cP
      clear hP
      go_wp2_with (first
        | (go_at_call 11; (with_reducible refine cP.mono ?_); rintro e w5 ⟨a5, n5, c5, b5, x5, rfl, hF, hb⟩; (obtain ⟨rfl, rfl, rfl, _, _⟩ := findV_some hF hRp.out hfp.out); (have hB5 : Hid (Below w.heap.size w w5) := bthen hPe.out.2.2 hb); clear hF hb cP)
        | (go_at_call 13; (with_reducible refine (cS _).mono ?_); rintro e w9 ⟨rfl, hb⟩; (have hB9 : Hid (Below w.heap.size w w9) := bthen hB5.out hb); clear hb))
      go_ret
      exact ⟨rfl, hB9.out⟩
end
theorem parts_row (k : Int) (h : List Cl) (ha : Option Addr) (hc : Nat) (m : Int) (w : World) (_ : (Lit.int .i64 k).wf = true) (hin : ClsIn w ha hc h) (_ : (Lit.int .i64 m).wf = true) : Calls Try.prog 8 #[.int .i64 k, .slice ha h.length hc, .int .i64 m] w fun e w' => e = .returned (.bool true) ∧ Below w.heap.size w w' := by
  by_cases hR : RightH k h
  · cases h1 : fsB k endB h (fun _ => false) (firstC k) with
    | none => exact parts_none hin.1 hin.i hR h1
    | some r1 =>
      obtain ⟨r2, h2⟩ := fsB_part_of (m := m) hR h1
      exact parts_some hin.1 hin.i hR h1 h2
  · exact parts_bad hin.1 hin.i hR
end Go.Proofs.Ytklpifammbnldaa.pg
/- An operation done, in the document's own words. -/
namespace Go.Proofs.Ytklpifammbnldaa.pg
open Go.ChangeShapes Go.WideShapes Go.ChangeAt Go.RowKit
set_option linter.unusedVariables false
set_option linter.unusedSimpArgs false
set_option maxRecDepth 100000
attribute [local go_sem ↓] Go.wp_at_zero Go.wp_at_succ
abbrev TD6 : TypeId := 75
abbrev dV (n : Int) (a : Option Addr) (m c : Nat) : List Value := [.int .i64 n, .slice a m c]
abbrev oDg (n : Int) (a : Option Addr) (m c : Nat) : Obj := .cells #[.int .i64 n, .slice a m c] TD6
theorem infoDg : (Try.prog.info? TD6).map (·.size) = some 2 := by kernel_rfl
theorem zeroDg : ∀ w, (zeroValue TD6).run Try.prog w = .ok (.agg #[.int .i64 0, .slice none 0 0]) w := fun w => by kernel_rfl
theorem bld_D0 (n : Int) : ∀ w, (Instr.build TD6 #[(0, .int .i64 n)]).run Try.prog w = .ok (.agg #[.int .i64 n, .slice none 0 0]) w := fun w => by kernel_rfl
theorem bld_D1 (a : Option Addr) (m c : Nat) : ∀ w, (Instr.build TD6 #[(1, .slice a m c)]).run Try.prog w = .ok (.agg #[.int .i64 0, .slice a m c]) w := fun w => by kernel_rfl
theorem dg_one (n : Int) (a : Option Addr) (m c : Nat) : (#[.int .i64 n, .slice a m c] : Array Value).all (·.oneCell') = true := by simp [Value.oneCell']
/-- A thing, in the document's own words. -/
def RepD (w : World) (k : Int) (c : List Int) (n : Int) (a : Option Addr) (m lc : Nat) : Prop :=
  ((k = 1 ∨ k = 2) ∧ c = [n] ∧ a = none ∧ m = 0 ∧ lc = 0) ∨ ((k = 3 ∨ k = 4) ∧ n = 0 ∧ m = c.length ∧ Rows w 1 a lc (c.map chCells))
theorem RepD.later {w w' : World} {k : Int} {c : List Int} {n : Int} {a : Option Addr} {m lc : Nat} (g : RepD w k c n a m lc) (hb : Below w.heap.size w w') : RepD w' k c n a m lc := g.imp_right fun ⟨h1, h2, h3, h4⟩ => ⟨h1, h2, h3, h4.later hb⟩
theorem repD_zero (w : World) {k : Int} (hk : 1 ≤ k ∧ k ≤ 4) : RepD w k (firstC k) 0 none 0 0 := by
  unfold firstC
  by_cases e : k = 1 ∨ k = 2
  · rw [if_pos e]; exact .inl ⟨e, rfl, rfl, rfl, rfl⟩
  · rw [if_neg e]; exact .inr ⟨by omega, rfl, rfl, ⟨Nat.le_refl _, by decide, fun _ => ⟨rfl, rfl⟩, .inl rfl⟩⟩
/-- What is returned: a thing in its cell, and a truth. -/
theorem results_d2 {fn : Func} {p q : Tmp} (h : fn.results = #[.cell p TD6, .tmp q]) (tmps : Array Value) (w : World) (B : Nat) (cs : Array Value) (v : Value) (hp : tmps.getD p undef = .pointer (some ⟨B, 0, none⟩)) (hq : tmps.getD q undef = v) (hs : cs.size = 2) (hB : w.heap[B]? = some (.cells cs TD6)) :
    (results fn tmps).run Try.prog w = .ok (.tuple #[.agg cs, v]) w := by
  have hp' : tmps[p]?.getD undef = .pointer (some ⟨B, 0, none⟩) := by simpa using hp
  have hq' : tmps[q]?.getD undef = v := by simpa using hq
  simp [results, h, hp', hq', asAddr, run_loadVar_row w B _ TD6 _ _ _ hB Try.underlying75 rfl (by rw [hs]; kernel_rfl)]
/-- How the document's do stands. -/
structure DoS (w X : World) (n : Int) (a : Option Addr) (m lc : Nat) (x : Cl) : Prop where
  t : X.heap[w.heap.size]? = some (oDg n a m lc)
  x : X.heap[w.heap.size + 1]? = some (oCl x)
  r : X.heap[w.heap.size + 1 + 1]? = some (oDg 0 none 0 0)
  b : Below w.heap.size w X
theorem DoS.start (w : World) (n : Int) (a : Option Addr) (m lc : Nat) (x : Cl) : DoS w (((w.alloc (oDg n a m lc)).alloc (oCl x)).alloc (oDg 0 none 0 0)) n a m lc x := by
  have n2 := heap_alloc_new (w.alloc (oDg n a m lc)) (oCl x)
  have n3 := heap_alloc_new ((w.alloc (oDg n a m lc)).alloc (oCl x)) (oDg 0 none 0 0)
  rw [World.size_alloc] at n2 n3
  rw [World.size_alloc] at n3
  exact ⟨blk_on (blk_on (heap_alloc_new _ _) (boxed _ _)) (boxed _ _), blk_on n2 (boxed _ _), n3, bthen (bthen (boxed _ _) (boxed _ _)) (boxed _ _)⟩
theorem DoS.later {w X X' : World} {n : Int} {a : Option Addr} {m lc : Nat} {x : Cl} (g : DoS w X n a m lc x) (hb : Below X.heap.size X X') : DoS w X' n a m lc x := ⟨blk_on g.t hb, blk_on g.x hb, blk_on g.r hb, bthen g.b hb⟩
theorem DoS.cells {w X : World} {n : Int} {a : Option Addr} {m lc : Nat} {x : Cl} (g : DoS w X n a m lc x) : X.cell? ⟨w.heap.size, 0, none⟩ = some (.int .i64 n) ∧ X.cell? ⟨w.heap.size, 1, none⟩ = some (.slice a m lc) ∧ X.cell? ⟨w.heap.size + 1, 1, none⟩ = some (.int .i64 x.d) ∧ X.cell? ⟨w.heap.size + 1, 2, none⟩ = some (.int .i64 x.inn) ∧ X.cell? ⟨w.heap.size + 1, 3, none⟩ = some (.int .i64 x.out) ∧ X.cell? ⟨w.heap.size + 1, 4, none⟩ = some (.bool x.em) ∧ X.cell? ⟨w.heap.size + 1, 6, none⟩ = some (.int .i64 x.en) :=
  ⟨cell_lc (k := 0) g.t rfl, cell_lc (k := 1) g.t rfl, cell_lc (k := 1) g.x rfl, cell_lc (k := 2) g.x rfl, cell_lc (k := 3) g.x rfl, cell_lc (k := 4) g.x rfl, cell_lc (k := 6) g.x rfl⟩
/-- What the document's do answers. -/
def RdoP (w : World) (k : Int) (c : List Int) (x : Cl) (e : Ending) (w' : World) : Prop :=
  ∃ (n : Int) (a : Option Addr) (m lc : Nat), e = .returned (.tuple #[.agg #[.int .i64 n, .slice a m lc], .bool (fitC k c x)]) ∧ RepD w' k (nxtC k c x) n a m lc ∧ Below w.heap.size w w'
/-- What a right operation tells of itself. -/
theorem right_fit {x : Cl} (h : rcB x = true) : (x.d ≠ 5 → x.em = false) ∧ (x.d ≠ 1 → x.d ≠ 5 → x.out = 0) ∧ (x.em = true → x.out = 0 ∧ x.pend = false) := by
  unfold rcB rvB takesB tellsB at h
  simp only [Bool.and_eq_true, Bool.or_eq_true, Bool.not_eq_true', beq_iff_eq, decide_eq_true_eq] at h
  obtain ⟨⟨⟨_, _⟩, _⟩, ⟨_, h2⟩, h3⟩ := h
  refine ⟨fun q => ?_, fun q1 q2 => ?_, fun q => ?_⟩
  · rcases h2 with h2 | h2
    · exact h2
    · exact absurd h2.1 q
  · rcases h3 with h3 | h3
    · exact h3
    · rcases h3.1.1 with z | z
      · exact absurd z q1
      · exact absurd z q2
  · rw [q] at h2 h3
    refine ⟨h3.elim id fun z => by simp at z, h2.elim (fun z => by cases z) fun z => z.2⟩
section
variable {w : World}
set_option maxHeartbeats 4000000 in
theorem rdo_2 (k n : Int) (a : Option Addr) (m lc : Nat) (x : Cl) (hd : x.d = 2) : Calls Try.prog 36 #[.int .i64 k, .agg #[.int .i64 n, .slice a m lc], x.val] w fun e w' => e = .returned (.tuple #[.agg #[.int .i64 x.inn, .slice none 0 0], .bool true]) ∧ Below w.heap.size w w' := by
  have hbs : ∀ wx, (Instr.build TD6 #[(0, .int .i64 x.inn)]).run Try.prog wx = .ok (.agg #[.int .i64 x.inn, .slice none 0 0]) wx := bld_D0 _
  have hdH : Hid (x.d = _) := hd
  clear hd
  have hS0 : Hid (DoS w _ n a m lc x) := DoS.start w n a m lc x
  go_enter Try.func36, Try.ntmps36
  go_upto_region 1 with fail
  obtain ⟨X, hX⟩ : ∃ X, ((w.alloc (oDg n a m lc)).alloc (oCl x)).alloc (oDg 0 none 0 0) = X := ⟨_, rfl⟩
  rw [hX] at hS0 ⊢
  obtain ⟨k0, k1, k2, k3, k4, k5, k6⟩ := hS0.out.cells
  rw [hdH.out] at k2
  clear hX
  go_wp2_with (first
    | ((with_reducible refine at_buildL TD6 _ rfl ?_); refine stopL_out ?_; refine wpList_bldL rfl TD6 _ rfl #[(0, .int .i64 x.inn)] (by simp only [List.map_toArray, List.map_cons, List.map_nil]; rfl) _ hbs ?_)
    | ((with_reducible refine at_storeL TD6 _ _ rfl ?_); refine stopL_out ?_; refine wpList_store_row rfl TD6 _ _ rfl (w.heap.size + 1 + 1) #[.int .i64 x.inn, .slice none 0 0] rfl rfl _ _ hS0.out.r infoDg rfl (dg_one _ _ _ _) ?_))
  exact bodyPost_ret (results_d2 Try.results36 _ _ (w.heap.size + 1 + 1) #[.int .i64 x.inn, .slice none 0 0] (.bool true) rfl rfl rfl (setRow_heap _ _ _ _ _ _ hS0.out.r)) rfl ⟨rfl, below_setRow hS0.out.b (by omega) _⟩
set_option maxHeartbeats 4000000 in
theorem rdo_3 (k n : Int) (a : Option Addr) (m lc : Nat) (x : Cl) (hd : x.d = 3) : Calls Try.prog 36 #[.int .i64 k, .agg #[.int .i64 n, .slice a m lc], x.val] w fun e w' => e = .returned (.tuple #[.agg #[.int .i64 (wrap64 (n + x.inn)), .slice none 0 0], .bool true]) ∧ Below w.heap.size w w' := by
  have hbs : ∀ wx, (Instr.build TD6 #[(0, .int .i64 (wrap64 (n + x.inn)))]).run Try.prog wx = .ok (.agg #[.int .i64 (wrap64 (n + x.inn)), .slice none 0 0]) wx := bld_D0 _
  have hdH : Hid (x.d = _) := hd
  clear hd
  have hS0 : Hid (DoS w _ n a m lc x) := DoS.start w n a m lc x
  go_enter Try.func36, Try.ntmps36
  go_upto_region 1 with fail
  obtain ⟨X, hX⟩ : ∃ X, ((w.alloc (oDg n a m lc)).alloc (oCl x)).alloc (oDg 0 none 0 0) = X := ⟨_, rfl⟩
  rw [hX] at hS0 ⊢
  obtain ⟨k0, k1, k2, k3, k4, k5, k6⟩ := hS0.out.cells
  rw [hdH.out] at k2
  clear hX
  go_wp2_with (first
    | ((with_reducible refine at_buildL TD6 _ rfl ?_); refine stopL_out ?_; refine wpList_bldL rfl TD6 _ rfl #[(0, .int .i64 (wrap64 (n + x.inn)))] (by simp only [List.map_toArray, List.map_cons, List.map_nil]; rfl) _ hbs ?_)
    | ((with_reducible refine at_storeL TD6 _ _ rfl ?_); refine stopL_out ?_; refine wpList_store_row rfl TD6 _ _ rfl (w.heap.size + 1 + 1) #[.int .i64 (wrap64 (n + x.inn)), .slice none 0 0] rfl rfl _ _ hS0.out.r infoDg rfl (dg_one _ _ _ _) ?_))
  exact bodyPost_ret (results_d2 Try.results36 _ _ (w.heap.size + 1 + 1) #[.int .i64 (wrap64 (n + x.inn)), .slice none 0 0] (.bool true) rfl rfl rfl (setRow_heap _ _ _ _ _ _ hS0.out.r)) rfl ⟨rfl, below_setRow hS0.out.b (by omega) _⟩
set_option maxHeartbeats 4000000 in
theorem rdo_1 (k n : Int) (a : Option Addr) (m lc : Nat) (x : Cl) (hd : x.d = 1) (p : Bool) (hp : (x.en != -1) = p) : Calls Try.prog 36 #[.int .i64 k, .agg #[.int .i64 n, .slice a m lc], x.val] w fun e w' => e = .returned (.tuple #[.agg #[.int .i64 n, .slice a m lc], .bool (!p || x.out == n)]) ∧ Below w.heap.size w w' := by
  have hdH : Hid (x.d = _) := hd
  clear hd
  have hS0 : Hid (DoS w _ n a m lc x) := DoS.start w n a m lc x
  go_enter Try.func36, Try.ntmps36
  go_upto_region 1 with fail
  obtain ⟨X, hX⟩ : ∃ X, ((w.alloc (oDg n a m lc)).alloc (oCl x)).alloc (oDg 0 none 0 0) = X := ⟨_, rfl⟩
  rw [hX] at hS0 ⊢
  obtain ⟨k0, k1, k2, k3, k4, k5, k6⟩ := hS0.out.cells
  rw [hdH.out] at k2
  clear hX
  cases p with
  | true =>
    go_upto_region 4 with fail
    have hS1 : Hid (X.drew.heap[w.heap.size]? = some (oDg n a m lc) ∧ X.drew.heap[w.heap.size + 1]? = some (oCl x)) := ⟨hS0.out.t, hS0.out.x⟩
    have hRd : Hid (∀ w' : World, w'.heap[w.heap.size]? = some (oDg n a m lc) ∧ w'.heap[w.heap.size + 1]? = some (oCl x) → w'.rangeAt w.heap.size 0 (dV n a m lc) ∧ w'.cell? ⟨w.heap.size + 1, 3, none⟩ = some (.int .i64 x.out) ∧ w'.cell? ⟨w.heap.size, 0, none⟩ = some (.int .i64 n)) := fun w' q => ⟨rng_blk q.1, cell_lc (k := 3) q.2 rfl, cell_lc (k := 0) q.1 rfl⟩
    have hSe : Hid ((X.drew.setRow (w.heap.size + 1 + 1) #[.int .i64 n, .slice a m lc]).heap[w.heap.size]? = some (oDg n a m lc) ∧ (X.drew.setRow (w.heap.size + 1 + 1) #[.int .i64 n, .slice a m lc]).heap[w.heap.size + 1]? = some (oCl x)) := ⟨(setRow_other _ _ _ _ (by omega)).trans hS1.out.1, (setRow_other _ _ _ _ (by omega)).trans hS1.out.2⟩
    refine wp_region_noPanic ?_
    refine wp_region_held_drew (S := fun w' => w'.heap[w.heap.size]? = some (oDg n a m lc) ∧ w'.heap[w.heap.size + 1]? = some (oCl x)) (by kernel_rfl) hS1.out (fun _ => ?_)
    refine reg_load (i := 0) rfl (by kernel_rfl) (by kernel_rfl) (by kernel_rfl) (fun _ _ _ _ h => h) rfl 75 _ rfl w.heap.size 0 rfl (dV n a m lc) _ (fun w' q => (hRd.out w' q).1) Try.underlying75 rfl infoDg hS1.out ?_
    simp only [Act.put, List.getElem_toArray, List.getElem_cons_succ, List.getElem_cons_zero, List.setIfInBounds_toArray, List.set_cons_zero, List.set_cons_succ]
    refine reg_move (i := 1) rfl (by kernel_rfl) (by kernel_rfl) (by kernel_rfl) (fun _ _ _ _ h => h) rfl (.bool true) (fun _ => rfl) hS1.out ?_
    simp only [Act.put, List.getElem_toArray, List.getElem_cons_succ, List.getElem_cons_zero, List.setIfInBounds_toArray, List.set_cons_zero, List.set_cons_succ]
    refine reg_move (i := 2) rfl (by kernel_rfl) (by kernel_rfl) (by kernel_rfl) (fun _ _ _ _ h => h) rfl (.bool false) (fun _ => rfl) hS1.out ?_
    simp only [Act.put, List.getElem_toArray, List.getElem_cons_succ, List.getElem_cons_zero, List.setIfInBounds_toArray, List.set_cons_zero, List.set_cons_succ]
    refine reg_move (i := 3) rfl (by kernel_rfl) (by kernel_rfl) (by kernel_rfl) (fun _ _ _ _ h => h) rfl (.bool false) (fun _ => rfl) hS1.out ?_
    simp only [Act.put, List.getElem_toArray, List.getElem_cons_succ, List.getElem_cons_zero, List.setIfInBounds_toArray, List.set_cons_zero, List.set_cons_succ]
    refine reg_move (i := 4) rfl (by kernel_rfl) (by kernel_rfl) (by kernel_rfl) (fun _ _ _ _ h => h) rfl (.pointer (some ⟨w.heap.size + 1, 3, none⟩)) (fun _ => rfl) hS1.out ?_
    simp only [Act.put, List.getElem_toArray, List.getElem_cons_succ, List.getElem_cons_zero, List.setIfInBounds_toArray, List.set_cons_zero, List.set_cons_succ]
    refine reg_load1 (i := 5) rfl (by kernel_rfl) (by kernel_rfl) (by kernel_rfl) (fun _ _ _ _ h => h) rfl 2 _ rfl ⟨w.heap.size + 1, 3, none⟩ rfl _ Try.underlying2 rfl (.int .i64 x.out) (fun w' q => (hRd.out w' q).2.1) hS1.out ?_
    simp only [Act.put, List.getElem_toArray, List.getElem_cons_succ, List.getElem_cons_zero, List.setIfInBounds_toArray, List.set_cons_zero, List.set_cons_succ]
    refine reg_move (i := 6) rfl (by kernel_rfl) (by kernel_rfl) (by kernel_rfl) (fun _ _ _ _ h => h) rfl (.pointer (some ⟨w.heap.size, 0, none⟩)) (fun _ => rfl) hS1.out ?_
    simp only [Act.put, List.getElem_toArray, List.getElem_cons_succ, List.getElem_cons_zero, List.setIfInBounds_toArray, List.set_cons_zero, List.set_cons_succ]
    refine reg_load1 (i := 7) rfl (by kernel_rfl) (by kernel_rfl) (by kernel_rfl) (fun _ _ _ _ h => h) rfl 2 _ rfl ⟨w.heap.size, 0, none⟩ rfl _ Try.underlying2 rfl (.int .i64 n) (fun w' q => (hRd.out w' q).2.2) hS1.out ?_
    simp only [Act.put, List.getElem_toArray, List.getElem_cons_succ, List.getElem_cons_zero, List.setIfInBounds_toArray, List.set_cons_zero, List.set_cons_succ]
    refine reg_move (i := 8) rfl (by kernel_rfl) (by kernel_rfl) (by kernel_rfl) (fun _ _ _ _ h => h) rfl (.bool (x.out == n)) (fun _ => rfl) hS1.out ?_
    simp only [Act.put, List.getElem_toArray, List.getElem_cons_succ, List.getElem_cons_zero, List.setIfInBounds_toArray, List.set_cons_zero, List.set_cons_succ]
    refine reg_move (i := 9) rfl (by kernel_rfl) (by kernel_rfl) (by kernel_rfl) (fun _ _ _ _ h => h) rfl (.bool (x.out == n)) (fun _ => rfl) hS1.out ?_
    simp only [Act.put, List.getElem_toArray, List.getElem_cons_succ, List.getElem_cons_zero, List.setIfInBounds_toArray, List.set_cons_zero, List.set_cons_succ]
    refine reg_one (i := 10) (by kernel_rfl) rfl rfl (wpList_store_row rfl TD6 _ _ rfl (w.heap.size + 1 + 1) #[.int .i64 n, .slice a m lc] rfl rfl _ _ (show X.drew.heap[w.heap.size + 1 + 1]? = some (oDg 0 none 0 0) from hS0.out.r) infoDg rfl (dg_one _ _ _ _) (wpList_nil (And.intro hSe.out fun _ => ?_)))
    simp only [Act.put, List.getElem_toArray, List.getElem_cons_succ, List.getElem_cons_zero, List.setIfInBounds_toArray, List.set_cons_zero, List.set_cons_succ]
    refine reg_move (i := 11) rfl (by kernel_rfl) (by kernel_rfl) (by kernel_rfl) (fun _ _ _ _ h => h) rfl (.bool (x.out == n)) (fun _ => rfl) hSe.out ?_
    simp only [Act.put, List.getElem_toArray, List.getElem_cons_succ, List.getElem_cons_zero, List.setIfInBounds_toArray, List.set_cons_zero, List.set_cons_succ]
    refine wpAnyH_done (by kernel_rfl) (NoPanic.normal ?_) _
    go_wp2
    exact bodyPost_ret (results_d2 Try.results36 _ _ (w.heap.size + 1 + 1) #[.int .i64 n, .slice a m lc] (.bool (x.out == n)) rfl rfl rfl (setRow_heap _ _ _ _ _ _ (show X.drew.heap[w.heap.size + 1 + 1]? = some (oDg 0 none 0 0) from hS0.out.r))) rfl ⟨rfl, below_setRow (bthen hS0.out.b (bey_drew X)) (by omega) _⟩
  | false =>
    go_upto_region 4 with fail
    have hS1 : Hid (X.drew.heap[w.heap.size]? = some (oDg n a m lc) ∧ X.drew.heap[w.heap.size + 1]? = some (oCl x)) := ⟨hS0.out.t, hS0.out.x⟩
    have hRd : Hid (∀ w' : World, w'.heap[w.heap.size]? = some (oDg n a m lc) ∧ w'.heap[w.heap.size + 1]? = some (oCl x) → w'.rangeAt w.heap.size 0 (dV n a m lc) ∧ w'.cell? ⟨w.heap.size + 1, 3, none⟩ = some (.int .i64 x.out) ∧ w'.cell? ⟨w.heap.size, 0, none⟩ = some (.int .i64 n)) := fun w' q => ⟨rng_blk q.1, cell_lc (k := 3) q.2 rfl, cell_lc (k := 0) q.1 rfl⟩
    have hSe : Hid ((X.drew.setRow (w.heap.size + 1 + 1) #[.int .i64 n, .slice a m lc]).heap[w.heap.size]? = some (oDg n a m lc) ∧ (X.drew.setRow (w.heap.size + 1 + 1) #[.int .i64 n, .slice a m lc]).heap[w.heap.size + 1]? = some (oCl x)) := ⟨(setRow_other _ _ _ _ (by omega)).trans hS1.out.1, (setRow_other _ _ _ _ (by omega)).trans hS1.out.2⟩
    refine wp_region_noPanic ?_
    refine wp_region_held_drew (S := fun w' => w'.heap[w.heap.size]? = some (oDg n a m lc) ∧ w'.heap[w.heap.size + 1]? = some (oCl x)) (by kernel_rfl) hS1.out (fun _ => ?_)
    refine reg_load (i := 0) rfl (by kernel_rfl) (by kernel_rfl) (by kernel_rfl) (fun _ _ _ _ h => h) rfl 75 _ rfl w.heap.size 0 rfl (dV n a m lc) _ (fun w' q => (hRd.out w' q).1) Try.underlying75 rfl infoDg hS1.out ?_
    simp only [Act.put, List.getElem_toArray, List.getElem_cons_succ, List.getElem_cons_zero, List.setIfInBounds_toArray, List.set_cons_zero, List.set_cons_succ]
    refine reg_move (i := 1) rfl (by kernel_rfl) (by kernel_rfl) (by kernel_rfl) (fun _ _ _ _ h => h) rfl (.bool false) (fun _ => rfl) hS1.out ?_
    simp only [Act.put, List.getElem_toArray, List.getElem_cons_succ, List.getElem_cons_zero, List.setIfInBounds_toArray, List.set_cons_zero, List.set_cons_succ]
    refine reg_move (i := 2) rfl (by kernel_rfl) (by kernel_rfl) (by kernel_rfl) (fun _ _ _ _ h => h) rfl (.bool true) (fun _ => rfl) hS1.out ?_
    simp only [Act.put, List.getElem_toArray, List.getElem_cons_succ, List.getElem_cons_zero, List.setIfInBounds_toArray, List.set_cons_zero, List.set_cons_succ]
    refine reg_move (i := 3) rfl (by kernel_rfl) (by kernel_rfl) (by kernel_rfl) (fun _ _ _ _ h => h) rfl (.bool true) (fun _ => rfl) hS1.out ?_
    simp only [Act.put, List.getElem_toArray, List.getElem_cons_succ, List.getElem_cons_zero, List.setIfInBounds_toArray, List.set_cons_zero, List.set_cons_succ]
    refine reg_skipL (i := 4) rfl (by kernel_rfl) (by kernel_rfl) (by kernel_rfl) (fun _ _ _ _ h => h) rfl hS1.out ?_
    simp only [Act.put, List.getElem_toArray, List.getElem_cons_succ, List.getElem_cons_zero, List.setIfInBounds_toArray, List.set_cons_zero, List.set_cons_succ]
    refine reg_skipL (i := 5) rfl (by kernel_rfl) (by kernel_rfl) (by kernel_rfl) (fun _ _ _ _ h => h) rfl hS1.out ?_
    simp only [Act.put, List.getElem_toArray, List.getElem_cons_succ, List.getElem_cons_zero, List.setIfInBounds_toArray, List.set_cons_zero, List.set_cons_succ]
    refine reg_skipL (i := 6) rfl (by kernel_rfl) (by kernel_rfl) (by kernel_rfl) (fun _ _ _ _ h => h) rfl hS1.out ?_
    simp only [Act.put, List.getElem_toArray, List.getElem_cons_succ, List.getElem_cons_zero, List.setIfInBounds_toArray, List.set_cons_zero, List.set_cons_succ]
    refine reg_skipL (i := 7) rfl (by kernel_rfl) (by kernel_rfl) (by kernel_rfl) (fun _ _ _ _ h => h) rfl hS1.out ?_
    simp only [Act.put, List.getElem_toArray, List.getElem_cons_succ, List.getElem_cons_zero, List.setIfInBounds_toArray, List.set_cons_zero, List.set_cons_succ]
    refine reg_skipL (i := 8) rfl (by kernel_rfl) (by kernel_rfl) (by kernel_rfl) (fun _ _ _ _ h => h) rfl hS1.out ?_
    simp only [Act.put, List.getElem_toArray, List.getElem_cons_succ, List.getElem_cons_zero, List.setIfInBounds_toArray, List.set_cons_zero, List.set_cons_succ]
    refine reg_move (i := 9) rfl (by kernel_rfl) (by kernel_rfl) (by kernel_rfl) (fun _ _ _ _ h => h) rfl (.bool true) (fun _ => rfl) hS1.out ?_
    simp only [Act.put, List.getElem_toArray, List.getElem_cons_succ, List.getElem_cons_zero, List.setIfInBounds_toArray, List.set_cons_zero, List.set_cons_succ]
    refine reg_one (i := 10) (by kernel_rfl) rfl rfl (wpList_store_row rfl TD6 _ _ rfl (w.heap.size + 1 + 1) #[.int .i64 n, .slice a m lc] rfl rfl _ _ (show X.drew.heap[w.heap.size + 1 + 1]? = some (oDg 0 none 0 0) from hS0.out.r) infoDg rfl (dg_one _ _ _ _) (wpList_nil (And.intro hSe.out fun _ => ?_)))
    simp only [Act.put, List.getElem_toArray, List.getElem_cons_succ, List.getElem_cons_zero, List.setIfInBounds_toArray, List.set_cons_zero, List.set_cons_succ]
    refine reg_move (i := 11) rfl (by kernel_rfl) (by kernel_rfl) (by kernel_rfl) (fun _ _ _ _ h => h) rfl (.bool true) (fun _ => rfl) hSe.out ?_
    simp only [Act.put, List.getElem_toArray, List.getElem_cons_succ, List.getElem_cons_zero, List.setIfInBounds_toArray, List.set_cons_zero, List.set_cons_succ]
    refine wpAnyH_done (by kernel_rfl) (NoPanic.normal ?_) _
    go_wp2
    exact bodyPost_ret (results_d2 Try.results36 _ _ (w.heap.size + 1 + 1) #[.int .i64 n, .slice a m lc] (.bool true) rfl rfl rfl (setRow_heap _ _ _ _ _ _ (show X.drew.heap[w.heap.size + 1 + 1]? = some (oDg 0 none 0 0) from hS0.out.r))) rfl ⟨rfl, below_setRow (bthen hS0.out.b (bey_drew X)) (by omega) _⟩
end
end Go.Proofs.Ytklpifammbnldaa.pg
