/- Levels: events whose longest chain of what is ahead is as long; when there is one order alone. -/
import Derived.Test.YtkadlopcomjonaaM1
import Derived.Test.YtkadlopcomjonaaM26
import Derived.Test.YtkadlopcomjonaaM28
import Derived.Test.YtkadlopcomjonaaM25
import Derived.Lib.MinMax
import Derived.Test.YtkadlopcomjonaaM16
namespace Go.Proofs.Ytkadlopcomjonaa.pg
set_option linter.unusedVariables false
theorem High.le {n : Nat} {e : Nat → Nat → Bool} {h h' : Nat → Int} (q : High n e h) (q' : High n e h') : ∀ j, j < n → h j = h' j := by
  intro j
  induction j using Nat.strongRecOn with
  | ind j ih =>
    intro hj
    have a : h j ≤ h' j := by
      rcases q.some j hj with z | ⟨i, i1, i2, i3⟩
      · have := q'.pos j hj; omega
      · have := q'.up i j i1 hj i2
        have := ih i i1 (by omega)
        omega
    have b : h' j ≤ h j := by
      rcases q'.some j hj with z | ⟨i, i1, i2, i3⟩
      · have := q.pos j hj; omega
      · have := q.up i j i1 hj i2
        have := ih i i1 (by omega)
        omega
    omega
/-- By what happens before what, or by its edges: the same. -/
theorem High.edge {d B : Nat → Nat → Bool} (hB : Tells d B) {n : Nat} {h : Nat → Int} (q : High n B h) : High n (edgeB d B) h := by
  refine ⟨q.pos, fun i j hij hj he => q.up i j hij hj ((hB i j).mpr (edgeB_hb hB he)), fun j hj => ?_⟩
  rcases q.some j hj with z | ⟨i, i1, i2, i3⟩
  · exact .inl z
  · refine .inr ⟨i, i1, (edgeB_is hB).mpr ⟨(hB i j).mp i2, ?_⟩, i3⟩
    rintro k ⟨k1, k2⟩
    have h1 := k1.lt
    have h2 := k2.lt
    have u1 := q.up i k h1 (by omega) ((hB i k).mpr k1)
    have u2 := q.up k j h2 hj ((hB k j).mpr k2)
    omega
/-- One level: by goroutine, then by place. -/
def lvA (g : Nat → Nat) (n : Nat) (h : Nat → Int) (k : Int) (a : Nat) : List Nat := (plc g n a).filter fun i => h i == k
def lvTo (g : Nat → Nat) (n : Nat) (h : Nat → Int) (k : Int) : Nat → List Nat
  | 0 => []
  | a + 1 => lvTo g n h k a ++ lvA g n h k a
def lvRow (g : Nat → Nat) (n : Nat) (h : Nat → Int) (k : Int) : List Nat := lvTo g n h k 6
theorem lvA_mem {g : Nat → Nat} {n : Nat} {h : Nat → Int} {k : Int} {a x : Nat} : x ∈ lvA g n h k a ↔ x < n ∧ g x = a ∧ h x = k := by
  unfold lvA plc
  simp only [List.mem_filter, List.mem_range, beq_iff_eq]
  exact ⟨fun ⟨⟨a, b⟩, c⟩ => ⟨a, b, c⟩, fun ⟨a, b, c⟩ => ⟨⟨a, b⟩, c⟩⟩
theorem lvTo_mem {g : Nat → Nat} {n : Nat} {h : Nat → Int} {k : Int} {x : Nat} : ∀ {a : Nat}, x ∈ lvTo g n h k a ↔ x < n ∧ g x < a ∧ h x = k
  | 0 => by simp [lvTo]
  | a + 1 => by
    rw [lvTo, List.mem_append, lvTo_mem, lvA_mem]
    constructor
    · rintro (⟨a, b, c⟩ | ⟨a, b, c⟩)
      · exact ⟨a, by omega, c⟩
      · exact ⟨a, by omega, c⟩
    · rintro ⟨q1, q2, q3⟩
      by_cases c : g x = a
      · exact .inr ⟨q1, c, q3⟩
      · exact .inl ⟨q1, by omega, q3⟩
theorem lvA_more (g : Nat → Nat) (n : Nat) (h : Nat → Int) (k : Int) (a : Nat) : lvA g (n + 1) h k a = lvA g n h k a ++ (if g n = a ∧ h n = k then [n] else []) := by
  unfold lvA
  rw [plc_more, List.filter_append]
  congr 1
  by_cases c : g n = a
  · rw [if_pos c]
    by_cases c2 : h n = k
    · rw [if_pos ⟨c, c2⟩]; simp [c2]
    · rw [if_neg fun q => c2 q.2]; simp [c2]
  · rw [if_neg c, if_neg fun q => c q.1]; rfl
theorem plc_nodup (g : Nat → Nat) (n a : Nat) : (plc g n a).Nodup := List.nodup_range.filter _
theorem lvTo_nodup (g : Nat → Nat) (n : Nat) (h : Nat → Int) (k : Int) : ∀ a, (lvTo g n h k a).Nodup
  | 0 => List.nodup_nil
  | a + 1 => by
    rw [lvTo, List.nodup_append]
    refine ⟨lvTo_nodup g n h k a, (plc_nodup g n a).filter _, fun x hx y hy e => ?_⟩
    have h1 := (lvTo_mem.mp hx).2.1
    have h2 := (lvA_mem.mp hy).2.1
    rw [e] at h1
    omega
theorem lvRow_len {g : Nat → Nat} {n : Nat} {h : Nat → Int} {k : Int} (hg : ∀ i, i < n → g i < 6) : (lvRow g n h k).length = cnt (fun i => h i == k) n := by
  unfold lvRow
  rw [← cnt_memS (n := n) _ (lvTo_nodup g n h k 6) fun x hx => (lvTo_mem.mp hx).1]
  refine cnt_congr fun i hi => ?_
  unfold memS
  rw [decide_eq_true_iff, lvTo_mem, beq_iff_eq]
  exact ⟨fun q => q.2.2, fun q => ⟨hi, hg i hi, q⟩⟩
/-- How many there are in the first levels. -/
def lvSum (n : Nat) (h : Nat → Int) : Nat → Nat
  | 0 => 0
  | k + 1 => lvSum n h k + cnt (fun i => h i == (k : Int)) n
theorem lvSum_is (n : Nat) (h : Nat → Int) (hp : ∀ i, i < n → 0 ≤ h i) : ∀ k, lvSum n h k = cnt (fun i => decide (h i < (k : Int))) n
  | 0 => by
    rw [cnt_cut (m := 0) (Nat.zero_le _) fun i _ hi => by have := hp i hi; exact decide_eq_false (by omega)]
    rfl
  | k + 1 => by
    rw [lvSum, lvSum_is n h hp k]
    clear hp
    induction n with
    | zero => rfl
    | succ n ih =>
      have e1 : ∀ p : Nat → Bool, cnt p (n + 1) = cnt p n + (if p n = true then 1 else 0) := fun p => rfl
      rw [e1, e1, e1, ← ih]
      simp only [decide_eq_true_eq, beq_iff_eq]
      by_cases c : h n < (k : Int)
      · rw [if_pos c, if_neg (by omega), if_pos (by omega)]; omega
      · rw [if_neg c]
        by_cases c2 : h n = (k : Int)
        · rw [if_pos c2, if_pos (by omega)]; omega
        · rw [if_neg c2, if_neg (by omega)]; omega
theorem cnt_true (p : Nat → Bool) : ∀ n, (∀ i, i < n → p i = true) → cnt p n = n
  | 0, _ => rfl
  | n + 1, h => by
    have := cnt_true p n fun i hi => h i (by omega)
    show cnt p n + _ = _
    rw [this, if_pos (h n (by omega))]
/-- The number of levels. -/
structure Top (n : Nat) (h : Nat → Int) (H : Nat) : Prop where
  top : ∀ j, j < n → h j + 1 ≤ (H : Int)
  hit : n = 0 ∧ H = 0 ∨ ∃ j, j < n ∧ (H : Int) = h j + 1
section
variable {d B : Nat → Nat → Bool} (hB : Tells d B) {n : Nat} {h : Nat → Int} (hh : High n (edgeB d B) h)
include hB hh
/-- No level is empty. -/
theorem lv_some {H : Nat} (hH : Top n h H) : ∀ (m k : Nat), k + m + 1 = H → ∃ x, x < n ∧ h x = (k : Int)
  | 0, k, e => by
    have _ := hB
    rcases hH.hit with ⟨_, z⟩ | ⟨j, j1, j2⟩
    · omega
    · exact ⟨j, j1, by omega⟩
  | m + 1, k, e => by
    obtain ⟨x, x1, x2⟩ := lv_some hH m (k + 1) (by omega)
    rcases hh.some x x1 with z | ⟨i, i1, i2, i3⟩
    · omega
    · exact ⟨i, by omega, by omega⟩
theorem lv_ahead {x : Nat} (hx : x < n) {k : Nat} (hk : h x = (k : Int) + 1) : ∃ y, y < x ∧ d y x = true ∧ h y = (k : Int) := by
  have _ := hB
  rcases hh.some x hx with z | ⟨i, i1, i2, i3⟩
  · omega
  · exact ⟨i, i1, ((edgeB_iff d B i x).mp i2).2.1, by omega⟩
theorem lv_apart (hs : ∀ i j, d i j = d j i) {x y : Nat} (hx : x < n) (hy : y < n) (hne : x ≠ y) (e : h x = h y) : d x y = false := by
  rw [Bool.eq_false_iff]
  intro q
  rcases Nat.lt_or_ge x y with c | c
  · have := hh.hb hB y x y (Nat.le_refl _) hy (.one c q); omega
  · have := hh.hb hB x y x (Nat.le_refl _) hx (.one (by omega) (by rw [hs]; exact q)); omega
theorem lv_go {g : Nat → Nat} (ho : Ord d g n) {x y : Nat} (hx : x < n) (hy : y < n) (e : h x = h y) (eg : g x = g y) : x = y := by
  rcases Nat.lt_trichotomy x y with c | c | c
  · have := hh.hb hB y x y (Nat.le_refl _) hy (.one c (ho x y c hy eg)); omega
  · exact c
  · have := hh.hb hB x y x (Nat.le_refl _) hx (.one c (ho y x c hx eg.symm)); omega
/-- In a level goroutines rise. -/
theorem lv_rise {g : Nat → Nat} (ho : Ord d g n) (k : Int) : ∀ a, (lvTo g n h k a).Pairwise fun x y => g x < g y
  | 0 => .nil
  | a + 1 => by
    rw [lvTo, List.pairwise_append]
    refine ⟨lv_rise ho k a, ?_, fun x hx y hy => ?_⟩
    · rw [List.pairwise_iff_getElem]
      intro i j hi hj hij
      have h1 := lvA_mem.mp (List.getElem_mem hi)
      have h2 := lvA_mem.mp (List.getElem_mem hj)
      have e := lv_go hB hh ho h1.1 h2.1 (by rw [h1.2.2, h2.2.2]) (by rw [h1.2.1, h2.2.1])
      have hnd : (lvA g n h k a).Nodup := (plc_nodup g n a).filter _
      have := (List.getElem_inj hnd).mp e
      omega
    · have h1 := (lvTo_mem.mp hx).2.1
      have h2 := (lvA_mem.mp hy).2.1
      omega
theorem lv_le : ∀ j, j < n → h j ≤ (j : Int) := by
  have _ := hB
  intro j
  induction j using Nat.strongRecOn with
  | ind j ih =>
    intro hj
    rcases hh.some j hj with q | ⟨i, q1, q2, q3⟩
    · omega
    · have := ih i q1 (by omega)
      omega
theorem top_le {H : Nat} (hH : Top n h H) : H ≤ n := by
  rcases hH.hit with ⟨_, z⟩ | ⟨j, j1, j2⟩
  · omega
  · have := lv_le hB hh j j1; omega
/-- As many levels as events: all stand one behind the other. -/
theorem chain_iff {H : Nat} (hH : Top n h H) : H = n ↔ ∀ i j, i < j → j < n → B i j = true := by
  constructor
  · intro e
    have key : ∀ m k, k + m + 1 = n → h k = (k : Int) ∧ (0 < k → HB d (k - 1) k) := by
      intro m
      induction m with
      | zero =>
        intro k ek
        have hk : h k = (k : Int) := by
          rcases hH.hit with ⟨z, _⟩ | ⟨j, j1, j2⟩
          · omega
          · have := lv_le hB hh j j1
            have : j = k := by omega
            subst this; omega
        refine ⟨hk, fun h0 => ?_⟩
        rcases hh.some k (by omega) with z | ⟨i, i1, i2, i3⟩
        · omega
        · have := lv_le hB hh i (by omega)
          have : i = k - 1 := by omega
          subst this
          exact edgeB_hb hB i2
      | succ m ih =>
        intro k ek
        obtain ⟨e1, e2⟩ := ih (k + 1) (by omega)
        have hk : h k = (k : Int) := by
          rcases hh.some (k + 1) (by omega) with z | ⟨i, i1, i2, i3⟩
          · omega
          · have := lv_le hB hh i (by omega)
            have : i = k := by omega
            subst this; omega
        refine ⟨hk, fun h0 => ?_⟩
        rcases hh.some k (by omega) with z | ⟨i, i1, i2, i3⟩
        · omega
        · have := lv_le hB hh i (by omega)
          have : i = k - 1 := by omega
          subst this
          exact edgeB_hb hB i2
    have two : ∀ m i j, i < j → j < n → j - i ≤ m → HB d i j := by
      intro m
      induction m with
      | zero => intro i j h1 _ h3; omega
      | succ m ih =>
        intro i j h1 h2 h3
        have q := (key (n - 1 - j) j (by omega)).2 (by omega)
        by_cases c : i = j - 1
        · rw [c]; exact q
        · exact .then (ih i (j - 1) (by omega) (by omega) (by omega)) q
    exact fun i j h1 h2 => (hB i j).mpr (two _ i j h1 h2 (Nat.le_refl _))
  · intro hall
    have key : ∀ j, j < n → (j : Int) ≤ h j := by
      intro j
      induction j with
      | zero => intro hj; have := hh.pos 0 hj; omega
      | succ j ih =>
        intro hj
        have := ih (by omega)
        have := hh.hb hB (j + 1) j (j + 1) (Nat.le_refl _) hj ((hB _ _).mp (hall j (j + 1) (by omega) hj))
        omega
    have h1 := top_le hB hh hH
    by_cases c : n = 0
    · omega
    · have := key (n - 1) (by omega)
      have := hH.top (n - 1) (by omega)
      omega
end
theorem preS_one {B : Nat → Nat → Bool} {n : Nat} {S : Nat → Bool} {m : Nat} (h : cnt S n + m ≤ n) : 1 ≤ preS B n m S := preS_le (m := 0) (Nat.zero_le _) h
/-- Of events that stand one behind the other there is one order. -/
theorem preS_chain {B : Nat → Nat → Bool} {n : Nat} (hall : ∀ i j, i < j → j < n → B i j = true) : ∀ (m : Nat) (S : Nat → Bool), cnt S n + m ≤ n → preS B n m S = 1
  | 0, S, _ => rfl
  | m + 1, S, h => by
    obtain ⟨x, h1, h2⟩ := free_some (B := B) (miss_some (S := S) (n := n) (by omega))
    have hu : ∀ y, y < n → freeB B S y = true → y = x := fun y hy hf => by
      have fx := freeB_iff.mp h2
      have fy := freeB_iff.mp hf
      rcases Nat.lt_trichotomy x y with c | c | c
      · have := fy.2 x c (hall x y c hy); rw [fx.1] at this; cases this
      · exact c.symm
      · have := fx.2 y c (hall y x c h1); rw [fy.1] at this; cases this
    have hl : (List.range n).filter (freeB B S) = [x] := by
      have hp : ((List.range n).filter (freeB B S)).Perm [x] := by
        rw [List.perm_ext_iff_of_nodup (List.nodup_range.filter _) (by simp)]
        intro y
        rw [List.mem_filter, List.mem_range, List.mem_singleton]
        exact ⟨fun q => hu y q.1 q.2, fun q => by rw [q]; exact ⟨h1, h2⟩⟩
      exact List.perm_singleton.mp hp
    have hc : cnt (insS S x) n = cnt S n + 1 := cnt_ins (freeB_iff.mp h2).1 h1
    rw [preS, hl]
    simp only [List.map_cons, List.map_nil, List.sum_cons, List.sum_nil, Nat.add_zero]
    exact preS_chain hall m _ (by omega)
theorem sum_mem {f : Nat → Nat} : ∀ (l : List Nat) (x : Nat), x ∈ l → f x ≤ (l.map f).sum
  | [], x, h => by cases h
  | y :: l, x, h => by
    simp only [List.map_cons, List.sum_cons]
    rcases List.mem_cons.mp h with rfl | q
    · omega
    · have := sum_mem (f := f) l x q; omega
theorem sum_two {f : Nat → Nat} : ∀ (l : List Nat) (x y : Nat), x ∈ l → y ∈ l → x ≠ y → f x + f y ≤ (l.map f).sum
  | [], x, y, h, _, _ => by cases h
  | z :: l, x, y, hx, hy, hne => by
    simp only [List.map_cons, List.sum_cons]
    rcases List.mem_cons.mp hx with rfl | q
    · rcases List.mem_cons.mp hy with rfl | r
      · exact absurd rfl hne
      · have := sum_mem (f := f) l y r; omega
    · rcases List.mem_cons.mp hy with rfl | r
      · have := sum_mem (f := f) l x q; omega
      · have := sum_two (f := f) l x y q r hne; omega
theorem past_free {d B : Nat → Nat → Bool} (hB : Tells d B) {S : Nat → Bool} {i : Nat} : ∀ (m k : Nat), k ≤ m → B k i = true → S k = false → ∃ k, B k i = true ∧ freeB B S k = true
  | 0, k, h, h1, h2 => ⟨k, h1, freeB_iff.mpr ⟨h2, fun j hj _ => by omega⟩⟩
  | m + 1, k, h, h1, h2 => by
    by_cases c : ∀ j, j < k → B j k = true → S j = true
    · exact ⟨k, h1, freeB_iff.mpr ⟨h2, c⟩⟩
    · have ⟨j, hj⟩ : ∃ j, j < k ∧ B j k = true ∧ S j = false := by
        apply Classical.byContradiction
        intro q
        apply c
        intro j hj hb
        cases hs : S j with
        | true => rfl
        | false => exact absurd ⟨j, hj, hb, hs⟩ q
      exact past_free hB m j (by omega) ((hB j i).mpr (.then ((hB j k).mp hj.2.1) ((hB k i).mp h1))) hj.2.2
/-- Of two that do not stand one behind the other there are two orders. -/
theorem preS_two {d B : Nat → Nat → Bool} (hB : Tells d B) {n i j : Nat} (hij : i < j) (hj : j < n) (hb : B i j = false) : ∀ (m : Nat) (S : Nat → Bool), S i = false → S j = false → cnt S n + m = n → 2 ≤ preS B n m S
  | 0, S, h1, _, h3 => by
    have := cnt_lt (p := S) (q := fun _ => true) (n := n) (m := i) (fun _ _ _ => rfl) (by omega) rfl h1
    have := cnt_le (fun _ => true) n
    omega
  | m + 1, S, h1, h2, h3 => by
    rw [preS]
    by_cases c : ∃ x, x < n ∧ freeB B S x = true ∧ x ≠ i ∧ x ≠ j
    · obtain ⟨x, x1, x2, x3, x4⟩ := c
      have hc : cnt (insS S x) n = cnt S n + 1 := cnt_ins (freeB_iff.mp x2).1 x1
      have ih := preS_two hB hij hj hb m (insS S x) (by unfold insS; rw [h1]; simp; omega) (by unfold insS; rw [h2]; simp; omega) (by omega)
      have := sum_mem (f := fun x => preS B n m (insS S x)) _ x (List.mem_filter.mpr ⟨List.mem_range.mpr x1, x2⟩)
      omega
    · have only : ∀ x, x < n → freeB B S x = true → x = i ∨ x = j := fun x x1 x2 => by
        apply Classical.byContradiction
        intro q
        exact c ⟨x, x1, x2, fun z => q (.inl z), fun z => q (.inr z)⟩
      have free : ∀ y, y < n → S y = false → (∀ k, B k y = true → k ≠ i ∧ k ≠ j) → freeB B S y = true := fun y hy hs hn => by
        refine freeB_iff.mpr ⟨hs, fun k hk hkb => ?_⟩
        cases hsk : S k with
        | true => rfl
        | false =>
          obtain ⟨z, z1, z2⟩ := past_free hB k k (Nat.le_refl _) hkb hsk
          have := ((hB z y).mp z1).lt
          have := hn z z1
          rcases only z (by omega) z2 with q | q
          · exact absurd q this.1
          · exact absurd q this.2
      have fi : freeB B S i = true := free i (by omega) h1 fun k hk => by
        have := ((hB k i).mp hk).lt
        omega
      have fj : freeB B S j = true := free j hj h2 fun k hk => by
        have := ((hB k j).mp hk).lt
        refine ⟨fun q => ?_, by omega⟩
        rw [q, hb] at hk; cases hk
      have ci : cnt (insS S i) n = cnt S n + 1 := cnt_ins h1 (by omega)
      have cj : cnt (insS S j) n = cnt S n + 1 := cnt_ins h2 hj
      have := sum_two (f := fun x => preS B n m (insS S x)) _ i j (List.mem_filter.mpr ⟨List.mem_range.mpr (by omega), fi⟩) (List.mem_filter.mpr ⟨List.mem_range.mpr hj, fj⟩) (by omega)
      have p1 := preS_one (B := B) (n := n) (S := insS S i) (m := m) (by omega)
      have p2 := preS_one (B := B) (n := n) (S := insS S j) (m := m) (by omega)
      omega
theorem cnt_none (n : Nat) : cnt (fun _ => false) n = 0 := by rw [cnt_cut (m := 0) (n := n) (Nat.zero_le _) fun k _ _ => rfl]; rfl
theorem ways_one {d B : Nat → Nat → Bool} (hB : Tells d B) {n : Nat} {h : Nat → Int} (hh : High n (edgeB d B) h) {H : Nat} (hH : Top n h H) : (preS B n n (fun _ => false) = 1 ↔ H = n) ∧ 1 ≤ preS B n n (fun _ => false) := by
  have h1 : 1 ≤ preS B n n (fun _ => false) := preS_one (by rw [cnt_none]; omega)
  refine ⟨?_, h1⟩
  rw [chain_iff hB hh hH]
  constructor
  · intro e i j hij hj
    cases hb : B i j with
    | true => rfl
    | false =>
      have := preS_two hB hij hj hb n (fun _ => false) rfl rfl (by rw [cnt_none]; omega)
      omega
  · intro hall
    exact preS_chain hall n _ (by rw [cnt_none]; omega)
end Go.Proofs.Ytkadlopcomjonaa.pg
/- Lists of lists in memory: levels while they are gathered, and as they are told. -/
namespace Go.Proofs.Ytkadlopcomjonaa.pg
open Go.ChangeShapes Go.WideShapes Go.ChangeAt Go.RowKit Go.Shelf
set_option linter.unusedVariables false
set_option linter.unusedSimpArgs false
set_option maxRecDepth 100000
/-- Edges may come by their earlier event, too. -/
theorem hi_stepX {n : Nat} {E : List (Nat × Nat)} {s : List Int × Int} (h : HI n E s) (p : Nat × Nat) (hp : p.1 < p.2 ∧ p.2 < n) (hE : ∀ q ∈ E, q.1 < q.2 ∧ q.1 ≠ p.2) : HI n (E ++ [p]) (hstep s p) := by
  obtain ⟨m, hm⟩ : ∃ m, max (s.1.getD p.2 0) (s.1.getD p.1 0 + 1) = m := ⟨_, rfl⟩
  have hm1 : s.1.getD p.2 0 ≤ m ∧ s.1.getD p.1 0 + 1 ≤ m ∧ (m = s.1.getD p.2 0 ∨ m = s.1.getD p.1 0 + 1) := by rw [← hm, Int.max_def]; split <;> omega
  obtain ⟨t, ht⟩ : ∃ t, max s.2 (m + 1) = t := ⟨_, rfl⟩
  have ht1 : s.2 ≤ t ∧ m + 1 ≤ t ∧ (t = s.2 ∨ t = m + 1) := by rw [← ht, Int.max_def]; split <;> omega
  have hst : hstep s p = (s.1.set p.2 m, t) := by unfold hstep; rw [hm, ht]
  have hg : ∀ j, (s.1.set p.2 m).getD j 0 = if j = p.2 then m else s.1.getD j 0 := getD_set0 s.1 p.2 m (by rw [h.len]; exact hp.2)
  rw [hst]
  refine ⟨by simp [h.len], fun j hj => ?_, fun q hq => ?_, fun j hj => ?_, fun j hj => ?_, ?_⟩
  · show 0 ≤ (s.1.set p.2 m).getD j 0
    rw [hg]
    have h1 := h.pos j hj
    have h2 := h.pos p.2 hp.2
    split <;> omega
  · show (s.1.set p.2 m).getD q.1 0 + 1 ≤ (s.1.set p.2 m).getD q.2 0
    rw [hg, hg]
    rw [List.mem_append, List.mem_singleton] at hq
    rcases hq with hq | rfl
    · have h1 := h.up q hq
      rw [if_neg (hE q hq).2]
      by_cases c : q.2 = p.2
      · rw [if_pos c]; rw [c] at h1; omega
      · rw [if_neg c]; exact h1
    · rw [if_neg (by omega), if_pos rfl]; exact hm1.2.1
  · show (s.1.set p.2 m).getD j 0 = 0 ∨ ∃ i, (i, j) ∈ E ++ [p] ∧ (s.1.set p.2 m).getD j 0 = (s.1.set p.2 m).getD i 0 + 1
    simp only [hg]
    by_cases c : j = p.2
    · subst c
      simp only [if_true]
      rcases hm1.2.2 with q | q
      · rcases h.some p.2 hp.2 with z | ⟨i, z1, z2⟩
        · left; omega
        · right
          have z3 : i ≠ p.2 := (hE _ z1).2
          refine ⟨i, List.mem_append_left _ z1, ?_⟩
          rw [if_neg z3]
          omega
      · right
        refine ⟨p.1, by simp, ?_⟩
        rw [if_neg (by omega)]
        exact q
    · rw [if_neg c]
      rcases h.some j hj with z | ⟨i, z1, z2⟩
      · exact .inl z
      · right
        have z3 : i ≠ p.2 := (hE _ z1).2
        refine ⟨i, List.mem_append_left _ z1, ?_⟩
        rw [if_neg z3]
        exact z2
  · show (s.1.set p.2 m).getD j 0 + 1 ≤ t
    rw [hg]
    have h1 := h.top j hj
    split <;> omega
  · right
    show ∃ j, j < n ∧ t = (s.1.set p.2 m).getD j 0 + 1
    simp only [hg]
    by_cases c : s.2 ≤ m + 1
    · exact ⟨p.2, hp.2, by rw [if_pos rfl]; omega⟩
    · rcases h.hit with ⟨q, _⟩ | ⟨j, j1, j2⟩
      · omega
      · refine ⟨j, j1, ?_⟩
        rw [if_neg (fun q => by rw [q] at j2; omega)]
        omega
theorem hi_lex (n : Nat) : ∀ (k : Nat) (E : List (Nat × Nat)), E.length = k → E.Pairwise lex → (∀ p ∈ E, p.1 < p.2 ∧ p.2 < n) → HI n E (hfold n E)
  | 0, E, h, _, hp => by
    have : E = [] := List.length_eq_zero_iff.mp h
    subst this
    exact hi_all n 0 [] rfl .nil hp
  | k + 1, E, h, hs, hp => by
    rcases List.eq_nil_or_concat E with rfl | ⟨q, x, rfl⟩
    · simp at h
    · rw [List.concat_eq_append] at h hs hp ⊢
      rw [List.length_append, List.length_singleton] at h
      rw [List.pairwise_append] at hs
      have ih := hi_lex n k q (by omega) hs.1 fun p hp' => hp p (List.mem_append_left _ hp')
      rw [hfold_more]
      refine hi_stepX ih x (hp x (by simp)) fun z hz => ⟨(hp z (List.mem_append_left _ hz)).1, ?_⟩
      have h1 := hs.2.2 z hz x (by simp)
      have h2 := hp x (by simp)
      unfold lex at h1
      omega
section
variable {l : List Ev} (hrt : ∀ x ∈ l, rightP x) {B : Nat → Nat → Bool} (hB : Tells (dpf l) B) {D : List (Nat × Nat)} (hD : D.Perm (rel (evf l) l.length).2) (hx : D.Pairwise lex)
include hrt hB hD hx
theorem lv_pairs : ∀ p ∈ D, p.1 < p.2 ∧ p.2 < l.length := fun p hp => by
  have _ := hx
  have := (edges_mem hrt hB p).mp (hD.mem_iff.mp hp)
  exact ⟨this.1, this.2.1⟩
theorem lv_high : High l.length (edgeB (dpf l) B) fun j => (hfold l.length D).1.getD j 0 := by
  have h := hi_lex l.length _ D rfl hx (lv_pairs hrt hB hD hx)
  refine ⟨h.pos, fun i j h1 h2 h3 => h.up (i, j) (hD.mem_iff.mpr ((edges_mem hrt hB (i, j)).mpr ⟨h1, h2, h3⟩)), fun j hj => ?_⟩
  rcases h.some j hj with q | ⟨i, q1, q2⟩
  · exact .inl q
  · have := (edges_mem hrt hB (i, j)).mp (hD.mem_iff.mp q1)
    exact .inr ⟨i, this.1, this.2.2, q2⟩
/-- Levels by edges in either order, and how many there are. -/
theorem lv_top : ∃ H : Nat, (hfold l.length (rel (evf l) l.length).2).2 = (H : Int) ∧ Top l.length (fun j => (hfold l.length D).1.getD j 0) H := by
  have h := hi_rel hrt hB
  have e := (lv_high hrt hB hD hx).le (high_rel hrt hB)
  have h0 : 0 ≤ (hfold l.length (rel (evf l) l.length).2).2 := by
    rcases h.hit with ⟨_, q⟩ | ⟨j, j1, j2⟩
    · omega
    · have := h.pos j j1; omega
  obtain ⟨H, hH⟩ := Int.eq_ofNat_of_zero_le h0
  refine ⟨H, hH, ⟨fun j hj => ?_, ?_⟩⟩
  · have h1 := e j hj
    have h2 := h.top j hj
    show (hfold l.length D).1.getD j 0 + 1 ≤ (H : Int)
    rw [h1, ← hH]
    exact h2
  · rcases h.hit with ⟨q1, q2⟩ | ⟨j, j1, j2⟩
    · exact .inl ⟨q1, by omega⟩
    · refine .inr ⟨j, j1, ?_⟩
      have h1 := e j j1
      show (H : Int) = (hfold l.length D).1.getD j 0 + 1
      rw [h1, ← hH]
      exact j2
end
/-- A row of lists. -/
def slC (H : Nat) (pa : Nat → Option Addr) (pc : Nat → Nat) (L : Nat → List Int) : List Value := (List.range H).map (slv pa pc L)
theorem slC_len (H : Nat) (pa : Nat → Option Addr) (pc : Nat → Nat) (L : Nat → List Int) : (slC H pa pc L).length = H := by simp [slC]
theorem slC_at {H : Nat} {pa : Nat → Option Addr} {pc : Nat → Nat} {L : Nat → List Int} {k : Nat} (h : k < H) : (slC H pa pc L).toArray[k]? = some (slv pa pc L k) := by simp [slC, h]
theorem slC_set {H : Nat} {pa pa' : Nat → Option Addr} {pc pc' : Nat → Nat} {L L' : Nat → List Int} {k : Nat} (hb : ∀ b, b ≠ k → slv pa' pc' L' b = slv pa pc L b) : (slC H pa pc L).toArray.setIfInBounds k (slv pa' pc' L' k) = (slC H pa' pc' L').toArray := by
  rw [List.setIfInBounds_toArray]
  congr 1
  apply List.ext_getElem?
  intro i
  unfold slC
  rw [List.getElem?_set, List.getElem?_map, List.getElem?_map]
  by_cases c : k = i
  · subst c
    rw [if_pos rfl]
    by_cases h : k < H
    · simp [h]
    · simp [h]
  · rw [if_neg c]
    by_cases h : i < H
    · simp [h, hb i (Ne.symm c)]
    · simp [h]
theorem slC_congr {H : Nat} {pa : Nat → Option Addr} {pc : Nat → Nat} {L L' : Nat → List Int} (h : ∀ k, k < H → L k = L' k) : slC H pa pc L = slC H pa pc L' := by
  unfold slC
  refine List.map_congr_left fun k hk => ?_
  unfold slv
  rw [h k (List.mem_range.mp hk)]
/-- How lists lie while they are gathered: V is the world ahead of it. -/
structure LvM (V W : World) (A H : Nat) (pa : Nat → Option Addr) (pc : Nat → Nat) (L : Nat → List Int) : Prop where
  a : W.heap[A]? = some (.cells (slC H pa pc L).toArray 39)
  al : A < V.heap.size
  k : ∀ b, b < V.heap.size → b ≠ A → W.heap[b]? = V.heap[b]?
  b : Below A V W
  o : ∀ k, k < H → OwnL W V.heap.size 3 1 (pa k) (pc k) ((L k).map chCells)
  ap : ∀ a b, a < H → b < H → a ≠ b → ∀ g ∈ blk (pa a), g ∉ blk (pa b)
theorem LvM.sz {V W : World} {A H : Nat} {pa : Nat → Option Addr} {pc : Nat → Nat} {L : Nat → List Int} (h : LvM V W A H pa pc L) : V.heap.size ≤ W.heap.size := h.b.size
theorem LvM.congr {V W : World} {A H : Nat} {pa : Nat → Option Addr} {pc : Nat → Nat} {L L' : Nat → List Int} (h : LvM V W A H pa pc L) (e : ∀ k, k < H → L k = L' k) : LvM V W A H pa pc L' :=
  ⟨by rw [← slC_congr e]; exact h.a, h.al, h.k, h.b, fun k hk => by rw [← e k hk]; exact h.o k hk, h.ap⟩
theorem LvM.later {V W W' : World} {A H : Nat} {pa : Nat → Option Addr} {pc : Nat → Nat} {L : Nat → List Int} (h : LvM V W A H pa pc L) (hb : Below W.heap.size W W') : LvM V W' A H pa pc L :=
  ⟨(hb.block _ (Array.getElem?_eq_some_iff.mp h.a).1).trans h.a, h.al, fun b h1 h2 => (hb.block _ (by have := h.b.size; omega)).trans (h.k b h1 h2), h.b.trans (hb.mono (by have := h.b.size; have := h.al; omega)), fun k hk => own_keep (h.o k hk) fun g hg => hb.block g (blk_lt (h.o k hk) g hg).2, h.ap⟩
theorem LvM.put {V W w8 : World} {A H : Nat} {pa : Nat → Option Addr} {pc : Nat → Nat} {L : Nat → List Int} (h : LvM V W A H pa pc L) {k : Nat} (hk : k < H) {x : Int} {va' : Option Addr} {vc' : Nat} (hg : Grown W V.heap.size 3 1 (pa k) ((L k).map chCells) (chCells x) va' vc' w8) :
    w8.heap[A]? = some (.cells (slC H pa pc L).toArray 39) ∧ LvM V (w8.setCell ⟨A, k, none⟩ (.slice va' ((L k).length + 1) vc')) A H (updF pa k va') (updF pc k vc') (updF L k (L k ++ [x])) := by
  have hal := h.al
  have hsz := h.b.size
  have hni : ∀ b, b < V.heap.size → b ∉ blk (pa k) := fun b hb q => by have := (blk_lt (h.o _ hk) b q).1; omega
  have h1 := (hg.kp A (by omega) (hni _ hal)).trans h.a
  have hne : ∀ b, b ≠ A → (w8.setCell ⟨A, k, none⟩ (.slice va' ((L k).length + 1) vc')).heap[b]? = w8.heap[b]? := fun b q => Below.heap_setCell _ _ _ _ q
  refine ⟨h1, ?_, hal, fun b b1 b2 => ?_, ?_, fun b hb => ?_, fun b c hb hc hbc g hgb hgc => ?_⟩
  · rw [setCell_eq_setRow w8 A k _ _ _ _ h1, setRow_heap w8 A _ _ _ _ h1]
    have := slC_set (H := H) (pa := pa) (pc := pc) (L := L) (pa' := updF pa k va') (pc' := updF pc k vc') (L' := updF L k (L k ++ [x])) (k := k) fun b q => by unfold slv; rw [updF_ne _ _ q, updF_ne _ _ q, updF_ne _ _ q]
    have e : slv (updF pa k va') (updF pc k vc') (updF L k (L k ++ [x])) k = .slice va' ((L k).length + 1) vc' := by
      unfold slv
      rw [updF_at, updF_at, updF_at, List.length_append]
      rfl
    rw [e] at this
    rw [this]
  · rw [hne _ b2, hg.kp b (by omega) (hni b b1)]
    exact h.k b b1 b2
  · refine (h.b.trans (hg.be.mono (by omega))).trans ?_
    exact (Below.refl _ w8).setCell (p := ⟨A, k, none⟩) (Nat.le_refl _) _
  · have hkeep : ∀ {a : Option Addr} {cap : Nat} {M : List (List Value)}, OwnL w8 V.heap.size 3 1 a cap M → OwnL (w8.setCell ⟨A, k, none⟩ (.slice va' ((L k).length + 1) vc')) V.heap.size 3 1 a cap M := fun q => own_keep q fun g hg => hne g (by have := (blk_lt q g hg).1; omega)
    by_cases e : b = k
    · subst e
      rw [updF_at, updF_at, updF_at, List.map_append]
      exact hkeep hg.ow
    · rw [updF_ne _ _ e, updF_ne _ _ e, updF_ne _ _ e]
      exact hkeep (own_keep (h.o b hb) fun g hgm => hg.kp g (blk_lt (h.o b hb) g hgm).2 (h.ap b k hb hk e g hgm))
  · by_cases e : b = k
    · subst e
      have e2 : c ≠ b := Ne.symm hbc
      rw [updF_at] at hgb
      rw [updF_ne _ _ e2] at hgc
      rcases hg.bk g hgb with q | q
      · exact h.ap b c hb hc hbc g q hgc
      · have := (blk_lt (h.o c hc) g hgc).2; omega
    · rw [updF_ne _ _ e] at hgb
      by_cases e2 : c = k
      · subst e2
        rw [updF_at] at hgc
        rcases hg.bk g hgc with q | q
        · exact h.ap b c hb hc hbc g hgb q
        · have := (blk_lt (h.o b hb) g hgb).2; omega
      · rw [updF_ne _ _ e2] at hgc
        exact h.ap b c hb hc hbc g hgb hgc
/-- A list of lists as it is told. -/
def Mx (w : World) (va : Option Addr) (vc H : Nat) (L : Nat → List Int) : Prop := ∃ (pa : Nat → Option Addr) (pc : Nat → Nat), Rows w 1 va vc ((slC H pa pc L).map fun v => [v]) ∧ ∀ k, k < H → Rows w 1 (pa k) (pc k) ((L k).map chCells)
theorem Mx.later {w w' : World} {va : Option Addr} {vc H : Nat} {L : Nat → List Int} (h : Mx w va vc H L) (hb : Below w.heap.size w w') : Mx w' va vc H L := by
  obtain ⟨pa, pc, h1, h2⟩ := h
  exact ⟨pa, pc, h1.later hb, fun k hk => (h2 k hk).later hb⟩
theorem rows_sl {W : World} {B : Nat} {cs : List Value} {t : TypeId} (h : W.heap[B]? = some (.cells cs.toArray t (0, 0))) (hl : cs.length ≤ 65536) : Rows W 1 (some ⟨B, 0, none⟩) cs.length (cs.map fun v => [v]) := by
  refine ⟨by simp, by omega, by simp, .inr ⟨B, 0, rfl, (Array.getElem?_eq_some_iff.mp h).1, fun i row hi => ?_⟩⟩
  rw [List.getElem?_map] at hi
  cases hx : cs[i]? with
  | none => rw [hx] at hi; cases hi
  | some x =>
    rw [hx] at hi
    cases hi
    refine ⟨rfl, fun j u hj => ?_⟩
    have hj0 : j = 0 := by have := (List.getElem?_eq_some_iff.mp hj).1; simp at this; omega
    subst hj0
    cases hj
    rw [cell_of_row W B _ _ _ _ h]
    simp [hx]
theorem rows_keepK {w w' : World} {k : Nat} {a : Option Addr} {cap : Nat} {L : List (List Value)} (h : Rows w k a cap L) (hk : ∀ g ∈ blk a, w'.heap[g]? = w.heap[g]?) : Rows w' k a cap L := by
  obtain ⟨h1, h2, h3, h4⟩ := h
  refine ⟨h1, h2, h3, h4.imp_right fun ⟨b, off, ha, hlt, hc⟩ => ?_⟩
  have hb := hk b (by rw [ha]; simp [blk])
  refine ⟨b, off, ha, ?_, fun i row hi => ⟨(hc i row hi).1, fun j u hj => ?_⟩⟩
  · rw [Array.getElem?_eq_getElem hlt] at hb
    exact (Array.getElem?_eq_some_iff.mp hb).1
  · rw [cell_eqK hb]
    exact (hc i row hi).2 j u hj
theorem LvM.told {V W : World} {A H : Nat} {pa : Nat → Option Addr} {pc : Nat → Nat} {L : Nat → List Int} (h : LvM V W A H pa pc L) (hH : H ≤ 65536) : Mx W (some ⟨A, 0, none⟩) H H L := by
  refine ⟨pa, pc, ?_, fun k hk => own_rows (h.o k hk) (len1u _)⟩
  have := rows_sl h.a (by rw [slC_len]; exact hH)
  rwa [slC_len] at this
theorem ix_rowN (A n c : Nat) (j : Nat) (h : j < n) : ∀ wx, (Instr.indexAt 44 (.slice (some ⟨A, 0, none⟩) n c) (.int .i64 (j : Int))).run Try.prog wx = .ok (.pointer (some ⟨A, j, none⟩)) wx := by
  intro wx
  have u := Try.underlying44
  have z := Try.sizeOf39
  have q1 : (j : Int) < n := by omega
  have q2 : ¬ (j : Int) < 0 := by omega
  simp [Instr.indexAt, run_underlying u, asIntOf, go_sem, z, q1, q2, h]
theorem infoSi : (Try.prog.info? 39).map (fun i => (i.zero, i.size, i.bytes)) = some (some (.slice none 0 0), 1, 24) := by kernel_rfl
/-- A block of ints. -/
structure IntK (We W : World) (A : Nat) (hs : List Int) : Prop where
  a : W.heap[A]? = some (objInts hs)
  b : Below We.heap.size We W
  l : We.heap.size ≤ A
theorem IntK.later {We W W' : World} {A : Nat} {hs : List Int} (h : IntK We W A hs) (hb : Below W.heap.size W W') : IntK We W' A hs :=
  ⟨(hb.block _ (Array.getElem?_eq_some_iff.mp h.a).1).trans h.a, bthen h.b hb, h.l⟩
theorem IntK.set {We W : World} {A : Nat} {hs : List Int} (h : IntK We W A hs) (j : Nat) (v : Int) : IntK We (W.setCell ⟨A, j, none⟩ (.int .i64 v)) A (hs.set j v) := by
  rw [setCell_eq_setRow W A j _ _ _ _ h.a]
  refine ⟨?_, below_setRow h.b h.l _, h.l⟩
  rw [setRow_heap W A _ _ _ _ h.a]
  simp [List.map_set]
theorem IntK.cell {We W : World} {A : Nat} {hs : List Int} (h : IntK We W A hs) {j : Nat} (hj : j < hs.length) : W.cell? ⟨A, j, none⟩ = some (.int .i64 (hs.getD j 0)) ∧ W.frozen? ⟨A, j, none⟩ = false := by
  refine ⟨cell_of h.a ?_, frozen_of_row _ _ _ _ _ h.a⟩
  rw [List.getD_eq_getElem?_getD, List.getElem?_eq_getElem hj]
  simp [hj]
/-- Levels, as numbers; while they are gathered: of the goroutines below a, and the first m places of a. -/
def lvI (g : Nat → Nat) (n : Nat) (h : Nat → Int) (a m : Nat) (k : Nat) : List Int := (lvTo g n h (k : Int) a ++ ((plc g n a).take m).filter fun i => h i == (k : Int)).map fun i : Nat => (i : Int)
theorem lvI_next (g : Nat → Nat) (n : Nat) (h : Nat → Int) (a k : Nat) : lvI g n h a (plI g n a).length k = lvI g n h (a + 1) 0 k := by
  unfold lvI plI
  rw [List.length_map, List.take_length]
  show _ = List.map _ (lvTo g n h (k : Int) a ++ lvA g n h (k : Int) a ++ _)
  simp [lvA]
theorem lvI_more {g : Nat → Nat} {n : Nat} {h : Nat → Int} {a m x : Nat} (hx : (plc g n a)[m]? = some x) {j : Nat} (hj : h x = (j : Int)) (k : Nat) : updF (fun k => lvI g n h a m k) j (lvI g n h a m j ++ [(x : Int)]) k = lvI g n h a (m + 1) k := by
  have e : (plc g n a).take (m + 1) = (plc g n a).take m ++ [x] := by rw [List.take_add_one, hx]; rfl
  by_cases c : k = j
  · subst c
    rw [updF_at]
    unfold lvI
    rw [e, List.filter_append]
    simp [hj]
  · rw [updF_ne _ _ c]
    show lvI g n h a m k = _
    unfold lvI
    rw [e, List.filter_append]
    have : ¬ ((j : Int) = (k : Int)) := by omega
    simp [hj, this]
theorem lvI_zero (g : Nat → Nat) (n : Nat) (h : Nat → Int) (k : Nat) : lvI g n h 0 0 k = [] := by simp [lvI, lvTo]
theorem lvI_end (g : Nat → Nat) (n : Nat) (h : Nat → Int) (k : Nat) : lvI g n h 6 0 k = (lvRow g n h (k : Int)).map fun i : Nat => (i : Int) := by simp [lvI, lvRow]
theorem lvI_len (g : Nat → Nat) (n : Nat) (h : Nat → Int) (a m k : Nat) (hl : n ≤ 256) : (lvI g n h a m k).length ≤ 512 := by
  unfold lvI
  rw [List.length_map, List.length_append]
  have h1 : (lvTo g n h (k : Int) a).length ≤ n := by
    rw [← cnt_memS (n := n) _ (lvTo_nodup g n h (k : Int) a) fun x hx => (lvTo_mem.mp hx).1]
    exact cnt_le _ _
  have h2 := List.length_filter_le (fun i => h i == (k : Int)) ((plc g n a).take m)
  have h3 : (plc g n a).length ≤ n := by rw [plc_len]; exact cnt_le _ _
  rw [List.length_take] at h2
  omega
end Go.Proofs.Ytkadlopcomjonaa.pg
/- Foata's levels: package canon's Levels. -/
namespace Go.Proofs.Ytkadlopcomjonaa.pg
open Go.ChangeShapes Go.WideShapes Go.ChangeAt Go.RowKit Go.Shelf
set_option linter.unusedVariables false
set_option linter.unusedSimpArgs false
set_option maxRecDepth 100000
set_option maxHeartbeats 1000000 in
theorem kedges_bad (l : List Ev) (la : Option Addr) (lc : Nat) (w : World) (hl : Rows w 26 la lc (l.map Ev.cells)) (c : Int) (hc : checkP l c) (h0 : c = 2 ∨ c = 7) :
    Calls Try.prog 47 #[.slice la l.length lc] w fun e w' => e = .returned (.tuple #[.slice none 0 0, .int .i64 c]) ∧ Below w.heap.size w w' := by
  have c1 := look_bad l la lc (.slice none 0 0) w hl c hc h0
  have c2 : ∀ wx, Calls Try.prog 76 #[.slice none 0 0, .func (.func 77) #[] #[]] wx fun e w' => (∃ v, e = .returned v) ∧ w' = wx := fun wx => sort_nil wx
  have hx : ∀ w1 : World, (w1.alloc (.cells #[.slice none 0 0, .slice none 0 0, .slice none 0 0] 104)).cell? ⟨w1.heap.size, 2, none⟩ = some (.slice none 0 0) := fun w1 => cell_of (heap_alloc_new _ _) rfl
  clear hl hc h0
  go_enter Try.func47, Try.ntmps47
  go_wp2_with (first
    | (go_at_call 58; (with_reducible refine c1.mono ?_); rintro e w1 ⟨rfl, hb'⟩; (have hb : Hid (Below w.heap.size w w1) := hb'); (have hx1 := hx w1); clear hb' c1)
    | (refine wpList_store_new rfl 104 _ _ rfl rfl _ _ rfl (by kernel_rfl) rfl (one3 _ _ _ _ _ _ _ _ _) ?_)
    | (go_at_call 76; (with_reducible refine (c2 _).mono ?_); rintro e w2 ⟨⟨v, rfl⟩, rfl⟩))
  go_ret2
  exact ⟨rfl, bthen hb.out (boxed _ _)⟩
set_option maxHeartbeats 1000000 in
theorem levels_bad (l : List Ev) (la : Option Addr) (lc : Nat) (w : World) (hl : Rows w 26 la lc (l.map Ev.cells)) (c : Int) (hc : checkP l c) (h0 : c = 2 ∨ c = 7) :
    Calls Try.prog 21 #[.slice la l.length lc] w fun e w' => e = .returned (.tuple #[.slice none 0 0, .int .i64 c]) ∧ Below w.heap.size w w' := by
  have c1 := kedges_bad l la lc w hl c hc h0
  have d : (c != 0) = true := by rcases h0 with rfl | rfl <;> rfl
  clear hl hc h0
  go_enter Try.func21, Try.ntmps21
  go_wp2_with (go_at_call 47; (with_reducible refine c1.mono ?_); rintro e w1 ⟨rfl, hb'⟩; (have hb : Hid (Below w.heap.size w w1) := hb'); clear hb' c1)
  go_ret2
  exact ⟨rfl, hb.out⟩
/-- What Levels tells of a trace. -/
def LvT (l : List Ev) (B : Nat → Nat → Bool) (h : Nat → Int) (H : Nat) : Prop := High l.length (edgeB (dpf l) B) h ∧ Top l.length h H
def lvL (l : List Ev) (h : Nat → Int) (k : Nat) : List Int := (lvRow (gof l) l.length h (k : Int)).map fun i : Nat => (i : Int)
theorem lv_fits {l : List Ev} {B : Nat → Nat → Bool} {h : Nat → Int} {H : Nat} (q : LvT l B h H) {x : Nat} (hx : x < l.length) : ∃ j : Nat, h x = (j : Int) ∧ j < H := by
  have h1 := q.1.pos x hx
  have h2 := q.2.top x hx
  exact ⟨(h x).toNat, by omega, by omega⟩
theorem plc_mem {g : Nat → Nat} {n a m x : Nat} (h : (plc g n a)[m]? = some x) : x < n := (plc_at.mp h).1
theorem plI_at {g : Nat → Nat} {n a m : Nat} (h : m < (plI g n a).length) : ∃ x : Nat, (plI g n a)[m]? = some (x : Int) ∧ (plc g n a)[m]? = some x := by
  unfold plI at h ⊢
  rw [List.length_map] at h
  refine ⟨(plc g n a)[m], ?_, List.getElem?_eq_getElem h⟩
  rw [List.getElem?_map, List.getElem?_eq_getElem h]
  rfl
theorem lvm_new {V : World} {A H : Nat} (h : V.heap[A]? = some (.cells (List.replicate H (Value.slice none 0 0)).toArray 39 (0, 0))) : LvM V V A H (fun _ => none) (fun _ => 0) (fun _ => []) := by
  refine ⟨?_, (Array.getElem?_eq_some_iff.mp h).1, fun _ _ _ => rfl, Below.refl _ _, fun k _ => own_nil_q _ _ _ _, fun a b _ _ _ g hg => by cases hg⟩
  rw [h]
  congr 2
  unfold slC slv
  apply congrArg
  apply List.ext_getElem?
  intro i
  by_cases c : i < H <;> simp [c]
set_option maxHeartbeats 4000000 in
theorem levels_ok (l : List Ev) (la : Option Addr) (lc : Nat) (w : World) (hl : Rows w 26 la lc (l.map Ev.cells)) (hlen : l.length ≤ 256) (hrt : ∀ x ∈ l, rightP x) {B : Nat → Nat → Bool} (hB : Tells (dpf l) B) :
    Calls Try.prog 21 #[.slice la l.length lc] w fun e w' => ∃ (h : Nat → Int) (H A : Nat), e = .returned (.tuple #[.slice (some ⟨A, 0, none⟩) H H, .int .i64 0]) ∧ Hid (LvT l B h H ∧ Mx w' (some ⟨A, 0, none⟩) H H (lvL l h) ∧ Below w.heap.size w w') := by
  have c1 := edges_ok l la lc w hl hlen hrt
  have c2 : ∀ wx, Below w.heap.size w wx → Calls Try.prog 48 #[.slice la l.length lc] wx _ := fun wx hb => height_ok l la lc wx (hl.later hb) hlen hrt
  have c3 : ∀ wx, Below w.heap.size w wx → Calls Try.prog 49 #[.slice la l.length lc] wx _ := fun wx hb => byGo_any l la lc wx (hl.later hb) hlen hrt
  have hlI2 : (l.length : Int) ≤ 256 := by omega
  obtain ⟨iN, hiN, hzN, hsN, hbN⟩ := info_q infoN_u
  have hb8 : iN.bytes * l.length ≤ 281474976710656 := by rw [hbN]; omega
  obtain ⟨iS, hiS, hzS, hsS, hbS⟩ := info_q infoSi
  have iNH : Hid (Try.prog.info? 3 = some iN ∧ iN.zero = some (.int .i64 0) ∧ iN.size = 1 ∧ iN.bytes = 8 ∧ iN.bytes * l.length ≤ 281474976710656) := ⟨hiN, hzN, hsN, hbN, hb8⟩
  have iSH : Hid (Try.prog.info? 39 = some iS ∧ iS.zero = some (.slice none 0 0) ∧ iS.size = 1 ∧ iS.bytes = 24) := ⟨hiS, hzS, hsS, hbS⟩
  have hfacts : Hid (∀ D : List (Nat × Nat), D.Perm (rel (evf l) l.length).2 → D.Pairwise lex → D.length ≤ 65536 ∧ (∀ p ∈ D, p.1 < p.2 ∧ p.2 < l.length) ∧ ∃ H : Nat, (hfold l.length (rel (evf l) l.length).2).2 = (H : Int) ∧ H ≤ l.length ∧ LvT l B (fun j => (hfold l.length D).1.getD j 0) H) := fun D h1 h2 => by
    have hE := rel_edges (evf l) l.length hlen
    obtain ⟨H, q1, q2⟩ := lv_top hrt hB h1 h2
    exact ⟨by rw [h1.length_eq]; omega, lv_pairs hrt hB h1 h2, H, q1, top_le hB (lv_high hrt hB h1 h2) q2, lv_high hrt hB h1 h2, q2⟩
  have hlenH : Hid (l.length ≤ 256) := hlen
  clear hl hrt hB hiN hzN hsN hbN hb8 hiS hzS hsS hbS
  go_enter Try.func21, Try.ntmps21
  go_wp2_with (first
    | (go_at_call 47; (with_reducible refine c1.mono ?_); rintro e w1 ⟨da, dc, D, rfl, q1, q2, q3, q4⟩; (have hD := hfacts.out D q1 q2); (have hE : Hid (Rows w1 2 da dc (D.map edg) ∧ Below w.heap.size w w1) := ⟨q3, q4⟩); clear q1 q2 q3 q4 c1 hfacts)
    | (refine wpList_mk _ rfl _ _ 39 rfl 3 iN (.int .i64 0) Try.underlying39 iNH.out.1 iNH.out.2.1 rfl iNH.out.2.2.1 l.length rfl rfl iNH.out.2.2.2.2 (by omega) ?_; intro W hwh hbW hsW))
  obtain ⟨hDl, hpr', H, hHe, hHl, hT⟩ := hD
  have hTH : Hid ((hfold l.length (rel (evf l) l.length).2).2 = (H : Int) ∧ H ≤ l.length ∧ LvT l B (fun j => (hfold l.length D).1.getD j 0) H) := ⟨hHe, hHl, hT⟩
  have hpr : Hid (∀ p ∈ D, p.1 < p.2 ∧ p.2 < l.length) := hpr'
  have s0 : Hid (IntK w1 W w1.heap.size (hfold l.length (D.take 0)).1) := ⟨by rw [hwh]; simp [hfold], hbW, Nat.le_refl _⟩
  have hDI : (D.length : Int) ≤ 65536 := by omega
  obtain ⟨A, hA⟩ : ∃ A, w1.heap.size = A := ⟨_, rfl⟩
  have hAH : Hid (w1.heap.size = A) := hA
  rw [hA] at s0 ⊢
  clear hA hwh hbW hsW hHe hHl hT hpr' hDl
  go_loopw [31] (fun u wr => ∃ k : Nat, k ≤ D.length ∧ u = .int .i64 k ∧ Hid (IntK w1 wr A (hfold l.length (D.take k)).1)) (fun u _ => D.length - (intOf u).toNat)
  case atStart => exact ⟨0, Nat.zero_le _, rfl, s0⟩
  case round =>
    obtain ⟨k, hk, rfl, hs⟩ := hrel
    clear s0
    have hok1 := hfold_ok l.length D k hk
    by_cases hlt : k < D.length
    · obtain ⟨p, hp, hpm⟩ := get_lt D k hlt
      obtain ⟨p1, p2⟩ := hpr.out p hpm
      have hkI : (k : Int) < D.length := by omega
      have hmore : Hid ((hfold l.length (D.take (k + 1))).1 = (hstep (hfold l.length (D.take k)) p).1) := by show _ = _; rw [take_one D k p hp, hfold_more]
      obtain ⟨b, o, hix, hbl, hrg⟩ := (hE.out.1.later hs.out.b).ix 91 94 Try.underlying91 (by kernel_rfl) (fun wx => Try.sizeOf94 wx) k (row := edg p) (by simp [hp])
      rw [List.length_map] at hix
      have hrH : Hid (wr.rangeAt b o (edg p)) := hrg
      have hsP := hs.out.later (boxed wr (.cells (edg p).toArray 94))
      have hPP := heap_alloc_new wr (.cells (edg p).toArray 94)
      have cI := hsP.cell (j := p.1) (by rw [hok1.1]; omega)
      have cJ := hsP.cell (j := p.2) (by rw [hok1.1]; omega)
      have bI := getD_in hok1.2.1 p.1
      have bJ := getD_in hok1.2.1 p.2
      have xI := ix_int A l.length p.1 (by omega)
      have xJ := ix_int A l.length p.2 p2
      have huP : Hid (Try.prog.underlying 94 = _) := Try.underlying94
      have hiP : Hid ((Try.prog.info? 94).map (·.size) = some 2) := by show _ = _; kernel_rfl
      clear hrg hok1
      go_wp2_with (first
        | (refine wpList_load_mid rfl 94 _ rfl b o rfl (edg p) _ hrH.out huP.out rfl hiP.out ?_)
        | (refine wpList_store_new rfl 94 _ _ rfl rfl _ (edg p).toArray rfl (by kernel_rfl) rfl (by simp [edg, Value.oneCell']) ?_))
      have cP0 := cell_of (k := 0) (v := .int .i64 (p.1 : Int)) hPP rfl
      have cP1 := cell_of (k := 1) (v := .int .i64 (p.2 : Int)) hPP rfl
      have hsPH : Hid (IntK w1 (wr.alloc (.cells (edg p).toArray 94)) A (hfold l.length (D.take k)).1) := hsP
      clear hsP hPP
      generalize wr.alloc (.cells (edg p).toArray 94) = W2 at *
      generalize hfold l.length (D.take k) = s at *
      obtain ⟨ai, hai⟩ : ∃ ai, ai = s.1.getD p.1 0 := ⟨_, rfl⟩
      obtain ⟨aj, haj⟩ : ∃ aj, aj = s.1.getD p.2 0 := ⟨_, rfl⟩
      rw [← hai] at cI bI
      rw [← haj] at cJ bJ
      obtain ⟨m, hm⟩ : ∃ m, max aj (ai + 1) = m := ⟨_, rfl⟩
      have hst : Hid ((hstep s p).1 = s.1.set p.2 m) := by show _ = _; unfold hstep; rw [← hai, ← haj, hm]
      have hmb : 0 ≤ m ∧ m ≤ 70000 := by rw [← hm, Int.max_def]; split <;> omega
      have hw1 : wrap64 (ai + 1) = ai + 1 := by simp only [wrap64]; omega
      have cI1 := cI.1
      have cJ1 := cJ.1
      have cJ2 := cJ.2
      clear hai haj cI cJ
      go_quiet (fail)
      go_wp2_with fail
      go_region
      have hs3 : Hid (IntK w1 ((W2.drewN (nq + 1)).setCell ⟨A, p.2, none⟩ (.int .i64 m)) A (s.1.set p.2 m)) := (hsPH.out.later (below_drewN (Below.refl _ _) (nq + 1))).set p.2 m
      generalize (W2.drewN (nq + 1)).setCell ⟨A, p.2, none⟩ (.int .i64 m) = W3 at *
      go_wp2
      go_roundw
      case rel => exact ⟨k + 1, by omega, by go_num, by rw [hmore.out, hst.out]; exact hs3⟩
      case measure => simp [intOf]; omega
    · have hk2 : k = D.length := by omega
      subst hk2
      have hs1 : Hid (IntK w1 wr A (hfold l.length D).1) := by have := hs.out; rw [List.take_length] at this; exact this
      have hlevL : Hid ((hfold l.length D).1.length = l.length) := by have := hok1.1; rw [List.take_length] at this; exact this
      have hbr : Hid (Below w.heap.size w wr) := bthen hE.out.2 hs.out.b
      clear hok1 hs hpr
      obtain ⟨lev, hlev⟩ : ∃ lev, (hfold l.length D).1 = lev := ⟨_, rfl⟩
      rw [hlev] at hTH hs1 hlevL
      clear hlev
      have hHB : iS.bytes * H ≤ 281474976710656 := by have := hTH.out.2.1; have := hlenH.out; rw [iSH.out.2.2.2]; omega
      have hHI : (H : Int) ≤ 256 := by have := hTH.out.2.1; have := hlenH.out; omega
      go_upto_region 14 with (first
        | (go_at_call 48; (refine (c2 _ hbr.out).mono ?_); rintro e w2 ⟨he2, hb2⟩; rw [hTH.out.1] at he2; subst he2; (have hbr2 : Hid (Below w.heap.size w w2 ∧ Below wr.heap.size wr w2) := ⟨bthen hbr.out hb2, hb2⟩); clear hb2 c2)
        | (refine wpList_mk _ rfl _ _ 44 rfl 39 iS (.slice none 0 0) Try.underlying44 iSH.out.1 iSH.out.2.1 rfl iSH.out.2.2.1 H rfl rfl hHB (by omega) ?_; intro W3 hwh3 hbW3 hsW3; (have hbr3 : Hid (Below w.heap.size w W3) := bthen hbr2.out.1 hbW3))
        | (go_at_call 49; (refine (c3 _ hbr3.out).mono ?_); rintro e V ⟨pl, pm, rfl, hsix, hb4⟩; clear c3))
      have hlv : Hid (∀ W', Below A V W' → (∀ b, b < V.heap.size → b ≠ w2.heap.size → W'.heap[b]? = V.heap[b]?) → ∀ x, x < l.length → W'.cell? ⟨A, x, none⟩ = some (.int .i64 (lev.getD x 0))) := fun W' _ hk' x hx => by
        have h1 : wr.heap[A]? = _ := hs1.out.a
        have hAw : A < wr.heap.size := (Array.getElem?_eq_some_iff.mp h1).1
        have hz2 := hbr2.out.2.size
        have hz3 := hbW3.size
        have hz4 := hb4.size
        have h2 := (hk' A (by omega) (by omega)).trans ((hb4.block A (by omega)).trans ((hbW3.block A (by omega)).trans ((hbr2.out.2.block A hAw).trans h1)))
        refine cell_of h2 ?_
        have hx2 : x < lev.length := by rw [hlevL.out]; exact hx
        rw [List.getD_eq_getElem?_getD, List.getElem?_eq_getElem hx2]
        simp [hx2]
      have hA2 : Hid (A < w2.heap.size) := by
        have h1 : wr.heap[A]? = _ := hs1.out.a
        have hAw : A < wr.heap.size := (Array.getElem?_eq_some_iff.mp h1).1
        have hz2 := hbr2.out.2.size
        show A < w2.heap.size
        omega
      have hbV : Hid (Below w.heap.size w V) := bthen hbr3.out hb4
      have hwA : Hid (w.heap.size ≤ w2.heap.size) := hbr2.out.1.size
      have hsixH : Hid (∀ a, a < 6 → Rows V 1 (pl a) (pm a) ((plI (gof l) l.length a).map chCells) ∧ ∀ g ∈ blk (pl a), w2.heap.size < g ∧ g < V.heap.size) := fun a ha => ⟨own_rows (hsix.ow a ha) (len1u _), fun g hg => by
        have := blk_lt (hsix.ow a ha) g hg
        have e : w2.heap.size < W3.heap.size := (Array.getElem?_eq_some_iff.mp hwh3).1
        omega⟩
      have m0 : Hid (LvM V V w2.heap.size H (fun _ => none) (fun _ => 0) (fun k => lvI (gof l) l.length (fun j => lev.getD j 0) 0 0 k)) := by
        have e : w2.heap.size < W3.heap.size := (Array.getElem?_eq_some_iff.mp hwh3).1
        exact (lvm_new ((hb4.block _ e).trans hwh3)).congr fun k _ => (lvI_zero _ _ _ k).symm
      obtain ⟨A2, hA2e⟩ : ∃ A2, w2.heap.size = A2 := ⟨_, rfl⟩
      rw [hA2e] at m0 hlv hsixH hA2 hwA ⊢
      clear hA2e hwh3 hbW3 hsW3 hsix hb4 hbr hbr2 hbr3 hs1 hlevL hE
      have hT2 : Hid (LvT l B (fun j => lev.getD j 0) H) := hTH.out.2.2
      clear hTH
      go_loopw [62] (fun u wq => ∃ (a : Nat) (pa : Nat → Option Addr) (pc : Nat → Nat), a ≤ 6 ∧ u = .int .i64 (a : Int) ∧ Hid (LvM V wq A2 H pa pc fun k => lvI (gof l) l.length (fun j => lev.getD j 0) a 0 k)) (fun u _ => 6 - (intOf u).toNat)
      case atStart => exact ⟨0, _, _, Nat.zero_le _, rfl, m0⟩
      case round =>
        rename World => wq
        obtain ⟨a, pa, pc, ha, rfl, hm⟩ := hrel
        clear m0
        by_cases hlt6 : a < 6
        · have haI : (a : Int) < 6 := by omega
          have x6 := ix_sixv (sixC pl pm fun a => plI (gof l) l.length a) _ a hlt6 rfl (by have := sixC_at (pa := pl) (pc := pm) (L := fun a => plI (gof l) l.length a) hlt6; simpa using this) rfl
          have e6 : slv pl pm (fun a => plI (gof l) l.length a) a = .slice (pl a) (plI (gof l) l.length a).length (pm a) := rfl
          rw [e6] at x6
          have hpn := plI_len (gof l) l.length a
          have hpI : ((plI (gof l) l.length a).length : Int) ≤ 256 := by omega
          have hm0 : Hid (LvM V wq A2 H pa pc fun k => lvI (gof l) l.length (fun j => lev.getD j 0) a 0 k) := hm
          clear hm
          go_wp2_with fail
          go_loopw [67] (fun u wz => ∃ (m : Nat) (pa : Nat → Option Addr) (pc : Nat → Nat), m ≤ (plI (gof l) l.length a).length ∧ u = .int .i64 (m : Int) ∧ Hid (LvM V wz A2 H pa pc fun k => lvI (gof l) l.length (fun j => lev.getD j 0) a m k)) (fun u _ => (plI (gof l) l.length a).length - (intOf u).toNat)
          case atStart => exact ⟨0, _, _, Nat.zero_le _, rfl, hm0⟩
          case round =>
            rename World => wz
            obtain ⟨m, pa, pc, hmk, rfl, hm⟩ := hrel
            clear hm0 x6 e6
            by_cases hltm : m < (plI (gof l) l.length a).length
            · have hmI : (m : Int) < ((plI (gof l) l.length a).length : Int) := by omega
              obtain ⟨x, hx1, hx2⟩ := plI_at hltm
              have hxl := plc_mem hx2
              have hb6 := hsixH.out a hlt6
              have hrz : Rows wz 1 (pl a) (pm a) ((plI (gof l) l.length a).map chCells) := rows_keepK hb6.1 fun g hg => hm.out.k g (hb6.2 g hg).2 (by have := (hb6.2 g hg).1; omega)
              obtain ⟨b1, o1, xi, bl1, ci⟩ := ch_ixK hrz m (x : Int) hx1
              have xL := ix_int A l.length x hxl
              obtain ⟨j, hj, hjH⟩ := lv_fits hT2.out hxl
              have xR := ix_rowN A2 H H j hjH
              have cL : Hid (∀ W', Below A V W' → (∀ b, b < V.heap.size → b ≠ A2 → W'.heap[b]? = V.heap[b]?) → W'.cell? ⟨A, x, none⟩ = some (.int .i64 (j : Int))) := fun W' h1 h2 => by
                have := hlv.out W' h1 h2 x hxl
                have hj2 : lev.getD x 0 = (j : Int) := hj
                rw [hj2] at this
                exact this
              have hjs : Hid (lev.getD x 0 = (j : Int)) := hj
              clear hrz hb6 hj
              go_upto_region 19 with fail
              have hlvl : Hid ((lvI (gof l) l.length (fun j => lev.getD j 0) a m j).length ≤ 512) := lvI_len _ _ _ _ _ _ hlenH.out
              have c0 : wz.cell? ⟨A, x, none⟩ = some (.int .i64 (j : Int)) := cL.out wz (hm.out.b.mono (by have := hA2.out; omega)) hm.out.k
              have c1 : wz.cell? ⟨A2, j, none⟩ = some (.slice (pa j) (lvI (gof l) l.length (fun j => lev.getD j 0) a m j).length (pc j)) := cell_ofK hm.out.a (slC_at hjH)
              refine (wpIn_wide (n := 0)).1 ?_
              refine y_region (fun w' => w'.cell? ⟨A, x, none⟩ = some (.int .i64 (j : Int)) ∧ w'.cell? ⟨A2, j, none⟩ = some (.slice (pa j) (lvI (gof l) l.length (fun j => lev.getD j 0) a m j).length (pc j))) 16 (by kernel_rfl) ?_
              have hS : wz.drew.cell? ⟨A, x, none⟩ = some (.int .i64 (j : Int)) ∧ wz.drew.cell? ⟨A2, j, none⟩ = some (.slice (pa j) (lvI (gof l) l.length (fun j => lev.getD j 0) a m j).length (pc j)) := ⟨c0, c1⟩
              refine y_move (i := 0) rfl (by kernel_rfl) (by kernel_rfl) (by kernel_rfl) (by kernel_rfl) rfl (fun _ _ _ _ h => h) rfl (.slice (some ⟨A2, 0, none⟩) H H) (fun _ => by kernel_rfl) hS ?_
              simp only [Act.put, List.getElem_toArray, List.getElem_cons_succ, List.getElem_cons_zero, List.setIfInBounds_toArray, List.set_cons_zero, List.set_cons_succ]
              refine y_move (i := 1) rfl (by kernel_rfl) (by kernel_rfl) (by kernel_rfl) (by kernel_rfl) rfl (fun _ _ _ _ h => h) rfl (.slice (some ⟨A, 0, none⟩) l.length l.length) (fun _ => by kernel_rfl) hS ?_
              simp only [Act.put, List.getElem_toArray, List.getElem_cons_succ, List.getElem_cons_zero, List.setIfInBounds_toArray, List.set_cons_zero, List.set_cons_succ]
              refine y_move (i := 2) rfl (by kernel_rfl) (by kernel_rfl) (by kernel_rfl) (by kernel_rfl) rfl (fun _ _ _ _ h => h) rfl (.int .i64 (x : Int)) (fun _ => by kernel_rfl) hS ?_
              simp only [Act.put, List.getElem_toArray, List.getElem_cons_succ, List.getElem_cons_zero, List.setIfInBounds_toArray, List.set_cons_zero, List.set_cons_succ]
              refine y_move (i := 3) rfl (by kernel_rfl) (by kernel_rfl) (by kernel_rfl) (by kernel_rfl) rfl (fun _ _ _ _ h => h) rfl (.pointer (some ⟨A, x, none⟩)) (fun wx => by unfold execOp; exact run_value_of (xL wx)) hS ?_
              simp only [Act.put, List.getElem_toArray, List.getElem_cons_succ, List.getElem_cons_zero, List.setIfInBounds_toArray, List.set_cons_zero, List.set_cons_succ]
              refine y_load1 (i := 4) rfl (by kernel_rfl) (by kernel_rfl) (by kernel_rfl) (by kernel_rfl) rfl (fun _ _ _ _ h => h) rfl 3 _ rfl ⟨A, x, none⟩ rfl _ Try.underlying3 rfl (.int .i64 (j : Int)) (fun w' h' => h'.1) hS ?_
              simp only [Act.put, List.getElem_toArray, List.getElem_cons_succ, List.getElem_cons_zero, List.setIfInBounds_toArray, List.set_cons_zero, List.set_cons_succ]
              refine y_move (i := 5) rfl (by kernel_rfl) (by kernel_rfl) (by kernel_rfl) (by kernel_rfl) rfl (fun _ _ _ _ h => h) rfl (.slice (some ⟨A2, 0, none⟩) H H) (fun _ => by kernel_rfl) hS ?_
              simp only [Act.put, List.getElem_toArray, List.getElem_cons_succ, List.getElem_cons_zero, List.setIfInBounds_toArray, List.set_cons_zero, List.set_cons_succ]
              refine y_move (i := 6) rfl (by kernel_rfl) (by kernel_rfl) (by kernel_rfl) (by kernel_rfl) rfl (fun _ _ _ _ h => h) rfl (.slice (some ⟨A, 0, none⟩) l.length l.length) (fun _ => by kernel_rfl) hS ?_
              simp only [Act.put, List.getElem_toArray, List.getElem_cons_succ, List.getElem_cons_zero, List.setIfInBounds_toArray, List.set_cons_zero, List.set_cons_succ]
              refine y_move (i := 7) rfl (by kernel_rfl) (by kernel_rfl) (by kernel_rfl) (by kernel_rfl) rfl (fun _ _ _ _ h => h) rfl (.int .i64 (x : Int)) (fun _ => by kernel_rfl) hS ?_
              simp only [Act.put, List.getElem_toArray, List.getElem_cons_succ, List.getElem_cons_zero, List.setIfInBounds_toArray, List.set_cons_zero, List.set_cons_succ]
              refine y_move (i := 8) rfl (by kernel_rfl) (by kernel_rfl) (by kernel_rfl) (by kernel_rfl) rfl (fun _ _ _ _ h => h) rfl (.pointer (some ⟨A, x, none⟩)) (fun wx => by unfold execOp; exact run_value_of (xL wx)) hS ?_
              simp only [Act.put, List.getElem_toArray, List.getElem_cons_succ, List.getElem_cons_zero, List.setIfInBounds_toArray, List.set_cons_zero, List.set_cons_succ]
              refine y_load1 (i := 9) rfl (by kernel_rfl) (by kernel_rfl) (by kernel_rfl) (by kernel_rfl) rfl (fun _ _ _ _ h => h) rfl 3 _ rfl ⟨A, x, none⟩ rfl _ Try.underlying3 rfl (.int .i64 (j : Int)) (fun w' h' => h'.1) hS ?_
              simp only [Act.put, List.getElem_toArray, List.getElem_cons_succ, List.getElem_cons_zero, List.setIfInBounds_toArray, List.set_cons_zero, List.set_cons_succ]
              refine y_move (i := 10) rfl (by kernel_rfl) (by kernel_rfl) (by kernel_rfl) (by kernel_rfl) rfl (fun _ _ _ _ h => h) rfl (.pointer (some ⟨A2, j, none⟩)) (fun wx => by unfold execOp; exact run_value_of (xR wx)) hS ?_
              simp only [Act.put, List.getElem_toArray, List.getElem_cons_succ, List.getElem_cons_zero, List.setIfInBounds_toArray, List.set_cons_zero, List.set_cons_succ]
              refine y_load1 (i := 11) rfl (by kernel_rfl) (by kernel_rfl) (by kernel_rfl) (by kernel_rfl) rfl (fun _ _ _ _ h => h) rfl 39 _ rfl ⟨A2, j, none⟩ rfl _ Try.underlying39 rfl (.slice (pa j) (lvI (gof l) l.length (fun j => lev.getD j 0) a m j).length (pc j)) (fun w' h' => h'.2) hS ?_
              simp only [Act.put, List.getElem_toArray, List.getElem_cons_succ, List.getElem_cons_zero, List.setIfInBounds_toArray, List.set_cons_zero, List.set_cons_succ]
              refine y_move (i := 12) rfl (by kernel_rfl) (by kernel_rfl) (by kernel_rfl) (by kernel_rfl) rfl (fun _ _ _ _ h => h) rfl (.int .i64 (x : Int)) (fun _ => by kernel_rfl) hS ?_
              simp only [Act.put, List.getElem_toArray, List.getElem_cons_succ, List.getElem_cons_zero, List.setIfInBounds_toArray, List.set_cons_zero, List.set_cons_succ]
              have hS3 : (wz.drew.alloc (.cells (chCells (x : Int)).toArray 3)).cell? ⟨A, x, none⟩ = some (.int .i64 (j : Int)) ∧ (wz.drew.alloc (.cells (chCells (x : Int)).toArray 3)).cell? ⟨A2, j, none⟩ = some (.slice (pa j) (lvI (gof l) l.length (fun j => lev.getD j 0) a m j).length (pc j)) := ⟨cell_later (boxed _ _) hS.1, cell_later (boxed _ _) hS.2⟩
              refine y_one (i := 13) (by kernel_rfl) rfl rfl rfl (wpList_buildSlice rfl 39 3 1 _ rfl (chCells (x : Int)).toArray iN _ Try.underlying39 iNH.out.1 iNH.out.2.1 (by rw [iNH.out.2.2.1]; omega) (by rw [iNH.out.2.2.1]; omega) (by simp only [iNH.out.2.2.1]; kernel_rfl) (wpList_nil (And.intro hS3 ?_)))
              simp only [Act.put, List.getElem_toArray, List.getElem_cons_succ, List.getElem_cons_zero, List.setIfInBounds_toArray, List.set_cons_zero, List.set_cons_succ]
              have hmd : LvM V wz.drew A2 H pa pc (fun k => lvI (gof l) l.length (fun j => lev.getD j 0) a m k) := hm.out.later (bey_drew wz)
              refine y_one (i := 14) (by kernel_rfl) rfl rfl rfl (wpList_app1 (wr := wz.drew) rfl (.tmp 82) (.tmp 84) 39 rfl V.heap.size 3 iN _ 1 8 Try.underlying39 iNH.out.1 iNH.out.2.1 iNH.out.2.2.1 iNH.out.2.2.2.1 rfl (by decide) (pa j) (pc j) ((lvI (gof l) l.length (fun j => lev.getD j 0) a m j).map chCells) (by rw [List.length_map]; rfl) (hmd.o j hjH) (chCells (x : Int)) rfl rfl (one1u _) (by rw [List.length_map]; have := hlvl.out; unfold maxLen; omega) (by rw [List.length_map]; have := hlvl.out; omega) (by exact hmd.sz) ?_)
              intro va' vc' w8 g8
              rw [List.length_map]
              obtain ⟨r8, s9⟩ := hmd.put hjH g8
              have hS8 : w8.cell? ⟨A, x, none⟩ = some (.int .i64 (j : Int)) ∧ w8.cell? ⟨A2, j, none⟩ = some (.slice (pa j) (lvI (gof l) l.length (fun j => lev.getD j 0) a m j).length (pc j)) := ⟨by
                have hAV : A < V.heap.size := by have h1 := hmd.al; have h2 := hA2.out; omega
                rw [cell_eqK (g8.kp A (by have := hmd.sz; omega) (fun q => by have := (blk_lt (hmd.o j hjH) _ q).1; omega))]
                exact hS.1, cell_ofK r8 (slC_at hjH)⟩
              refine wpList_nil (And.intro hS8 ?_)
              simp only [Act.put, List.getElem_toArray, List.getElem_cons_succ, List.getElem_cons_zero, List.setIfInBounds_toArray, List.set_cons_zero, List.set_cons_succ]
              refine y_move (i := 15) rfl (by kernel_rfl) (by kernel_rfl) (by kernel_rfl) (by kernel_rfl) rfl (fun _ _ _ _ h => h) rfl (.pointer (some ⟨A2, j, none⟩)) (fun wx => by unfold execOp; exact run_value_of (xR wx)) hS8 ?_
              simp only [Act.put, List.getElem_toArray, List.getElem_cons_succ, List.getElem_cons_zero, List.setIfInBounds_toArray, List.set_cons_zero, List.set_cons_succ]
              refine y_leave (by kernel_rfl) rfl rfl (wpList_puts rfl 39 _ _ rfl ⟨A2, j, none⟩ rfl va' ((lvI (gof l) l.length (fun j => lev.getD j 0) a m j).length + 1) vc' rfl (by kernel_rfl) _ hS8.2 (frozen_of_row _ _ _ _ _ r8) ?_)
              intro W9 hW9
              have s10 : Hid (LvM V W9 A2 H (updF pa j va') (updF pc j vc') (fun k => lvI (gof l) l.length (fun j => lev.getD j 0) a (m + 1) k)) := by
                rw [hW9]
                exact s9.congr fun k _ => lvI_more hx2 hjs.out k
              clear hW9 s9 r8 g8 hS8 hS3 hmd hS c0 c1 hm
              refine wpList_nil ?_
              simp only [Act.put, List.getElem_toArray, List.getElem_cons_succ, List.getElem_cons_zero, List.setIfInBounds_toArray, List.set_cons_zero, List.set_cons_succ]
              refine wpAnyIn_done (by kernel_rfl) ?_ _
              go_wp2_with fail
              go_roundw
              case rel => exact ⟨m + 1, _, _, by omega, by go_num, s10⟩
              case measure => simp [intOf]; omega
            · have hme : m = (plI (gof l) l.length a).length := by omega
              have hmI : ¬ ((m : Int) < ((plI (gof l) l.length a).length : Int)) := by omega
              have hm2 : Hid (LvM V wz A2 H pa pc (fun k => lvI (gof l) l.length (fun j => lev.getD j 0) (a + 1) 0 k)) := hm.out.congr fun k _ => by
                rw [hme]; exact lvI_next _ _ _ _ _
              clear hm hme
              go_wp2_with fail
              go_roundw
              case rel => exact ⟨a + 1, _, _, by omega, by go_num, hm2⟩
              case measure => simp [intOf]; omega
        · have hae : a = 6 := by omega
          subst hae
          have hfin : Hid (Mx wq (some ⟨A2, 0, none⟩) H H (lvL l fun j => lev.getD j 0) ∧ Below w.heap.size w wq) := by
            have h1 : H ≤ 65536 := by omega
            refine ⟨?_, hbV.out.trans (hm.out.b.mono hwA.out)⟩
            exact (hm.out.congr (L' := lvL l fun j => lev.getD j 0) fun k _ => lvI_end _ _ _ k).told h1
          clear hm
          go_wp2
          go_ret2
          exact ⟨fun j => lev.getD j 0, H, A2, rfl, ⟨hT2.out, hfin.out.1, hfin.out.2⟩⟩
end Go.Proofs.Ytkadlopcomjonaa.pg
