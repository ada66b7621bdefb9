/- Orders that keep what happens before what: what may come next, the canonical order, how many there are. -/
import Derived.Test.YtkadlopcomjonaaDoorM1
import Derived.WalkKit
import Derived.ProofKit
import Derived.OpenShut
import Derived.Deep.Slices
import Derived.ChangeSame
import Derived.WalkSmall
import Derived.Lib.SmallJoins
import Derived.Test.YtkadlopcomjonaaDoorProg
import Derived.WalkSpells
namespace Go.Proofs.YtkadlopcomjonaaDoor.pg
set_option linter.unusedVariables false
theorem cnt_up {p : Nat → Bool} {m : Nat} : ∀ {n : Nat}, m ≤ n → cnt p m ≤ cnt p n
  | 0, h => by have : m = 0 := by omega
               subst this; exact Nat.le_refl _
  | n + 1, h => by
    by_cases e : m = n + 1
    · subst e; exact Nat.le_refl _
    · have := cnt_up (p := p) (m := m) (n := n) (by omega)
      show _ ≤ cnt p n + _
      omega
theorem cnt_step {p : Nat → Bool} {m n : Nat} (h : m < n) (hp : p m = true) : cnt p m < cnt p n := by
  have h1 := cnt_up (p := p) (show m + 1 ≤ n by omega)
  have h2 : cnt p (m + 1) = cnt p m + 1 := by show cnt p m + _ = _; rw [if_pos hp]
  omega
theorem cnt_ins {p : Nat → Bool} {x : Nat} (hp : p x = false) : ∀ {n : Nat}, x < n → cnt (fun k => p k || k == x) n = cnt p n + 1
  | 0, h => by omega
  | n + 1, h => by
    show cnt (fun k => p k || k == x) n + (if (p n || n == x) = true then 1 else 0) = cnt p n + (if p n = true then 1 else 0) + 1
    by_cases e : x = n
    · subst e
      have : cnt (fun k => p k || k == x) x = cnt p x := cnt_congr fun k hk => by
        have : (k == x) = false := by simp; omega
        rw [this, Bool.or_false]
      rw [this, hp]
      simp
    · have ih := cnt_ins hp (n := n) (by omega)
      have : (n == x) = false := by simp; omega
      rw [ih, this, Bool.or_false]
      omega
/-- May it come next behind what is placed? -/
def freeB (B : Nat → Nat → Bool) (S : Nat → Bool) (i : Nat) : Bool := !S i && (List.range i).all fun j => S j || !B j i
theorem freeB_iff {B : Nat → Nat → Bool} {S : Nat → Bool} {i : Nat} : freeB B S i = true ↔ S i = false ∧ ∀ j, j < i → B j i = true → S j = true := by
  unfold freeB
  rw [Bool.and_eq_true, Bool.not_eq_true', List.all_eq_true]
  constructor
  · rintro ⟨h1, h2⟩
    refine ⟨h1, fun j hj hb => ?_⟩
    have := h2 j (List.mem_range.mpr hj)
    rw [hb] at this
    simpa using this
  · rintro ⟨h1, h2⟩
    refine ⟨h1, fun j hj => ?_⟩
    have := h2 j (List.mem_range.mp hj)
    cases hb : B j i with
    | false => simp
    | true => simp [this hb]
/-- The one that the canonical order takes. -/
structure Pick (B : Nat → Nat → Bool) (g : Nat → Nat) (n : Nat) (S : Nat → Bool) (i : Nat) : Prop where
  lt : i < n
  fr : freeB B S i = true
  lo : ∀ k, k < n → freeB B S k = true → g i ≤ g k
  fi : ∀ k, k < n → freeB B S k = true → g k = g i → i ≤ k
theorem Pick.same {B : Nat → Nat → Bool} {g : Nat → Nat} {n : Nat} {S : Nat → Bool} {i j : Nat} (h : Pick B g n S i) (h' : Pick B g n S j) : i = j := by
  have h1 := h.lo j h'.lt h'.fr
  have h2 := h'.lo i h.lt h.fr
  have h3 := h.fi j h'.lt h'.fr (by omega)
  have h4 := h'.fi i h.lt h.fr (by omega)
  omega
def memS (L : List Nat) (i : Nat) : Bool := decide (i ∈ L)
def insS (S : Nat → Bool) (x i : Nat) : Bool := S i || i == x
theorem memS_nil : memS [] = fun _ => false := by funext i; simp [memS]
theorem memS_snoc (L : List Nat) (x : Nat) : memS (L ++ [x]) = insS (memS L) x := by
  funext i
  unfold memS insS
  rw [Bool.eq_iff_iff]
  simp
/-- The beginning of the canonical order. -/
def OrdL (B : Nat → Nat → Bool) (g : Nat → Nat) (n : Nat) (L : List Nat) : Prop := ∀ k x, L[k]? = some x → Pick B g n (memS (L.take k)) x
/-- The beginning of any order that keeps what happens before what. -/
def LinP (B : Nat → Nat → Bool) (n : Nat) (L : List Nat) : Prop := ∀ k x, L[k]? = some x → x < n ∧ freeB B (memS (L.take k)) x = true
theorem OrdL.same {B : Nat → Nat → Bool} {g : Nat → Nat} {n : Nat} {L L' : List Nat} (h : OrdL B g n L) (h' : OrdL B g n L') (e : L.length = L'.length) : L = L' := by
  have key : ∀ k, k ≤ L.length → L.take k = L'.take k := by
    intro k
    induction k with
    | zero => intro _; simp
    | succ k ih =>
      intro hk
      have ih := ih (by omega)
      have h1 : L[k]? = some (L[k]'(by omega)) := List.getElem?_eq_getElem (by omega)
      have h2 : L'[k]? = some (L'[k]'(by omega)) := List.getElem?_eq_getElem (by omega)
      have p1 := h k _ h1
      have p2 := h' k _ h2
      rw [ih] at p1
      rw [List.take_add_one, List.take_add_one, h1, h2, p1.same p2, ih]
  have := key L.length (Nat.le_refl _)
  rwa [List.take_length, e, List.take_length] at this
theorem snoc_at {P : List Nat → Nat → Prop} {L : List Nat} {x : Nat} (h : ∀ k y, L[k]? = some y → P (L.take k) y) (hx : P L x) : ∀ k y, (L ++ [x])[k]? = some y → P ((L ++ [x]).take k) y := by
  intro k y q
  by_cases c : k < L.length
  · rw [List.getElem?_append_left c] at q
    rw [List.take_append_of_le_length (by omega)]
    exact h k y q
  · rw [List.getElem?_append_right (by omega)] at q
    have hk : k = L.length := by
      have := (List.getElem?_eq_some_iff.mp q).1
      simp only [List.length_cons, List.length_nil] at this
      omega
    subst hk
    rw [Nat.sub_self] at q
    simp only [List.getElem?_cons_zero, Option.some.injEq] at q
    subst q
    rwa [List.take_left]
theorem OrdL.nil (B : Nat → Nat → Bool) (g : Nat → Nat) (n : Nat) : OrdL B g n [] := fun k x h => by simp at h
theorem OrdL.snoc {B : Nat → Nat → Bool} {g : Nat → Nat} {n : Nat} {L : List Nat} {x : Nat} (h : OrdL B g n L) (hx : Pick B g n (memS L) x) : OrdL B g n (L ++ [x]) := snoc_at (P := fun L x => Pick B g n (memS L) x) h hx
theorem OrdL.lin {B : Nat → Nat → Bool} {g : Nat → Nat} {n : Nat} {L : List Nat} (h : OrdL B g n L) : LinP B n L := fun k x q => ⟨(h k x q).lt, (h k x q).fr⟩
theorem LinP.nil (B : Nat → Nat → Bool) (n : Nat) : LinP B n [] := fun k x h => by simp at h
theorem LinP.snoc {B : Nat → Nat → Bool} {n : Nat} {L : List Nat} {x : Nat} (h : LinP B n L) (hx : x < n) (hf : freeB B (memS L) x = true) : LinP B n (L ++ [x]) := snoc_at (P := fun L x => x < n ∧ freeB B (memS L) x = true) h ⟨hx, hf⟩
/-- A set that has the past of all its own. -/
structure DownS (B : Nat → Nat → Bool) (n : Nat) (S : Nat → Bool) : Prop where
  lt : ∀ i, S i = true → i < n
  dn : ∀ i j, B j i = true → S i = true → S j = true
theorem DownS.nil (B : Nat → Nat → Bool) (n : Nat) : DownS B n fun _ => false := ⟨fun i h => (by cases h), fun i j _ h => (by cases h)⟩
theorem LinP.lt {B : Nat → Nat → Bool} {n : Nat} {L : List Nat} (h : LinP B n L) : ∀ x ∈ L, x < n := fun x hx => by
  obtain ⟨k, hk, e⟩ := List.getElem_of_mem hx
  exact (h k x (by rw [← e]; exact List.getElem?_eq_getElem hk)).1
theorem LinP.nodup {B : Nat → Nat → Bool} {n : Nat} {L : List Nat} (h : LinP B n L) : L.Nodup := by
  rw [List.nodup_iff_pairwise_ne, List.pairwise_iff_getElem]
  intro i j hi hj hij e
  have h1 := (freeB_iff.mp (h j _ (List.getElem?_eq_getElem hj)).2).1
  have : L[j] ∈ L.take j := by
    rw [← e]
    exact List.mem_iff_getElem?.mpr ⟨i, by rw [List.getElem?_take_of_lt hij]; exact List.getElem?_eq_getElem hi⟩
  unfold memS at h1
  rw [decide_eq_false_iff_not] at h1
  exact h1 this
section
variable {d B : Nat → Nat → Bool} (hB : Tells d B) {g : Nat → Nat} {n : Nat} (ho : Ord d g n)
include hB
theorem LinP.down {L : List Nat} (h : LinP B n L) : DownS B n (memS L) := by
  refine ⟨fun i hi => h.lt i (of_decide_eq_true hi), fun i j hb hi => ?_⟩
  obtain ⟨k, hk, e⟩ := List.getElem_of_mem (of_decide_eq_true hi)
  have h1 := (freeB_iff.mp (h k i (by rw [← e]; exact List.getElem?_eq_getElem hk)).2).2 j ((hB j i).mp hb).lt hb
  exact decide_eq_true (List.mem_of_mem_take (of_decide_eq_true h1))
theorem DownS.ins {S : Nat → Bool} (h : DownS B n S) {x : Nat} (hx : x < n) (hf : freeB B S x = true) : DownS B n (insS S x) := by
  refine ⟨fun i hi => ?_, fun i j hb hi => ?_⟩
  · unfold insS at hi
    rw [Bool.or_eq_true, beq_iff_eq] at hi
    rcases hi with hi | rfl
    · exact h.lt i hi
    · exact hx
  · unfold insS at hi ⊢
    rw [Bool.or_eq_true, beq_iff_eq] at hi
    rw [Bool.or_eq_true]
    left
    rcases hi with hi | rfl
    · exact h.dn i j hb hi
    · exact (freeB_iff.mp hf).2 j ((hB j i).mp hb).lt hb
include ho
theorem DownS.chn {S : Nat → Bool} (h : DownS B n S) : Chn g S := fun k k' hk hlt e => h.dn k k' ((hB k' k).mpr (.one hlt (ho k' k hlt (h.lt k hk) e))) hk
end
/-- How many of a goroutine are placed. -/
def cutS (g : Nat → Nat) (n : Nat) (S : Nat → Bool) (a : Nat) : Nat := cnt (fun k => g k == a && S k) n
def incC (c : Nat → Nat) (a : Nat) : Nat → Nat := fun b => if b = a then c b + 1 else c b
theorem cut_ins {g : Nat → Nat} {n : Nat} {S : Nat → Bool} {x : Nat} (hx : x < n) (hs : S x = false) : cutS g n (insS S x) = incC (cutS g n S) (g x) := by
  funext a
  unfold cutS incC insS
  by_cases e : a = g x
  · rw [if_pos e]
    rw [← cnt_ins (p := fun k => g k == a && S k) (x := x) (by rw [hs, Bool.and_false]) hx]
    refine cnt_congr fun k _ => ?_
    simp only [Bool.and_eq_true, Bool.or_eq_true, beq_iff_eq]
    constructor
    · rintro ⟨h1, h2 | h2⟩
      · exact .inl ⟨h1, h2⟩
      · exact .inr h2
    · rintro (⟨h1, h2⟩ | h2)
      · exact ⟨h1, .inl h2⟩
      · subst h2; exact ⟨e.symm, .inr rfl⟩
  · rw [if_neg e]
    refine cnt_congr fun k _ => ?_
    simp only [Bool.and_eq_true, Bool.or_eq_true, beq_iff_eq]
    constructor
    · rintro ⟨h1, h2 | h2⟩
      · exact ⟨h1, h2⟩
      · subst h2; exact absurd h1.symm e
    · rintro ⟨h1, h2⟩; exact ⟨h1, .inl h2⟩
/-- The places of a goroutine. -/
def plc (g : Nat → Nat) (n a : Nat) : List Nat := (List.range n).filter fun k => g k == a
theorem plc_more (g : Nat → Nat) (n a : Nat) : plc g (n + 1) a = plc g n a ++ (if g n = a then [n] else []) := by
  unfold plc
  rw [List.range_succ, List.filter_append]
  congr 1
  by_cases e : g n = a
  · rw [if_pos e]; simp [e]
  · rw [if_neg e]; simp [e]
theorem plc_len (g : Nat → Nat) (a : Nat) : ∀ n, (plc g n a).length = cnt (fun k => g k == a) n
  | 0 => rfl
  | n + 1 => by
    rw [plc_more, List.length_append, plc_len g a n]
    show _ = _ + _
    by_cases e : g n = a
    · rw [if_pos e, if_pos (by simpa using e)]; rfl
    · rw [if_neg e, if_neg (by simpa using e)]; rfl
theorem plc_at {g : Nat → Nat} {a : Nat} : ∀ {n c x : Nat}, (plc g n a)[c]? = some x ↔ x < n ∧ g x = a ∧ cnt (fun k => g k == a) x = c
  | 0, c, x => by simp [plc]
  | n + 1, c, x => by
    have ih := plc_at (g := g) (a := a) (n := n) (c := c) (x := x)
    have hl := plc_len g a n
    rw [plc_more]
    by_cases e : g n = a
    · rw [if_pos e]
      by_cases hc : c < (plc g n a).length
      · rw [List.getElem?_append_left hc, ih]
        constructor
        · rintro ⟨h1, h2⟩; exact ⟨by omega, h2⟩
        · rintro ⟨h1, h2, h3⟩
          refine ⟨?_, h2, h3⟩
          by_cases q : x = n
          · subst q; omega
          · omega
      · rw [List.getElem?_append_right (by omega)]
        constructor
        · intro q
          have hk := (List.getElem?_eq_some_iff.mp q).1
          simp only [List.length_cons, List.length_nil] at hk
          have : c - (plc g n a).length = 0 := by omega
          rw [this] at q
          simp only [List.getElem?_cons_zero, Option.some.injEq] at q
          subst q
          exact ⟨by omega, e, by omega⟩
        · rintro ⟨h1, h2, h3⟩
          by_cases q : x = n
          · subst q
            rw [show c - (plc g x a).length = 0 by omega]; rfl
          · have := cnt_step (p := fun k => g k == a) (show x < n by omega) (by simpa using h2)
            omega
    · rw [if_neg e, List.append_nil, ih]
      constructor
      · rintro ⟨h1, h2⟩; exact ⟨by omega, h2⟩
      · rintro ⟨h1, h2, h3⟩
        refine ⟨?_, h2, h3⟩
        by_cases q : x = n
        · subst q; exact absurd h2 e
        · omega
section
variable {g : Nat → Nat} {n : Nat} {S : Nat → Bool} (hS : Chn g S) (hn : ∀ i, S i = true → i < n)
include hS hn
/-- The next one of a goroutine. -/
theorem nx_of {a x : Nat} (h : (plc g n a)[cutS g n S a]? = some x) : x < n ∧ g x = a ∧ S x = false ∧ ∀ y, y < x → g y = a → S y = true := by
  have _ := hn
  obtain ⟨h1, h2, h3⟩ := plc_at.mp h
  refine ⟨h1, h2, ?_, fun y hy hg => ?_⟩
  · rw [Bool.eq_false_iff]
    intro q
    have e1 : cnt (fun k => g k == a) (x + 1) = cnt (fun k => g k == a) x + 1 := by show _ + _ = _; rw [if_pos (by simpa using h2)]
    have e2 : cnt (fun k => g k == a) (x + 1) ≤ cnt (fun k => g k == a && S k) (x + 1) := cnt_mono fun k hk hp => by
      rw [Bool.and_eq_true]
      refine ⟨hp, ?_⟩
      by_cases c : k = x
      · rw [c]; exact q
      · exact hS x k q (by omega) (by rw [h2]; simpa using hp)
    have e3 := cnt_up (p := fun k => g k == a && S k) (show x + 1 ≤ n by omega)
    unfold cutS at h3
    omega
  · apply Classical.byContradiction
    intro q
    have q' : S y = false := by simpa using q
    have e1 : cnt (fun k => g k == a && S k) n = cnt (fun k => g k == a && S k) y := cnt_cut (by omega) fun k k1 k2 => by
      rw [Bool.eq_false_iff]
      intro p
      rw [Bool.and_eq_true, beq_iff_eq] at p
      by_cases c : k = y
      · rw [c, q'] at p; cases p.2
      · exact q (hS k y p.2 (by omega) (hg.trans p.1.symm))
    have e2 : cnt (fun k => g k == a && S k) y ≤ cnt (fun k => g k == a) y := cnt_mono fun k _ hp => by
      rw [Bool.and_eq_true] at hp; exact hp.1
    have e3 := cnt_step (p := fun k => g k == a) hy (by simpa using hg)
    unfold cutS at h3
    omega
theorem nx_to {x : Nat} (hx : x < n) (hs : S x = false) (hb : ∀ y, y < x → g y = g x → S y = true) : (plc g n (g x))[cutS g n S (g x)]? = some x := by
  have _ := hn
  refine plc_at.mpr ⟨hx, rfl, ?_⟩
  unfold cutS
  rw [cnt_cut (p := fun k => g k == g x && S k) (m := x) (n := n) (by omega) fun k k1 k2 => by
    rw [Bool.eq_false_iff]
    intro p
    rw [Bool.and_eq_true, beq_iff_eq] at p
    by_cases c : k = x
    · rw [c, hs] at p; cases p.2
    · have := hS k x p.2 (by omega) p.1.symm
      rw [hs] at this; cases this]
  refine cnt_congr fun k hk => ?_
  rw [Bool.and_eq_true]
  constructor
  · intro h; exact ⟨h, hb k hk (by simpa using h)⟩
  · exact fun h => h.1
end
/-- Has a cut all of an event's past? -/
def withinB (B : Nat → Nat → Bool) (g : Nat → Nat) (c : Nat → Nat) (x : Nat) : Bool := (List.range 6).all fun a => decide (ck B g x a ≤ incC c (g x) a)
theorem withinB_iff {B : Nat → Nat → Bool} {g : Nat → Nat} {c : Nat → Nat} {x : Nat} : withinB B g c x = true ↔ ∀ a, a < 6 → ck B g x a ≤ incC c (g x) a := by
  unfold withinB
  simp [List.all_eq_true, List.mem_range]
section
variable {d B : Nat → Nat → Bool} (hB : Tells d B) {g : Nat → Nat} {n : Nat} (ho : Ord d g n) (hg : ∀ k, k < n → g k < 6)
include hB ho hg
theorem within_iff {S : Nat → Bool} (hS : DownS B n S) {x : Nat} (hx : x < n) (hs : S x = false) (hb : ∀ y, y < x → g y = g x → S y = true) : withinB B g (cutS g n S) x = true ↔ ∀ j, B j x = true → S j = true := by
  rw [withinB_iff, ← cut_ins hx hs]
  constructor
  · intro h j hj
    have hlt := ((hB j x).mp hj).lt
    by_cases e : g j = g x
    · exact hb j hlt e
    apply Classical.byContradiction
    intro q
    have q' : S j = false := by simpa using q
    have h1 := h (g j) (hg j (by omega))
    rw [ckn_at hB hx] at h1
    unfold cutS at h1
    have h2 : cnt (fun k => g k == g j && insS S x k) n < cnt (fun k => g k == g j && (k == x || B k x)) n := by
      refine cnt_lt (m := j) (fun k hk hp => ?_) (by omega) (by simp [hj]) (by unfold insS; simp [q']; omega)
      rw [Bool.and_eq_true, beq_iff_eq] at hp
      rw [Bool.and_eq_true, beq_iff_eq]
      refine ⟨hp.1, ?_⟩
      have hp2 := hp.2
      unfold insS at hp2
      rw [Bool.or_eq_true, beq_iff_eq] at hp2
      rcases hp2 with hp2 | rfl
      · have hkj : k < j := by
          apply Classical.byContradiction
          intro c
          by_cases c2 : k = j
          · rw [c2, q'] at hp2; cases hp2
          · exact q (hS.chn hB ho k j hp2 (by omega) hp.1.symm)
        exact past_chn hB ho hx j k (show (j == x || B j x) = true by rw [hj, Bool.or_true]) hkj hp.1
      · exact absurd hp.1.symm e
    omega
  · intro h a ha
    rw [ckn_at hB hx]
    refine cnt_mono fun k _ hp => ?_
    rw [Bool.and_eq_true] at hp ⊢
    refine ⟨hp.1, ?_⟩
    have hp2 := hp.2
    rw [Bool.or_eq_true, beq_iff_eq] at hp2
    unfold insS
    rw [Bool.or_eq_true, beq_iff_eq]
    rcases hp2 with c | c
    · exact .inr c
    · exact .inl (h k c)
end
/-- What may come next, by goroutine. -/
def freeA (B : Nat → Nat → Bool) (g : Nat → Nat) (n : Nat) (c : Nat → Nat) (a : Nat) : Option Nat := ((plc g n a)[c a]?).filter (withinB B g c)
def freeL (B : Nat → Nat → Bool) (g : Nat → Nat) (n : Nat) (c : Nat → Nat) : List Nat := (List.range 6).filterMap (freeA B g n c)
theorem freeA_g {B : Nat → Nat → Bool} {g : Nat → Nat} {n : Nat} {c : Nat → Nat} {a x : Nat} (h : freeA B g n c a = some x) : x < n ∧ g x = a := by
  unfold freeA at h
  rw [Option.filter_eq_some_iff] at h
  obtain ⟨h1, h2, _⟩ := plc_at.mp h.1
  exact ⟨h1, h2⟩
theorem freeL_mono (B : Nat → Nat → Bool) (g : Nat → Nat) (n : Nat) (c : Nat → Nat) : (freeL B g n c).Pairwise fun x y => g x < g y := by
  unfold freeL
  rw [List.pairwise_filterMap]
  refine List.Pairwise.imp (R := fun a b => a < b) ?_ List.pairwise_lt_range
  intro a b hab x hx y hy
  rw [(freeA_g hx).2, (freeA_g hy).2]
  exact hab
theorem freeL_nodup (B : Nat → Nat → Bool) (g : Nat → Nat) (n : Nat) (c : Nat → Nat) : (freeL B g n c).Nodup := by
  rw [List.nodup_iff_pairwise_ne]
  refine (freeL_mono B g n c).imp fun h e => ?_
  rw [e] at h; omega
section
variable {d B : Nat → Nat → Bool} (hB : Tells d B) {g : Nat → Nat} {n : Nat} (ho : Ord d g n) (hg : ∀ k, k < n → g k < 6)
include hB ho hg
theorem freeL_mem {S : Nat → Bool} (hS : DownS B n S) (x : Nat) : x ∈ freeL B g n (cutS g n S) ↔ x < n ∧ freeB B S x = true := by
  unfold freeL
  rw [List.mem_filterMap]
  constructor
  · rintro ⟨a, _, h⟩
    unfold freeA at h
    rw [Option.filter_eq_some_iff] at h
    obtain ⟨h1, h2, h3, h4⟩ := nx_of (hS.chn hB ho) hS.lt h.1
    refine ⟨h1, freeB_iff.mpr ⟨h3, fun j _ hj => ?_⟩⟩
    subst h2
    exact (within_iff hB ho hg hS h1 h3 h4).mp h.2 j hj
  · rintro ⟨h1, h2⟩
    obtain ⟨h3, h4⟩ := freeB_iff.mp h2
    have hb : ∀ y, y < x → g y = g x → S y = true := fun y hy e => h4 y hy ((hB y x).mpr (.one hy (ho y x hy h1 e)))
    refine ⟨g x, List.mem_range.mpr (hg x h1), ?_⟩
    unfold freeA
    rw [Option.filter_eq_some_iff]
    exact ⟨nx_to (hS.chn hB ho) hS.lt h1 h3 hb, (within_iff hB ho hg hS h1 h3 hb).mpr fun j hj => h4 j ((hB j x).mp hj).lt hj⟩
theorem freeL_pick {S : Nat → Bool} (hS : DownS B n S) {x : Nat} {l : List Nat} (h : freeL B g n (cutS g n S) = x :: l) : Pick B g n S x := by
  have hm := freeL_mem hB ho hg hS
  have hp := freeL_mono B g n (cutS g n S)
  rw [h] at hm hp
  obtain ⟨h1, h2⟩ := (hm x).mp List.mem_cons_self
  have hlo := (List.pairwise_cons.mp hp).1
  refine ⟨h1, h2, fun k hk hf => ?_, fun k hk hf e => ?_⟩
  · rcases List.mem_cons.mp ((hm k).mpr ⟨hk, hf⟩) with rfl | q
    · exact Nat.le_refl _
    · have := hlo k q; omega
  · rcases List.mem_cons.mp ((hm k).mpr ⟨hk, hf⟩) with rfl | q
    · exact Nat.le_refl _
    · have := hlo k q; omega
end
/-- Where some are not placed one may come next. -/
theorem free_some {B : Nat → Nat → Bool} {S : Nat → Bool} : ∀ {n : Nat}, (∃ i, i < n ∧ S i = false) → ∃ i, i < n ∧ freeB B S i = true
  | 0, ⟨i, h, _⟩ => by omega
  | n + 1, ⟨i, h, hs⟩ => by
    by_cases c : ∃ i, i < n ∧ S i = false
    · obtain ⟨k, h1, h2⟩ := free_some (B := B) c
      exact ⟨k, by omega, h2⟩
    · have hi : i = n := by
        apply Classical.byContradiction
        intro q
        exact c ⟨i, by omega, hs⟩
      subst hi
      refine ⟨i, by omega, freeB_iff.mpr ⟨hs, fun j hj _ => ?_⟩⟩
      apply Classical.byContradiction
      intro q
      exact c ⟨j, hj, by simpa using q⟩
theorem miss_some {S : Nat → Bool} : ∀ {n : Nat}, cnt S n < n → ∃ i, i < n ∧ S i = false
  | 0, h => by omega
  | n + 1, h => by
    by_cases c : S n = true
    · have h2 : cnt S (n + 1) = cnt S n + 1 := by show _ + _ = _; rw [if_pos c]
      obtain ⟨i, h3, h4⟩ := miss_some (S := S) (n := n) (by omega)
      exact ⟨i, by omega, h4⟩
    · exact ⟨n, by omega, by simpa using c⟩
theorem cnt_memS {n : Nat} : ∀ (L : List Nat), L.Nodup → (∀ x ∈ L, x < n) → cnt (memS L) n = L.length
  | [], _, _ => by rw [memS_nil, cnt_cut (m := 0) (n := n) (Nat.zero_le _) fun k _ _ => rfl]; rfl
  | x :: L, h, hl => by
    obtain ⟨h1, h2⟩ := List.nodup_cons.mp h
    have ih := cnt_memS L h2 fun y hy => hl y (by simp [hy])
    rw [List.length_cons, ← ih, ← cnt_ins (p := memS L) (x := x) (decide_eq_false h1) (hl x (by simp))]
    refine cnt_congr fun k _ => ?_
    unfold memS
    simp only [Bool.or_eq_true, decide_eq_true_eq, beq_iff_eq, List.mem_cons]
    exact ⟨fun q => q.symm, fun q => q.symm⟩
/-- How many ways there are to go on by so many. -/
def preC (B : Nat → Nat → Bool) (g : Nat → Nat) (n : Nat) : Nat → (Nat → Nat) → Nat
  | 0, _ => 1
  | m + 1, c => ((freeL B g n c).map fun x => preC B g n m (incC c (g x))).sum
def preS (B : Nat → Nat → Bool) (n : Nat) : Nat → (Nat → Bool) → Nat
  | 0, _ => 1
  | m + 1, S => (((List.range n).filter (freeB B S)).map fun x => preS B n m (insS S x)).sum
section
variable {d B : Nat → Nat → Bool} (hB : Tells d B) {g : Nat → Nat} {n : Nat} (ho : Ord d g n) (hg : ∀ k, k < n → g k < 6)
include hB ho hg
theorem pre_same : ∀ (m : Nat) {S : Nat → Bool}, DownS B n S → preC B g n m (cutS g n S) = preS B n m S
  | 0, S, _ => rfl
  | m + 1, S, hS => by
    have hp : (freeL B g n (cutS g n S)).Perm ((List.range n).filter (freeB B S)) := by
      rw [List.perm_ext_iff_of_nodup (freeL_nodup _ _ _ _) (List.nodup_range.filter _)]
      intro x
      rw [freeL_mem hB ho hg hS, List.mem_filter, List.mem_range]
    rw [preC, preS, ← (hp.map fun x => preS B n m (insS S x)).sum_nat]
    congr 1
    refine List.map_congr_left fun x hx => ?_
    obtain ⟨h1, h2⟩ := (freeL_mem hB ho hg hS x).mp hx
    rw [← cut_ins h1 (freeB_iff.mp h2).1]
    exact pre_same m (hS.ins hB h1 h2)
end
theorem sum_le {f h : Nat → Nat} : ∀ (l : List Nat), (∀ x ∈ l, f x ≤ h x) → (l.map f).sum ≤ (l.map h).sum
  | [], _ => Nat.le_refl _
  | x :: l, q => by
    have h1 := q x (by simp)
    have h2 := sum_le l fun y hy => q y (by simp [hy])
    simp only [List.map_cons, List.sum_cons]
    omega
theorem preS_up {B : Nat → Nat → Bool} {n : Nat} : ∀ (m : Nat) {S : Nat → Bool}, cnt S n + m < n → preS B n m S ≤ preS B n (m + 1) S
  | 0, S, h => by
    obtain ⟨i, h1, h2⟩ := free_some (B := B) (miss_some (S := S) (n := n) (by omega))
    rw [preS, preS]
    have hm : i ∈ (List.range n).filter (freeB B S) := List.mem_filter.mpr ⟨List.mem_range.mpr h1, h2⟩
    generalize (List.range n).filter (freeB B S) = l at hm
    cases l with
    | nil => cases hm
    | cons y l => simp only [List.map_cons, List.sum_cons, preS]; omega
  | m + 1, S, h => by
    rw [preS]
    conv => rhs; rw [preS]
    refine sum_le _ fun x hx => ?_
    obtain ⟨h1, h2⟩ := List.mem_filter.mp hx
    refine preS_up m ?_
    have : cnt (insS S x) n = cnt S n + 1 := cnt_ins (freeB_iff.mp h2).1 (List.mem_range.mp h1)
    omega
theorem preS_le {B : Nat → Nat → Bool} {n m : Nat} {S : Nat → Bool} : ∀ {k : Nat}, m ≤ k → cnt S n + k ≤ n → preS B n m S ≤ preS B n k S
  | 0, h, _ => by have : m = 0 := by omega
                  subst this; exact Nat.le_refl _
  | k + 1, h, hk => by
    by_cases e : m = k + 1
    · subst e; exact Nat.le_refl _
    · exact Nat.le_trans (preS_le (k := k) (by omega) (by omega)) (preS_up k (by omega))
end Go.Proofs.YtkadlopcomjonaaDoor.pg
/- Programs as plain data, where they lie in memory, and what is wrong with them: the data, no word of the program that is proved. -/
namespace Go.Proofs.YtkadlopcomjonaaDoor.pg
open Go.ChangeShapes Go.WideShapes Go.ChangeAt Go.RowKit
set_option linter.unusedVariables false
/-- An instruction. -/
structure Ins where
  op : Int
  a : Int
  b : Int
  c : Int
  n : Int
/-- A case of a select. -/
structure Cas where
  send : Bool
  ch : Int
  reg : Int
  to : Int
/-- A select, and where its cases lie. -/
structure MSel where
  at_ : Option Addr
  cap : Nat
  cases : List Cas
  els : Int
/-- A function, and where its lists lie. -/
structure MFn where
  params : Int
  regs : Int
  ca : Option Addr
  ccap : Nat
  code : List Ins
  sa : Option Addr
  scap : Nat
  sels : List MSel
/-- A shared variable. -/
structure Vr where
  atomic : Bool
  init : Int
/-- A program, and where its lists lie. -/
structure MPr where
  va : Option Addr
  vcap : Nat
  vars : List Vr
  locks : Int
  cha : Option Addr
  chcap : Nat
  chans : List Int
  fa : Option Addr
  fcap : Nat
  fns : List MFn
/-- The same without places. -/
structure Sel where
  cases : List Cas
  els : Int
structure Fn where
  params : Int
  regs : Int
  code : List Ins
  sels : List Sel
structure Pr where
  vars : List Vr
  locks : Int
  chans : List Int
  fns : List Fn
def MSel.sel (s : MSel) : Sel := ⟨s.cases, s.els⟩
def MFn.fn (f : MFn) : Fn := ⟨f.params, f.regs, f.code, f.sels.map MSel.sel⟩
def MPr.pr (p : MPr) : Pr := ⟨p.vars, p.locks, p.chans, p.fns.map MFn.fn⟩
/-- Cells. -/
def Ins.cells (x : Ins) : List Value := [.int .i64 x.op, .int .i64 x.a, .int .i64 x.b, .int .i64 x.c, .int .i64 x.n]
def Cas.cells (x : Cas) : List Value := [.bool x.send, .int .i64 x.ch, .int .i64 x.reg, .int .i64 x.to]
def MSel.cells (x : MSel) : List Value := [.slice x.at_ x.cases.length x.cap, .int .i64 x.els]
def MFn.cells (x : MFn) : List Value := [.int .i64 x.params, .int .i64 x.regs, .slice x.ca x.code.length x.ccap, .slice x.sa x.sels.length x.scap]
def Vr.cells (x : Vr) : List Value := [.bool x.atomic, .int .i64 x.init]
def chCells (x : Int) : List Value := [.int .i64 x]
abbrev MSel.val (x : MSel) : Value := .agg #[.slice x.at_ x.cases.length x.cap, .int .i64 x.els]
abbrev Cas.val (x : Cas) : Value := .agg #[.bool x.send, .int .i64 x.ch, .int .i64 x.reg, .int .i64 x.to]
abbrev Ins.val (x : Ins) : Value := .agg #[.int .i64 x.op, .int .i64 x.a, .int .i64 x.b, .int .i64 x.c, .int .i64 x.n]
abbrev MFn.val (x : MFn) : Value := .agg #[.int .i64 x.params, .int .i64 x.regs, .slice x.ca x.code.length x.ccap, .slice x.sa x.sels.length x.scap]
abbrev MPr.val (p : MPr) : Value := .agg #[.slice p.va p.vars.length p.vcap, .int .i64 p.locks, .slice p.cha p.chans.length p.chcap, .slice p.fa p.fns.length p.fcap]
/-- Numbers of 64 bits. -/
def I64 (z : Int) : Prop := -9223372036854775808 ≤ z ∧ z ≤ 9223372036854775807
def Ins.wf (x : Ins) : Prop := I64 x.op ∧ I64 x.a ∧ I64 x.b ∧ I64 x.c ∧ I64 x.n
def Cas.wf (x : Cas) : Prop := I64 x.ch ∧ I64 x.reg ∧ I64 x.to
/-- Rows of k cells each, in memory, one behind the other. -/
def Rows (w : World) (k : Nat) (a : Option Addr) (cap : Nat) (L : List (List Value)) : Prop :=
  L.length ≤ cap ∧ cap ≤ 9223372036854775807 ∧ (a = none → L = [] ∧ cap = 0) ∧
    (L = [] ∨ ∃ b off, a = some ⟨b, off, none⟩ ∧ b < w.heap.size ∧ ∀ i row, L[i]? = some row → row.length = k ∧ ∀ j u, row[j]? = some u → w.cell? ⟨b, off + (i * k + j), none⟩ = some u)
theorem Rows.later {w w' : World} {k : Nat} {a : Option Addr} {cap : Nat} {L : List (List Value)} (h : Rows w k a cap L) (hb : Below w.heap.size w w') : Rows w' k a cap L := by
  obtain ⟨h1, h2, h3, h4⟩ := h
  refine ⟨h1, h2, h3, h4.imp_right fun ⟨b, off, ha, hlt, hc⟩ => ⟨b, off, ha, Nat.lt_of_lt_of_le hlt hb.size, fun i row hi => ⟨(hc i row hi).1, fun j u hj => ?_⟩⟩⟩
  rw [hb.cell (p := ⟨b, off + (i * k + j), none⟩) hlt]
  exact (hc i row hi).2 j u hj
def MSel.lies (w : World) (s : MSel) : Prop := Rows w 4 s.at_ s.cap (s.cases.map Cas.cells) ∧ (∀ x ∈ s.cases, x.wf) ∧ I64 s.els
def MFn.lies (w : World) (f : MFn) : Prop := Rows w 5 f.ca f.ccap (f.code.map Ins.cells) ∧ Rows w 2 f.sa f.scap (f.sels.map MSel.cells) ∧ (∀ x ∈ f.code, x.wf) ∧ (∀ s ∈ f.sels, s.lies w) ∧ I64 f.params ∧ I64 f.regs
def MPr.lies (w : World) (p : MPr) : Prop := Rows w 2 p.va p.vcap (p.vars.map Vr.cells) ∧ Rows w 1 p.cha p.chcap (p.chans.map chCells) ∧ Rows w 4 p.fa p.fcap (p.fns.map MFn.cells) ∧
  (∀ x ∈ p.vars, I64 x.init) ∧ I64 p.locks ∧ (∀ x ∈ p.chans, I64 x) ∧ ∀ f ∈ p.fns, f.lies w
theorem MSel.lies.later {w w' : World} {s : MSel} (h : s.lies w) (hb : Below w.heap.size w w') : s.lies w' := ⟨h.1.later hb, h.2⟩
theorem MFn.lies.later {w w' : World} {f : MFn} (h : f.lies w) (hb : Below w.heap.size w w') : f.lies w' := ⟨h.1.later hb, h.2.1.later hb, h.2.2.1, fun s hs => (h.2.2.2.1 s hs).later hb, h.2.2.2.2⟩
theorem MPr.lies.later {w w' : World} {p : MPr} (h : p.lies w) (hb : Below w.heap.size w w') : p.lies w' := ⟨h.1.later hb, h.2.1.later hb, h.2.2.1.later hb, h.2.2.2.1, h.2.2.2.2.1, h.2.2.2.2.2.1, fun f hf => (h.2.2.2.2.2.2 f hf).later hb⟩
/-- Cells of a row, one by one. -/
theorem Rows.row {w : World} {k : Nat} {a : Option Addr} {cap : Nat} {L : List (List Value)} (h : Rows w k a cap L) {i : Nat} {row : List Value} (hi : L[i]? = some row) :
    ∃ b off, a = some ⟨b, off, none⟩ ∧ b < w.heap.size ∧ ∀ j u, row[j]? = some u → w.cell? ⟨b, off + (i * k + j), none⟩ = some u := by
  rcases h.2.2.2 with h0 | ⟨b, off, ha, hlt, hc⟩
  · subst h0; simp at hi
  · exact ⟨b, off, ha, hlt, (hc i row hi).2⟩
theorem ins_at {w : World} {a : Option Addr} {cap : Nat} {l : List Ins} (h : Rows w 5 a cap (l.map Ins.cells)) (i : Nat) (x : Ins) (hi : l[i]? = some x) :
    ∃ b off, a = some ⟨b, off, none⟩ ∧ b < w.heap.size ∧ w.cell? ⟨b, off + i * 5, none⟩ = some (.int .i64 x.op) ∧ w.cell? ⟨b, off + (i * 5 + 1), none⟩ = some (.int .i64 x.a) ∧ w.cell? ⟨b, off + (i * 5 + 2), none⟩ = some (.int .i64 x.b) ∧
      w.cell? ⟨b, off + (i * 5 + 3), none⟩ = some (.int .i64 x.c) ∧ w.cell? ⟨b, off + (i * 5 + 4), none⟩ = some (.int .i64 x.n) := by
  obtain ⟨b, off, ha, hlt, hc⟩ := h.row (i := i) (row := x.cells) (by simp [hi])
  exact ⟨b, off, ha, hlt, hc 0 _ rfl, hc 1 _ rfl, hc 2 _ rfl, hc 3 _ rfl, hc 4 _ rfl⟩
theorem cas_at {w : World} {a : Option Addr} {cap : Nat} {l : List Cas} (h : Rows w 4 a cap (l.map Cas.cells)) (i : Nat) (x : Cas) (hi : l[i]? = some x) :
    ∃ b off, a = some ⟨b, off, none⟩ ∧ b < w.heap.size ∧ w.cell? ⟨b, off + i * 4, none⟩ = some (.bool x.send) ∧ w.cell? ⟨b, off + (i * 4 + 1), none⟩ = some (.int .i64 x.ch) ∧ w.cell? ⟨b, off + (i * 4 + 2), none⟩ = some (.int .i64 x.reg) ∧
      w.cell? ⟨b, off + (i * 4 + 3), none⟩ = some (.int .i64 x.to) := by
  obtain ⟨b, off, ha, hlt, hc⟩ := h.row (i := i) (row := x.cells) (by simp [hi])
  exact ⟨b, off, ha, hlt, hc 0 _ rfl, hc 1 _ rfl, hc 2 _ rfl, hc 3 _ rfl⟩
theorem sel_at {w : World} {a : Option Addr} {cap : Nat} {l : List MSel} (h : Rows w 2 a cap (l.map MSel.cells)) (i : Nat) (x : MSel) (hi : l[i]? = some x) :
    ∃ b off, a = some ⟨b, off, none⟩ ∧ b < w.heap.size ∧ w.cell? ⟨b, off + i * 2, none⟩ = some (.slice x.at_ x.cases.length x.cap) ∧ w.cell? ⟨b, off + (i * 2 + 1), none⟩ = some (.int .i64 x.els) := by
  obtain ⟨b, off, ha, hlt, hc⟩ := h.row (i := i) (row := x.cells) (by simp [hi])
  exact ⟨b, off, ha, hlt, hc 0 _ rfl, hc 1 _ rfl⟩
theorem vr_at {w : World} {a : Option Addr} {cap : Nat} {l : List Vr} (h : Rows w 2 a cap (l.map Vr.cells)) (i : Nat) (x : Vr) (hi : l[i]? = some x) :
    ∃ b off, a = some ⟨b, off, none⟩ ∧ b < w.heap.size ∧ w.cell? ⟨b, off + i * 2, none⟩ = some (.bool x.atomic) ∧ w.cell? ⟨b, off + (i * 2 + 1), none⟩ = some (.int .i64 x.init) := by
  obtain ⟨b, off, ha, hlt, hc⟩ := h.row (i := i) (row := x.cells) (by simp [hi])
  exact ⟨b, off, ha, hlt, hc 0 _ rfl, hc 1 _ rfl⟩
theorem ch_at {w : World} {a : Option Addr} {cap : Nat} {l : List Int} (h : Rows w 1 a cap (l.map chCells)) (i : Nat) (x : Int) (hi : l[i]? = some x) :
    ∃ b off, a = some ⟨b, off, none⟩ ∧ b < w.heap.size ∧ w.cell? ⟨b, off + i, none⟩ = some (.int .i64 x) := by
  obtain ⟨b, off, ha, hlt, hc⟩ := h.row (i := i) (row := chCells x) (by simp [hi])
  exact ⟨b, off, ha, hlt, by have := hc 0 _ rfl; simpa using this⟩
theorem fn_at {w : World} {a : Option Addr} {cap : Nat} {l : List MFn} (h : Rows w 4 a cap (l.map MFn.cells)) (i : Nat) (x : MFn) (hi : l[i]? = some x) :
    ∃ b off, a = some ⟨b, off, none⟩ ∧ b < w.heap.size ∧ w.cell? ⟨b, off + i * 4, none⟩ = some (.int .i64 x.params) ∧ w.cell? ⟨b, off + (i * 4 + 1), none⟩ = some (.int .i64 x.regs) ∧
      w.cell? ⟨b, off + (i * 4 + 2), none⟩ = some (.slice x.ca x.code.length x.ccap) ∧ w.cell? ⟨b, off + (i * 4 + 3), none⟩ = some (.slice x.sa x.sels.length x.scap) := by
  obtain ⟨b, off, ha, hlt, hc⟩ := h.row (i := i) (row := x.cells) (by simp [hi])
  exact ⟨b, off, ha, hlt, hc 0 _ rfl, hc 1 _ rfl, hc 2 _ rfl, hc 3 _ rfl⟩
/-- An element that is there. -/
theorem get_lt {α : Type} (l : List α) (i : Nat) (h : i < l.length) : ∃ x, l[i]? = some x ∧ x ∈ l := ⟨l[i], List.getElem?_eq_getElem h, List.getElem_mem h⟩
end Go.Proofs.YtkadlopcomjonaaDoor.pg
/- A program that came in, opened: where its lists lie, and what lies there. -/
namespace Go.Proofs.YtkadlopcomjonaaDoor.pg
open Go.ChangeShapes Go.WideShapes Go.ChangeAt Go.RowKit
set_option linter.unusedVariables false
section
variable {H : Type} {enc : TypeId × Value → H} {P : Program} {w : World} {base : Nat} {spare : Nat → Bool} {held : Bool}
theorem add_none (b off j : Nat) : (⟨b, off, none⟩ : Addr).add j = ⟨b, off + j, none⟩ := by
  by_cases hj : j = 0
  · subst hj; rfl
  · simp [Addr.add, hj]
/-- A list, opened: its elements' cells are as the elements' own readings tell. -/
theorem rows_in {α : Type} (dflt : α) {t e : TypeId} {k fuel : Nat} {a : Option Addr} {len cap : Nat} {x : DataW H × List MemPlace} (C : α → List Value) (Q : α → Prop) (ht : P.underlying t = some (.slice e)) (hk : P.cellsOf e = k) (hk0 : 0 < k)
    (hel : ∀ n cs y, cs.length = k → DataW.trod enc P w base spare held n e cs = some y → ∃ x, cs = C x ∧ Q x)
    (h : DataW.trod enc P w base spare held fuel t [.slice a len cap] = some x) : ∃ l : List α, l.length = len ∧ Rows w k a cap (l.map C) ∧ ∀ x ∈ l, Q x := by
  rcases Go.Deep.open_slice ht h with ⟨hcs, _⟩ | ⟨ad, len', cap', m, n, D, Pl, hcs, _, hl, hm, hmm, _, hx⟩
  · simp only [List.cons.injEq, Value.slice.injEq, and_true] at hcs
    obtain ⟨rfl, rfl, rfl⟩ := hcs
    exact ⟨[], rfl, ⟨by simp, by simp, by simp, .inl rfl⟩, by simp⟩
  · simp only [List.cons.injEq, Value.slice.injEq, and_true] at hcs
    obtain ⟨rfl, rfl, rfl⟩ := hcs
    unfold maxLen at hm
    have hlm : len ≤ m := by rw [hmm]; split <;> omega
    have each : ∀ i, i < len → ∃ y : α, Q y ∧ (C y).length = k ∧ ∀ j u, (C y)[j]? = some u → w.cell? (ad.add (i * k + j)) = some u := fun i hi => by
      obtain ⟨cs', h1, h2⟩ := hx i (by omega)
      rw [hk] at h1
      obtain ⟨_, hlen, hcell⟩ := World.cells?_some h1
      obtain ⟨y, rfl, hQ⟩ := hel n cs' _ hlen h2
      refine ⟨y, hQ, hlen, fun j u hj => ?_⟩
      have hjk : j < k := by have := (List.getElem?_eq_some_iff.mp hj).1; omega
      have := hcell j hjk
      rw [Go.Deep.add_add] at this
      rw [this, hj]
    have inh : Inhabited α := ⟨dflt⟩
    obtain ⟨f, hf⟩ := Go.Deep.choose_lt each
    refine ⟨(List.range len).map f, by simp, ⟨by simpa using hl, by omega, by simp, ?_⟩, fun y hy => ?_⟩
    · by_cases h0 : len = 0
      · subst h0; exact .inl rfl
      right
      obtain ⟨b, off, spot⟩ := ad
      obtain ⟨_, hl0, hc0⟩ := hf 0 (by omega)
      have hcell0 : w.cell? ((⟨b, off, spot⟩ : Addr).add (0 * k + 0)) = some ((C (f 0))[0]'(by omega)) := hc0 0 _ (List.getElem?_eq_getElem (by omega))
      have hs : spot = none := by simpa [Addr.add] using World.cell?_spot hcell0
      subst hs
      rw [add_none] at hcell0
      refine ⟨b, off, rfl, World.block_lt_of_cell? _ _ hcell0, fun i row hi => ?_⟩
      simp only [List.map_map, List.getElem?_map, Option.map_eq_some_iff] at hi
      obtain ⟨i', hi', rfl⟩ := hi
      have hil : i < len ∧ i' = i := by
        have h1 := (List.getElem?_eq_some_iff.mp hi').1
        have h2 := (List.getElem?_eq_some_iff.mp hi').2
        simp at h1 h2
        exact ⟨h1, h2.symm⟩
      obtain ⟨hil, rfl⟩ := hil
      obtain ⟨_, h1, h2⟩ := hf i' hil
      exact ⟨h1, fun j u hj => by rw [← add_none]; exact h2 j u hj⟩
    · simp only [List.mem_map, List.mem_range] at hy
      obtain ⟨i, hi, rfl⟩ := hy
      exact (hf i hi).1
theorem int_in {t : TypeId} (ht : P.underlying t = some (.int .i64)) {n : Nat} {v : Value} {y : DataW H × List MemPlace} (h : DataW.trod enc P w base spare held n t [v] = some y) : ∃ z, v = .int .i64 z ∧ I64 z := by
  obtain ⟨z, e, _, b⟩ := DataW.trod_int ht h
  simp only [List.cons.injEq, and_true] at e
  refine ⟨z, e, ?_⟩
  show _ ∧ _
  simpa [Lit.wf, IntKind.min, IntKind.max, IntKind.bits, IntKind.signed] using b
theorem bool_in {t : TypeId} (ht : P.underlying t = some .bool) {n : Nat} {v : Value} {y : DataW H × List MemPlace} (h : DataW.trod enc P w base spare held n t [v] = some y) : ∃ z, v = .bool z := by
  obtain ⟨z, e, _⟩ := DataW.trod_bool ht h
  simp only [List.cons.injEq, and_true] at e
  exact ⟨z, e⟩
theorem slice_in {t e : TypeId} (ht : P.underlying t = some (.slice e)) {n : Nat} {v : Value} {y : DataW H × List MemPlace} (h : DataW.trod enc P w base spare held n t [v] = some y) : ∃ a len cap, v = .slice a len cap := by
  rcases Go.Deep.open_slice ht h with ⟨hcs, _⟩ | ⟨ad, len', cap', m, n, D, Pl, hcs, _⟩
  · exact ⟨_, _, _, by simpa using hcs⟩
  · exact ⟨_, _, _, by simpa using hcs⟩
/-- A field of one cell. -/
theorem field_in {t : TypeId} {fs : Array Field} {fuel : Nat} {cs : List Value} {x : DataW H × List MemPlace} (ht : P.underlying t = some (.struct fs)) (h : DataW.trod enc P w base spare held fuel t cs = some x)
    (i : Nat) (f : Field) (hi : fs[i]? = some f) (ho : f.offset = i) (hc : P.cellsOf f.type = 1) (hl : i < cs.length) : ∃ v y n, cs[i]? = some v ∧ DataW.trod enc P w base spare held n f.type [v] = some y := by
  obtain ⟨xs, n, _, _, _, hlen, hf⟩ := DataW.trod_struct ht h
  have h1 := hf i f hi
  have hlt : i < xs.length := by rw [hlen]; exact (Array.getElem?_eq_some_iff.mp hi).1
  rw [ho, hc, List.getElem?_eq_getElem hlt] at h1
  refine ⟨cs[i], xs[i], n, List.getElem?_eq_getElem hl, ?_⟩
  rw [← h1]
  congr 1
  rw [List.drop_eq_getElem_cons hl]
  rfl
end
section
variable {H : Type} {enc : TypeId × Value → H} {w : World} {base : Nat} {spare : Nat → Bool} {held : Bool}
theorem list1 {α : Type} {cs : List α} (h : cs.length = 1) {a : α} (h0 : cs[0]? = some a) : cs = [a] := by
  match cs, h with
  | [_], _ => simp_all
theorem list2 {α : Type} {cs : List α} (h : cs.length = 2) {a b : α} (h0 : cs[0]? = some a) (h1 : cs[1]? = some b) : cs = [a, b] := by
  match cs, h with
  | [_, _], _ => simp_all
theorem list4 {α : Type} {cs : List α} (h : cs.length = 4) {a b c d : α} (h0 : cs[0]? = some a) (h1 : cs[1]? = some b) (h2 : cs[2]? = some c) (h3 : cs[3]? = some d) : cs = [a, b, c, d] := by
  match cs, h with
  | [_, _, _, _], _ => simp_all
theorem list5 {α : Type} {cs : List α} (h : cs.length = 5) {a b c d e : α} (h0 : cs[0]? = some a) (h1 : cs[1]? = some b) (h2 : cs[2]? = some c) (h3 : cs[3]? = some d) (h4 : cs[4]? = some e) : cs = [a, b, c, d, e] := by
  match cs, h with
  | [_, _, _, _, _], _ => simp_all
end
end Go.Proofs.YtkadlopcomjonaaDoor.pg
