/- Edges of package order. -/
import Derived.Test.YtkhhkgfaakgdfaaM30
import Derived.Test.YtkhhkgfaakgdfaaM24
import Derived.Test.YtkhhkgfaakgdfaaM26
import Derived.Test.YtkhhkgfaakgdfaaM27
namespace Go.Proofs.Ytkhhkgfaakgdfaa.pg
open Go.ChangeShapes Go.WideShapes Go.ChangeAt Go.RowKit Go.Shelf
set_option linter.unusedVariables false
set_option linter.unusedSimpArgs false
set_option maxRecDepth 100000
attribute [local go_sem ↓] Go.wp_at_zero Go.wp_at_succ
set_option maxHeartbeats 1000000 in
theorem ins_nil (w : World) : Calls Try.prog 79 #[.slice none 0 0, .int .i64 0, .int .i64 0, .func (.func 44) #[] #[]] w fun e w' => (∃ v, e = .returned v) ∧ w' = w := by
  go_enter Try.func79, Try.ntmps79
  go_wp2
  go_loopw [8] (fun u wr => u = .int .i64 1 ∧ wr = w) (fun _ _ => 0)
  case atStart => exact ⟨rfl, rfl⟩
  case round =>
    obtain ⟨rfl, rfl⟩ := hrel
    go_wp2
    go_end0
    exact ⟨⟨_, rfl⟩, rfl⟩
set_option maxHeartbeats 1000000 in
theorem pdq_nil (n : Int) (w : World) : Calls Try.prog 66 #[.slice none 0 0, .int .i64 0, .int .i64 0, .int .i64 n, .func (.func 44) #[] #[]] w fun e w' => (∃ v, e = .returned v) ∧ w' = w := by
  have c1 := ins_nil w
  go_enter Try.func66, Try.ntmps66
  go_wp2_with fail
  refine wp_loop_once ?_
  go_wp2_with (go_at_call 79; (with_reducible refine c1.mono ?_); rintro e w' ⟨⟨v, rfl⟩, rfl⟩)
  exact bodyPost_ret (results_none rfl _ _ _) rfl ⟨⟨_, rfl⟩, rfl⟩
theorem len0 (w : World) : Calls Try.prog 67 #[.int .u64 0] w fun e w' => (∃ n, e = .returned (.int .i64 n)) ∧ w' = w := by
  have h := Try.bits_Len 0 w (by omega) (by omega)
  exact h.mono fun e w' ⟨he, hw⟩ => ⟨⟨_, he⟩, hw⟩
set_option maxHeartbeats 1000000 in
theorem sort_nil (w : World) : Calls Try.prog 43 #[.slice none 0 0, .func (.func 44) #[] #[]] w fun e w' => (∃ v, e = .returned v) ∧ w' = w := by
  have c1 := len0 w
  have c2 := fun n => pdq_nil n w
  go_enter Try.func43, Try.ntmps43
  go_wp2_with (first | (go_at_call 67; (with_reducible refine c1.mono ?_); rintro e w' ⟨⟨v, rfl⟩, rfl⟩) | (go_at_call 66; (with_reducible refine (c2 _).mono ?_); rintro e w' ⟨⟨v2, rfl⟩, rfl⟩))
  go_end0
  exact ⟨⟨_, rfl⟩, rfl⟩
theorem own_nil_is {w : World} {lo e k cap : Nat} {L : List (List Value)} (h : OwnL w lo e k none cap L) : L = [] ∧ cap = 0 := by
  rcases own_block h with ⟨_, h1, h2⟩ | ⟨g, h1, _⟩
  · exact ⟨List.length_eq_zero_iff.mp h1, h2⟩
  · cases h1
/-- Sorting a list of the call's own, nil too. -/
theorem sortE_any (da : Option Addr) (cap lo : Nat) (E : List (Nat × Nat)) (w : World) (hE : OwnL w lo 41 2 da cap (E.map edg)) (hlen : E.length ≤ 65536) :
    Calls Try.prog 43 #[.slice da E.length cap, .func (.func 44) #[] #[]] w fun e w' => (∃ v, e = .returned v) ∧ ∃ D : List (Nat × Nat), D.Perm E ∧ D.Pairwise lex ∧ Rows w' 2 da cap (D.map edg) ∧ (∀ b, b < w.heap.size → b ∉ blk da → w'.heap[b]? = w.heap[b]?) ∧ Below lo w w' := by
  cases da with
  | none =>
    obtain ⟨h1, rfl⟩ := own_nil_is hE
    have hE0 : E = [] := by simpa using h1
    subst hE0
    exact (sort_nil w).mono fun e w' ⟨hv, hw⟩ => ⟨hv, [], .refl _, .nil, by rw [hw]; exact ⟨by simp, by omega, fun _ => ⟨rfl, rfl⟩, .inl rfl⟩, fun b _ _ => by rw [hw], by rw [hw]; exact Below.refl _ _⟩
  | some ad =>
    rcases own_block hE with ⟨h1, _⟩ | ⟨g, h1, h2, h3⟩
    · cases h1
    · cases h1
      exact (sort_any g cap lo E w hE hlen).mono fun e w' ⟨he, D, q1, q2, q3, q4, q5⟩ => ⟨⟨_, he⟩, D, q1, q2, q3, fun b b1 b2 => q4 b b1 fun q => b2 (by simp [blk, q]), q5⟩
set_option maxHeartbeats 1000000 in
theorem edges_ok (l : List Ev) (la : Option Addr) (lc : Nat) (w : World) (hl : Rows w 26 la lc (l.map Ev.cells)) (hlen : l.length ≤ 256) (hrt : ∀ x ∈ l, rightP x) :
    Calls Try.prog 12 #[.slice la l.length lc] w fun e w' => ∃ da dc, ∃ D : List (Nat × Nat), e = .returned (.tuple #[.slice da D.length dc, .int .i64 0]) ∧ D.Perm (rel (evf l) l.length).2 ∧ D.Pairwise lex ∧ Rows w' 2 da dc (D.map edg) ∧ Below w.heap.size w w' := by
  have c1 : Calls Try.prog 42 #[.slice la l.length lc, .slice none 0 0] w (LookPost l la lc w) := look_any l la lc [] none 0 w hl (rows_nil1 w) hlen hrt (by simp) (by simp)
  have hEl : (rel (evf l) l.length).2.length ≤ 65536 := by have := rel_edges (evf l) l.length hlen; omega
  have hElH : Hid ((rel (evf l) l.length).2.length ≤ 65536) := hEl
  clear hl hrt hEl
  go_enter Try.func12, Try.ntmps12
  go_wp2_with (first
    | (go_at_call 42; (with_reducible refine c1.mono ?_); rintro e w1 ⟨ca, cc, da, dc, rfl, _, oe', hb'⟩; (have oe : Hid (OwnL (w1.alloc (.cells #[.slice la l.length lc, .slice ca l.length cc, .slice da (rel (evf l) l.length).2.length dc] 78)) w.heap.size 41 2 da dc ((rel (evf l) l.length).2.map edg)) := own_keep oe' fun b hb' => (boxed w1 _).block b (blk_lt oe' b hb').2); (have hb : Hid (Below w.heap.size w (w1.alloc (.cells #[.slice la l.length lc, .slice ca l.length cc, .slice da (rel (evf l) l.length).2.length dc] 78))) := bthen hb' (boxed _ _)); (have hn : (w1.alloc (.cells #[.slice la l.length lc, .slice ca l.length cc, .slice da (rel (evf l) l.length).2.length dc] 78)).heap[w1.heap.size]? = some (.cells #[.slice la l.length lc, .slice ca l.length cc, .slice da (rel (evf l) l.length).2.length dc] 78) := heap_alloc_new _ _); (have hx := cell_of (k := 2) (v := .slice da (rel (evf l) l.length).2.length dc) hn rfl); (have hnb : Hid (w1.heap.size ∉ blk da) := fun q => by have := (blk_lt oe' _ q).2; omega); (have hnH : Hid _ := hn); clear oe' hb' c1 hn)
    | (refine wpList_store_new rfl 78 _ _ rfl rfl _ _ rfl (by kernel_rfl) rfl (one3 _ _ _ _ _ _ _ _ _) ?_)
    | (go_at_call 43; (refine (sortE_any da dc w.heap.size _ _ oe.out hElH.out).mono ?_); rintro e w2 ⟨⟨v, rfl⟩, D, q1, q2, q3, q4, q5⟩; (have hx2 := cell_of (k := 2) (v := .slice da (rel (evf l) l.length).2.length dc) ((q4 _ (by rw [World.size_alloc]; omega) hnb.out).trans hnH.out) rfl); (have qH : Hid (D.Perm (rel (evf l) l.length).2 ∧ D.Pairwise lex ∧ Rows w2 2 da dc (D.map edg) ∧ Below w.heap.size w w2) := ⟨q1, q2, q3, hb.out.trans q5⟩); clear q1 q2 q3 q4 q5))
  go_ret2
  exact ⟨da, dc, D, by rw [qH.out.1.length_eq]; rfl, qH.out⟩
end Go.Proofs.Ytkhhkgfaakgdfaa.pg
/- What follows from edges, taken from the last one on. -/
namespace Go.Proofs.Ytkhhkgfaakgdfaa.pg
open Go.ChangeShapes Go.WideShapes Go.ChangeAt Go.RowKit Go.Shelf
set_option linter.unusedVariables false
set_option linter.unusedSimpArgs false
/-- What is known behind the edges from place m on. -/
def gm (D : List (Nat × Nat)) (B : Nat → Nat → Bool) (m a k : Nat) : Bool := (D.drop m).any fun p => p.1 == a && (p.2 == k || B p.2 k)
theorem gm_end (D : List (Nat × Nat)) (B : Nat → Nat → Bool) (a k : Nat) : gm D B D.length a k = false := by simp [gm]
theorem gm_step {D : List (Nat × Nat)} (B : Nat → Nat → Bool) {m : Nat} {p : Nat × Nat} (hp : D[m]? = some p) (a k : Nat) : gm D B m a k = ((p.1 == a && (p.2 == k || B p.2 k)) || gm D B (m + 1) a k) := by
  unfold gm
  have hm : m < D.length := (List.getElem?_eq_some_iff.mp hp).1
  have : D.drop m = p :: D.drop (m + 1) := by
    rw [List.drop_eq_getElem_cons hm]
    congr 1
    exact (List.getElem?_eq_some_iff.mp hp).2
  rw [this, List.any_cons]
section
variable {d B : Nat → Nat → Bool} (hB : Tells d B) {n : Nat} {D : List (Nat × Nat)} (hD : ∀ p, p ∈ D ↔ p.1 < p.2 ∧ p.2 < n ∧ edgeB d B p.1 p.2 = true)
include hB hD
theorem gm_zero {a k : Nat} (hk : k < n) : gm D B 0 a k = B a k := by
  rw [Bool.eq_iff_iff, hB a k]
  unfold gm
  rw [List.drop_zero, List.any_eq_true]
  constructor
  · rintro ⟨p, hp, h⟩
    simp only [Bool.and_eq_true, beq_iff_eq, Bool.or_eq_true] at h
    have he := edgeB_hb hB ((hD p).mp hp).2.2
    rw [h.1] at he
    rcases h.2 with h2 | h2
    · rwa [h2] at he
    · exact .then he ((hB p.2 k).mp h2)
  · intro h
    obtain ⟨m, m1, m2⟩ := edge_first hB h
    have hlt := ((edgeB_iff d B a m).mp m1).1
    have hmk : m ≤ k := by
      rcases m2 with rfl | m2
      · exact Nat.le_refl _
      · have := m2.lt; omega
    refine ⟨(a, m), (hD (a, m)).mpr ⟨hlt, by show m < n; omega, m1⟩, ?_⟩
    simp only [Bool.and_eq_true, beq_iff_eq, Bool.or_eq_true, true_and]
    rcases m2 with rfl | m2
    · exact .inl rfl
    · exact .inr ((hB m k).mpr m2)
/-- All that goes on from the later end is known by then. -/
theorem gm_known (hs : D.Pairwise lex) {m : Nat} {p : Nat × Nat} (hp : D[m]? = some p) {k : Nat} (hk : k < n) : gm D B (m + 1) p.2 k = B p.2 k := by
  have hpm : p ∈ D := List.mem_of_getElem? hp
  have hlt := ((hD p).mp hpm).1
  rw [← gm_zero hB hD hk]
  have key : ∀ q, q ≤ m + 1 → gm D B q p.2 k = gm D B (m + 1) p.2 k := by
    intro q
    induction h : m + 1 - q generalizing q with
    | zero => intro hq; have : q = m + 1 := by omega
              rw [this]
    | succ r ih =>
      intro hq
      have hql : q < D.length := by have := (List.getElem?_eq_some_iff.mp hp).1; omega
      obtain ⟨x, hx, hxm⟩ := get_lt D q hql
      rw [gm_step B hx, ih (q + 1) (by omega) (by omega)]
      have hle : x.1 ≤ p.1 := by
        by_cases e : q = m
        · subst e
          rw [hx, Option.some.injEq] at hp
          rw [hp]; exact Nat.le_refl _
        · have h1 := List.pairwise_iff_getElem.mp hs q m hql (List.getElem?_eq_some_iff.mp hp).1 (by omega)
          rw [(List.getElem?_eq_some_iff.mp hx).2, (List.getElem?_eq_some_iff.mp hp).2] at h1
          unfold lex at h1
          omega
      have : (x.1 == p.2) = false := by rw [beq_eq_false_iff_ne]; omega
      rw [this, Bool.false_and, Bool.false_or]
  exact (key 0 (by omega)).symm
end
/-- The matrix while an edge's later end is brought in. -/
def f4 (D : List (Nat × Nat)) (B : Nat → Nat → Bool) (m a b k x y : Nat) : Bool := if x = a then ((gm D B (m + 1) a y || y == b) || (decide (y < k) && B b y)) else gm D B (m + 1) x y
theorem f4_start (D : List (Nat × Nat)) (B : Nat → Nat → Bool) (m a b x y : Nat) : (if x = a ∧ y = b then true else gm D B (m + 1) x y) = f4 D B m a b 0 x y := by
  unfold f4
  by_cases h1 : x = a
  · subst h1
    by_cases h2 : y = b
    · subst h2; simp
    · have : (y == b) = false := by simpa using h2
      simp [h2, this]
  · simp [h1]
theorem f4_step (D : List (Nat × Nat)) (B : Nat → Nat → Bool) (m a b k x y : Nat) : (if x = a ∧ y = k then (f4 D B m a b k a k || B b k) else f4 D B m a b k x y) = f4 D B m a b (k + 1) x y := by
  unfold f4
  by_cases h1 : x = a
  · subst h1
    by_cases h2 : y = k
    · subst h2; simp
    · have : decide (y < k) = decide (y < k + 1) := by rw [decide_eq_decide]; omega
      simp [h2, this]
  · simp [h1]
theorem f4_end {D : List (Nat × Nat)} {B : Nat → Nat → Bool} {m n : Nat} {p : Nat × Nat} (hp : D[m]? = some p) {x y : Nat} (hy : y < n) : f4 D B m p.1 p.2 n x y = gm D B m x y := by
  unfold f4
  rw [gm_step B hp x y]
  by_cases h1 : x = p.1
  · subst h1
    have e1 : (p.1 == p.1) = true := by simp
    have e2 : decide (y < n) = true := by simpa using hy
    have e3 : (p.2 == y) = (y == p.2) := by rw [Bool.eq_iff_iff]; simp; omega
    rw [if_pos rfl, e1, e2, e3, Bool.true_and, Bool.true_and]
    cases gm D B (m + 1) p.1 y <;> cases (y == p.2) <;> cases B p.2 y <;> rfl
  · have e1 : (p.1 == x) = false := by rw [beq_eq_false_iff_ne]; exact fun q => h1 q.symm
    rw [if_neg h1, e1, Bool.false_and, Bool.false_or]
theorem RbS.put {w wr : World} {A n k : Nat} {rb : Nat → Nat} {M : Nat → Nat → Bool} (h : RbS w wr A n k rb M) {i : Nat} (hi : i < k) (j : Nat) (v : Bool) : RbS w (wr.setCell ⟨rb i, j, none⟩ (.bool v)) A n k rb (fun a b => if a = i ∧ b = j then v else M a b) :=
  ⟨h.m.set hi j v, h.m.below hi (Nat.le_refl _) h.b⟩
end Go.Proofs.Ytkhhkgfaakgdfaa.pg
