/- The document's own Le and Cmp; Tick, by both; what is wrong with two clocks. -/
import Derived.Test.YtdfnmlcpimiboaaM12
import Derived.Test.YtdfnmlcpimiboaaM10
import Derived.Test.YtdfnmlcpimiboaaM3
import Derived.Test.YtdfnmlcpimiboaaM5
namespace Go.Proofs.Ytdfnmlcpimiboaa.pg
open Go.ChangeShapes Go.WideShapes Go.ChangeAt Go.RowKit
set_option linter.unusedVariables false
set_option linter.unusedSimpArgs false
set_option maxRecDepth 100000
attribute [local go_sem ↓] Go.wp_at_zero Go.wp_at_succ
/-- The first k numbers are not above. -/
def leTo (x y : Ck) (k : Nat) : Prop := ∀ i m n, i < k → x.list[i]? = some m → y.list[i]? = some n → m ≤ n
theorem leTo_six (x y : Ck) (h : leTo x y 6) : leK x y = true := by
  rw [leK_iff]
  exact ⟨h 0 _ _ (by omega) rfl rfl, h 1 _ _ (by omega) rfl rfl, h 2 _ _ (by omega) rfl rfl, h 3 _ _ (by omega) rfl rfl, h 4 _ _ (by omega) rfl rfl, h 5 _ _ (by omega) rfl rfl⟩
theorem le_not {x y : Ck} {k : Nat} {m n : Int} (hm : x.list[k]? = some m) (hn : y.list[k]? = some n) (h : n < m) : leK x y = false := by
  rw [Bool.eq_false_iff]
  intro q
  rw [leK_iff] at q
  match k, hm, hn with
  | 0, hm, hn => simp [Ck.list] at hm hn; omega
  | 1, hm, hn => simp [Ck.list] at hm hn; omega
  | 2, hm, hn => simp [Ck.list] at hm hn; omega
  | 3, hm, hn => simp [Ck.list] at hm hn; omega
  | 4, hm, hn => simp [Ck.list] at hm hn; omega
  | 5, hm, hn => simp [Ck.list] at hm hn; omega
  | k + 6, hm, hn => simp [Ck.list] at hm
theorem leTo_more {x y : Ck} {k : Nat} {m n : Int} (h : leTo x y k) (hm : x.list[k]? = some m) (hn : y.list[k]? = some n) (hmn : m ≤ n) : leTo x y (k + 1) := by
  intro i a b hi ha hb
  by_cases e : i = k
  · subst e
    rw [hm] at ha; rw [hn] at hb
    cases ha; cases hb
    exact hmn
  · exact h i a b (by omega) ha hb
end Go.Proofs.Ytdfnmlcpimiboaa.pg
/- The document's own Cmp; Tick, by both; what is wrong with two clocks. -/
namespace Go.Proofs.Ytdfnmlcpimiboaa.pg
open Go.ChangeShapes Go.WideShapes Go.ChangeAt Go.RowKit
set_option linter.unusedVariables false
set_option linter.unusedSimpArgs false
set_option maxRecDepth 100000
attribute [local go_sem ↓] Go.wp_at_zero Go.wp_at_succ
/-- A clock one step later, or why not. -/
def tickP (x : Ck) (g : Int) (R : Ck) (c : Int) : Prop := (¬ (x.ok ∧ 0 ≤ g ∧ g < 6) ∧ R = zeroK ∧ c = 1) ∨ (x.ok ∧ ∃ k : Nat, k < 6 ∧ g = k ∧ ∃ n, x.list[k]? = some n ∧ ((n = 1073741824 ∧ R = zeroK ∧ c = 2) ∨ (n ≠ 1073741824 ∧ R = x.put k (n + 1) ∧ c = 0)))
theorem tick_some (x : Ck) (g : Int) : ∃ R c, tickP x g R c := by
  by_cases h : x.ok ∧ 0 ≤ g ∧ g < 6
  · obtain ⟨n, hn, _⟩ := get_lt x.list g.toNat (by rw [Ck.list_len]; omega)
    by_cases e : n = 1073741824
    · exact ⟨zeroK, 2, .inr ⟨h.1, g.toNat, by omega, by omega, n, hn, .inl ⟨e, rfl, rfl⟩⟩⟩
    · exact ⟨x.put g.toNat (n + 1), 0, .inr ⟨h.1, g.toNat, by omega, by omega, n, hn, .inr ⟨e, rfl, rfl⟩⟩⟩
  · exact ⟨zeroK, 1, .inl ⟨h, rfl, rfl⟩⟩
theorem ok_at {x : Ck} (h : x.ok) {k : Nat} {n : Int} (hn : x.list[k]? = some n) : 0 ≤ n ∧ n ≤ 1073741824 := h n (List.mem_of_getElem? hn)
end Go.Proofs.Ytdfnmlcpimiboaa.pg
/- The relation that package order builds: where it lies while one event more is told. -/
namespace Go.Proofs.Ytdfnmlcpimiboaa.pg
open Go.ChangeShapes Go.WideShapes Go.ChangeAt Go.RowKit Go.Shelf
set_option linter.unusedVariables false
set_option linter.unusedSimpArgs false
set_option maxRecDepth 100000
def edg (p : Nat × Nat) : List Value := [.int .i64 (p.1 : Int), .int .i64 (p.2 : Int)]
/-- A clock's count of a goroutine. -/
def Ck.of (x : Ck) (g : Nat) : Int := x.list.getD g 0
/-- One event ahead, told: what is known of the new event's clock and of the edges to it. -/
def stp (ev : Nat → Ev) (cf : Nat → Ck) (j : Nat) (s : Ck × List (Nat × Nat)) (i : Nat) : Ck × List (Nat × Nat) :=
  if (cf i).of (ev i).go.toNat ≤ s.1.of (ev i).go.toNat ∨ clash (ev i).of (ev j).of = false then s else (s.1.join (cf i), s.2 ++ [(i, j)])
def told (ev : Nat → Ev) (cf : Nat → Ck) (j : Nat) (pre : List { i : Nat // i < j }) : Ck × List (Nat × Nat) := pre.foldl (fun s i => stp ev cf j s i.1) (zeroK, [])
theorem told_more (ev : Nat → Ev) (cf : Nat → Ck) (j : Nat) (pre : List { i : Nat // i < j }) (x : { i : Nat // i < j }) : told ev cf j (pre ++ [x]) = stp ev cf j (told ev cf j pre) x.1 := by
  unfold told
  rw [List.foldl_append]
  rfl
theorem stp_len (ev : Nat → Ev) (cf : Nat → Ck) (j : Nat) (s : Ck × List (Nat × Nat)) (i : Nat) : (stp ev cf j s i).2.length ≤ s.2.length + 1 := by
  unfold stp
  split
  · omega
  · simp
theorem told_len (ev : Nat → Ev) (cf : Nat → Ck) (j : Nat) : ∀ (n : Nat) (pre : List { i : Nat // i < j }), pre.length = n → (told ev cf j pre).2.length ≤ n
  | 0, pre, h => by
    have : pre = [] := List.length_eq_zero_iff.mp h
    subst this
    simp [told]
  | n + 1, pre, h => by
    rcases List.eq_nil_or_concat pre with rfl | ⟨q, x, rfl⟩
    · simp at h
    · rw [List.concat_eq_append] at h ⊢
      rw [List.length_append, List.length_singleton] at h
      have h1 := told_len ev cf j n q (by omega)
      have h2 := stp_len ev cf j (told ev cf j q) x.1
      rw [told_more]
      omega
theorem join_ok {x y : Ck} (hx : x.ok) (hy : y.ok) : (x.join y).ok := by
  rw [Ck.ok_iff] at hx hy ⊢
  have key : ∀ a b : Int, okC a → okC b → okC (max a b) := fun a b ha hb => by unfold okC at *; rw [Int.max_def]; split <;> omega
  exact ⟨key _ _ hx.1 hy.1, key _ _ hx.2.1 hy.2.1, key _ _ hx.2.2.1 hy.2.2.1, key _ _ hx.2.2.2.1 hy.2.2.2.1, key _ _ hx.2.2.2.2.1 hy.2.2.2.2.1, key _ _ hx.2.2.2.2.2 hy.2.2.2.2.2⟩
theorem told_ok (ev : Nat → Ev) (cf : Nat → Ck) (j : Nat) (hc : ∀ i, i < j → (cf i).ok) : ∀ (n : Nat) (pre : List { i : Nat // i < j }), pre.length = n → (told ev cf j pre).1.ok
  | 0, pre, h => by
    have : pre = [] := List.length_eq_zero_iff.mp h
    subst this
    show zeroK.ok
    rw [Ck.ok_iff]
    simp [zeroK, okC]
  | n + 1, pre, h => by
    rcases List.eq_nil_or_concat pre with rfl | ⟨q, x, rfl⟩
    · simp at h
    · rw [List.concat_eq_append] at h ⊢
      rw [List.length_append, List.length_singleton] at h
      have h1 := told_ok ev cf j hc n q (by omega)
      rw [told_more]
      unfold stp
      split
      · exact h1
      · exact join_ok h1 (hc x.1 x.2)
/-- The relation's place, as add finds it. -/
structure Ctx where
  w : World
  n₀ : Nat
  R : Nat
  ea : Option Addr
  en : Nat
  ec : Nat
  ca : Option Addr
  cn : Nat
  cc : Nat
  da : Option Addr
  j : Nat
structure Ctx.Good (c : Ctx) : Prop where
  rl : c.R < c.w.heap.size
  nR : c.n₀ ≤ c.R
  d1 : ∀ b ∈ blk c.da, b < c.w.heap.size ∧ c.n₀ ≤ b
  d2 : c.R ∉ blk c.da
  d3 : ∀ b ∈ blk c.ca, b < c.w.heap.size ∧ b ≠ c.R ∧ b ∉ blk c.da
theorem own_cells {w : World} {lo e k : Nat} {a : Option Addr} {cap : Nat} {L : List (List Value)} (h : OwnL w lo e k a cap L) : ∀ g ∈ blk a, ∃ o : Obj, w.heap[g]? = some o ∧ o.isCells = true := by
  intro g hg
  rcases h.2 with ⟨h1, _⟩ | ⟨g', cap', cur, h1, hb, hr, _⟩
  · simp only [Value.slice.injEq] at h1
    rw [h1.1] at hg
    simp [blk] at hg
  · simp only [Value.slice.injEq] at h1
    rw [h1.1] at hg
    simp [blk] at hg
    subst hg
    exact ⟨_, hr, rfl⟩
end Go.Proofs.Ytdfnmlcpimiboaa.pg
