/- The relation that package order builds: where it lies while one event more is told. -/
import Derived.Test.YtklpifammbnldaaM14
import Derived.Test.YtklpifammbnldaaM17
import Derived.Test.YtklpifammbnldaaM5
import Derived.Test.YtklpifammbnldaaM11
import Derived.Test.YtklpifammbnldaaM4
import Derived.Test.YtklpifammbnldaaM12
namespace Go.Proofs.Ytklpifammbnldaa.pg
open Go.ChangeShapes Go.WideShapes Go.ChangeAt Go.RowKit Go.Shelf
set_option linter.unusedVariables false
set_option linter.unusedSimpArgs false
set_option maxRecDepth 100000
def edg (p : Nat × Nat) : List Value := [.int .i64 (p.1 : Int), .int .i64 (p.2 : Int)]
/-- A clock's count of a goroutine. -/
def Ck.of (x : Ck) (g : Nat) : Int := x.list.getD g 0
/-- One event ahead, told: what is known of the new event's clock and of the edges to it. -/
def stp (ev : Nat → Ev) (cf : Nat → Ck) (j : Nat) (s : Ck × List (Nat × Nat)) (i : Nat) : Ck × List (Nat × Nat) :=
  if (cf i).of (ev i).go.toNat ≤ s.1.of (ev i).go.toNat ∨ clash (ev i).of (ev j).of = false then s else (s.1.join (cf i), s.2 ++ [(i, j)])
def told (ev : Nat → Ev) (cf : Nat → Ck) (j : Nat) (pre : List { i : Nat // i < j }) : Ck × List (Nat × Nat) := pre.foldl (fun s i => stp ev cf j s i.1) (zeroK, [])
theorem told_more (ev : Nat → Ev) (cf : Nat → Ck) (j : Nat) (pre : List { i : Nat // i < j }) (x : { i : Nat // i < j }) : told ev cf j (pre ++ [x]) = stp ev cf j (told ev cf j pre) x.1 := by
  unfold told
  rw [List.foldl_append]
  rfl
theorem stp_len (ev : Nat → Ev) (cf : Nat → Ck) (j : Nat) (s : Ck × List (Nat × Nat)) (i : Nat) : (stp ev cf j s i).2.length ≤ s.2.length + 1 := by
  unfold stp
  split
  · omega
  · simp
theorem told_len (ev : Nat → Ev) (cf : Nat → Ck) (j : Nat) : ∀ (n : Nat) (pre : List { i : Nat // i < j }), pre.length = n → (told ev cf j pre).2.length ≤ n
  | 0, pre, h => by
    have : pre = [] := List.length_eq_zero_iff.mp h
    subst this
    simp [told]
  | n + 1, pre, h => by
    rcases List.eq_nil_or_concat pre with rfl | ⟨q, x, rfl⟩
    · simp at h
    · rw [List.concat_eq_append] at h ⊢
      rw [List.length_append, List.length_singleton] at h
      have h1 := told_len ev cf j n q (by omega)
      have h2 := stp_len ev cf j (told ev cf j q) x.1
      rw [told_more]
      omega
theorem join_ok {x y : Ck} (hx : x.ok) (hy : y.ok) : (x.join y).ok := by
  rw [Ck.ok_iff] at hx hy ⊢
  have key : ∀ a b : Int, okC a → okC b → okC (max a b) := fun a b ha hb => by unfold okC at *; rw [Int.max_def]; split <;> omega
  exact ⟨key _ _ hx.1 hy.1, key _ _ hx.2.1 hy.2.1, key _ _ hx.2.2.1 hy.2.2.1, key _ _ hx.2.2.2.1 hy.2.2.2.1, key _ _ hx.2.2.2.2.1 hy.2.2.2.2.1, key _ _ hx.2.2.2.2.2 hy.2.2.2.2.2⟩
theorem told_ok (ev : Nat → Ev) (cf : Nat → Ck) (j : Nat) (hc : ∀ i, i < j → (cf i).ok) : ∀ (n : Nat) (pre : List { i : Nat // i < j }), pre.length = n → (told ev cf j pre).1.ok
  | 0, pre, h => by
    have : pre = [] := List.length_eq_zero_iff.mp h
    subst this
    show zeroK.ok
    rw [Ck.ok_iff]
    simp [zeroK, okC]
  | n + 1, pre, h => by
    rcases List.eq_nil_or_concat pre with rfl | ⟨q, x, rfl⟩
    · simp at h
    · rw [List.concat_eq_append] at h ⊢
      rw [List.length_append, List.length_singleton] at h
      have h1 := told_ok ev cf j hc n q (by omega)
      rw [told_more]
      unfold stp
      split
      · exact h1
      · exact join_ok h1 (hc x.1 x.2)
/-- The relation's place, as add finds it. -/
structure Ctx where
  w : World
  n₀ : Nat
  R : Nat
  ea : Option Addr
  en : Nat
  ec : Nat
  ca : Option Addr
  cn : Nat
  cc : Nat
  da : Option Addr
  j : Nat
structure Ctx.Good (c : Ctx) : Prop where
  rl : c.R < c.w.heap.size
  nR : c.n₀ ≤ c.R
  d1 : ∀ b ∈ blk c.da, b < c.w.heap.size ∧ c.n₀ ≤ b
  d2 : c.R ∉ blk c.da
  d3 : ∀ b ∈ blk c.ca, b < c.w.heap.size ∧ b ≠ c.R ∧ b ∉ blk c.da
theorem own_cells {w : World} {lo e k : Nat} {a : Option Addr} {cap : Nat} {L : List (List Value)} (h : OwnL w lo e k a cap L) : ∀ g ∈ blk a, ∃ o : Obj, w.heap[g]? = some o ∧ o.isCells = true := by
  intro g hg
  rcases h.2 with ⟨h1, _⟩ | ⟨g', cap', cur, h1, hb, hr, _⟩
  · simp only [Value.slice.injEq] at h1
    rw [h1.1] at hg
    simp [blk] at hg
  · simp only [Value.slice.injEq] at h1
    rw [h1.1] at hg
    simp [blk] at hg
    subst hg
    exact ⟨_, hr, rfl⟩
end Go.Proofs.Ytklpifammbnldaa.pg
/- One event more is told: (*relation).add of package order. -/
namespace Go.Proofs.Ytklpifammbnldaa.pg
open Go.ChangeShapes Go.WideShapes Go.ChangeAt Go.RowKit Go.Shelf
set_option linter.unusedVariables false
set_option linter.unusedSimpArgs false
set_option maxRecDepth 100000
attribute [local go_sem] Oper.semAt_some
attribute [local go_sem ↓] Go.wp_at_zero Go.wp_at_succ
theorem run_value_of {P : Program} {m : Sem Value} {v : Value} {w w' : World} (h : m.run P w = .ok v w') : (m.bind fun x => pure (.value x) : Sem Next).run P w = .ok (.value v) w' := by
  show (m >>= fun x => pure (Next.value x)).run P w = _
  rw [Sem.run_bind, h]
  rfl
theorem sub_ev (a : Option Addr) (n cap j : Nat) (hj : j ≤ cap) (hc : cap ≤ 9223372036854775807) : ∀ wx, (Instr.sliceAt 44 (.slice a n cap) none (some (.int .i64 (j : Int))) none).run Try.prog wx = .ok (.slice a j cap) wx := by
  intro wx
  have u := Try.underlying44
  have z := Try.sizeOf92
  have h1 : (j : Int) ≤ cap := by omega
  have h2 : ¬ (cap : Int) < j := by omega
  have h3 : ¬ (j : Int) < 0 := by omega
  cases a <;> simp [Instr.sliceAt, run_underlying u, asIntOf, go_sem, z, h1, h2, h3, hj]
theorem start3 (w : World) (o1 o2 o3 : Obj) : (((w.alloc o1).alloc o2).alloc o3).heap[w.heap.size]? = some o1 ∧ (((w.alloc o1).alloc o2).alloc o3).heap[w.heap.size + 1]? = some o2 ∧ (((w.alloc o1).alloc o2).alloc o3).heap[w.heap.size + 2]? = some o3 ∧ Below w.heap.size w (((w.alloc o1).alloc o2).alloc o3) ∧ (((w.alloc o1).alloc o2).alloc o3).heap.size = w.heap.size + 3 := by
  refine ⟨?_, ?_, new3 _ _ _ _, boxed3 _ _ _ _, by simp [World.size_alloc]⟩
  · exact (Below.heap_alloc _ _ _ (by simp [World.size_alloc]; omega)).trans ((Below.heap_alloc _ _ _ (by simp [World.size_alloc])).trans (heap_alloc_new w o1))
  · have := heap_alloc_new (w.alloc o1) o2
    rw [World.size_alloc] at this
    exact (Below.heap_alloc _ _ _ (by simp [World.size_alloc])).trans this
theorem cell_of {w : World} {B k : Nat} {cs : Array Value} {t : TypeId} {fr : Nat × Nat} {v : Value} (h : w.heap[B]? = some (.cells cs t fr)) (hv : cs[k]? = some v) : w.cell? ⟨B, k, none⟩ = some v := by rw [cell_of_row w B k _ _ _ h]; exact hv
theorem cell_in {W w' : World} {B k : Nat} {cs : Array Value} {t : TypeId} {fr : Nat × Nat} {v : Value} (h : W.heap[B]? = some (.cells cs t fr)) (hv : cs[k]? = some v) (hb : Below W.heap.size W w') : w'.cell? ⟨B, k, none⟩ = some v :=
  cell_of ((hb.block B (Array.getElem?_eq_some_iff.mp h).1).trans h) hv
theorem ck_of {x : Ck} {g : Nat} (h : g < 6) : x.cells[g]? = some (.int .i64 (x.of g)) := by
  match g, h with
  | 0, _ => rfl
  | 1, _ => rfl
  | 2, _ => rfl
  | 3, _ => rfl
  | 4, _ => rfl
  | 5, _ => rfl
theorem range_block {w w' : World} {b o : Nat} {cs : List Value} (h : w.rangeAt b o cs) (hb : w'.heap[b]? = w.heap[b]?) : w'.rangeAt b o cs := fun q v hv => (World.cell?_of_block (a := ⟨b, o + q, none⟩) hb).trans (h q v hv)
theorem block_of_range {w : World} {b o : Nat} {x : Ck} (h : w.rangeAt b o x.cells) : b < w.heap.size := block_lt_of_cell (h 0 _ rfl)
theorem one6l (x : Ck) : ∀ u ∈ x.cells, u.oneCell' = true := by intro u hu; simp [Ck.cells] at hu; rcases hu with rfl | rfl | rfl | rfl | rfl | rfl <;> rfl
theorem one2 (p : Nat × Nat) : ∀ u ∈ edg p, u.oneCell' = true := by intro u hu; simp [edg] at hu; rcases hu with rfl | rfl <;> rfl
end Go.Proofs.Ytklpifammbnldaa.pg
/- What package order's look tells of a trace, as plain data. -/
namespace Go.Proofs.Ytklpifammbnldaa.pg
open Go.ChangeShapes Go.WideShapes Go.ChangeAt Go.RowKit Go.Shelf
set_option linter.unusedVariables false
set_option linter.unusedSimpArgs false
set_option maxRecDepth 100000
def tk (x : Ck) (g : Nat) : Ck := x.put g (x.of g + 1)
/-- The clocks and the edges of the first events. -/
def rel (ev : Nat → Ev) : Nat → List Ck × List (Nat × Nat)
  | 0 => ([], [])
  | j + 1 => ((rel ev j).1 ++ [tk (told ev (fun i => (rel ev j).1.getD i zeroK) j (dn j j)).1 (ev j).go.toNat], (rel ev j).2 ++ (told ev (fun i => (rel ev j).1.getD i zeroK) j (dn j j)).2)
/-- The clock of a place, once it is told. -/
def ckf (ev : Nat → Ev) (j i : Nat) : Ck := (rel ev j).1.getD i zeroK
theorem rel_len (ev : Nat → Ev) : ∀ j, (rel ev j).1.length = j
  | 0 => rfl
  | j + 1 => by rw [rel, List.length_append, rel_len ev j, List.length_singleton]
theorem rel_edges (ev : Nat → Ev) : ∀ j, j ≤ 256 → (rel ev j).2.length ≤ 256 * j
  | 0, _ => Nat.le_refl _
  | j + 1, h => by
    have h1 := rel_edges ev j (by omega)
    have h2 := told_len ev (fun i => (rel ev j).1.getD i zeroK) j j (dn j j) (dn_len (Nat.le_refl _))
    rw [rel, List.length_append]
    omega
/-- All numbers of a clock lie between 0 and m. -/
def Ck.upto (x : Ck) (m : Int) : Prop := ∀ n ∈ x.list, 0 ≤ n ∧ n ≤ m
theorem Ck.upto_iff (x : Ck) (m : Int) : x.upto m ↔ (0 ≤ x.c0 ∧ x.c0 ≤ m) ∧ (0 ≤ x.c1 ∧ x.c1 ≤ m) ∧ (0 ≤ x.c2 ∧ x.c2 ≤ m) ∧ (0 ≤ x.c3 ∧ x.c3 ≤ m) ∧ (0 ≤ x.c4 ∧ x.c4 ≤ m) ∧ (0 ≤ x.c5 ∧ x.c5 ≤ m) := by
  unfold Ck.upto Ck.list
  simp
theorem Ck.upto_mono {x : Ck} {m k : Int} (h : x.upto m) (hk : m ≤ k) : x.upto k := fun n hn => ⟨(h n hn).1, Int.le_trans (h n hn).2 hk⟩
theorem upto_ok {x : Ck} {m : Int} (h : x.upto m) (hm : m ≤ 1073741824) : x.ok := fun n hn => ⟨(h n hn).1, Int.le_trans (h n hn).2 hm⟩
theorem zero_upto {m : Int} (h : 0 ≤ m) : zeroK.upto m := by rw [Ck.upto_iff]; simp [zeroK, h]
theorem join_upto {x y : Ck} {m : Int} (hx : x.upto m) (hy : y.upto m) : (x.join y).upto m := by
  rw [Ck.upto_iff] at hx hy ⊢
  have key : ∀ a b : Int, (0 ≤ a ∧ a ≤ m) → (0 ≤ b ∧ b ≤ m) → (0 ≤ max a b ∧ max a b ≤ m) := fun a b ha hb => by rw [Int.max_def]; split <;> omega
  exact ⟨key _ _ hx.1 hy.1, key _ _ hx.2.1 hy.2.1, key _ _ hx.2.2.1 hy.2.2.1, key _ _ hx.2.2.2.1 hy.2.2.2.1, key _ _ hx.2.2.2.2.1 hy.2.2.2.2.1, key _ _ hx.2.2.2.2.2 hy.2.2.2.2.2⟩
theorem of_mem {x : Ck} {g : Nat} (h : g < 6) : x.of g ∈ x.list ∧ x.list[g]? = some (x.of g) := by
  match g, h with
  | 0, _ => exact ⟨by simp [Ck.of, Ck.list], rfl⟩
  | 1, _ => exact ⟨by simp [Ck.of, Ck.list], rfl⟩
  | 2, _ => exact ⟨by simp [Ck.of, Ck.list], rfl⟩
  | 3, _ => exact ⟨by simp [Ck.of, Ck.list], rfl⟩
  | 4, _ => exact ⟨by simp [Ck.of, Ck.list], rfl⟩
  | 5, _ => exact ⟨by simp [Ck.of, Ck.list], rfl⟩
theorem tk_upto {x : Ck} {m : Int} {g : Nat} (hx : x.upto m) (hg : g < 6) : (tk x g).upto (m + 1) := by
  intro n hn
  have h0 := hx _ (of_mem (x := x) hg).1
  unfold tk at hn
  rw [put_list] at hn
  rcases List.mem_or_eq_of_mem_set hn with h | h
  · have := hx n h; omega
  · omega
theorem told_upto (ev : Nat → Ev) (cf : Nat → Ck) (j : Nat) (m : Int) (hm : 0 ≤ m) (hc : ∀ i, i < j → (cf i).upto m) : ∀ (n : Nat) (pre : List { i : Nat // i < j }), pre.length = n → (told ev cf j pre).1.upto m
  | 0, pre, h => by
    have : pre = [] := List.length_eq_zero_iff.mp h
    subst this
    exact zero_upto hm
  | n + 1, pre, h => by
    rcases List.eq_nil_or_concat pre with rfl | ⟨q, x, rfl⟩
    · simp at h
    · rw [List.concat_eq_append] at h ⊢
      rw [List.length_append, List.length_singleton] at h
      have h1 := told_upto ev cf j m hm hc n q (by omega)
      rw [told_more]
      unfold stp
      split
      · exact h1
      · exact join_upto h1 (hc x.1 x.2)
theorem rel_upto (ev : Nat → Ev) : ∀ (j : Nat), (∀ i, i < j → (ev i).go.toNat < 6) → ∀ x ∈ (rel ev j).1, x.upto j
  | 0, _, x, hx => by simp [rel] at hx
  | j + 1, h, x, hx => by
    have ih := rel_upto ev j fun i hi => h i (by omega)
    rw [rel, List.mem_append, List.mem_singleton] at hx
    rcases hx with hx | rfl
    · exact Ck.upto_mono (ih x hx) (by omega)
    · have := tk_upto (g := (ev j).go.toNat) (told_upto ev (fun i => (rel ev j).1.getD i zeroK) j j (by omega) (fun i hi => ?_) j (dn j j) (dn_len (Nat.le_refl _))) (h j (by omega))
      · exact Ck.upto_mono this (by omega)
      · have hl := rel_len ev j
        have : (rel ev j).1.getD i zeroK = (rel ev j).1[i]'(by omega) := by rw [List.getD_eq_getElem?_getD, List.getElem?_eq_getElem (by omega)]; rfl
        rw [this]
        exact ih _ (List.getElem_mem _)
theorem tick_is {x : Ck} {g : Nat} {m : Int} (hx : x.upto m) (hm : m < 1073741824) (hg : g < 6) : tickP x (g : Int) (tk x g) 0 :=
  .inr ⟨upto_ok hx (by omega), g, hg, rfl, x.of g, (of_mem hg).2, .inr ⟨by have := hx _ (of_mem (x := x) hg).1; omega, rfl, rfl⟩⟩
end Go.Proofs.Ytklpifammbnldaa.pg
