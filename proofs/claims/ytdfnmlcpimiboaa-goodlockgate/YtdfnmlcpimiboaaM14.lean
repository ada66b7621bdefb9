/- More moves in a region that draws its order: loads of one cell, and operations that turn the world, by the laws of lists of operations. -/
import Derived.Test.YtdfnmlcpimiboaaM9
import Derived.Test.YtdfnmlcpimiboaaM6
import Derived.Great.BuildSlice
import Derived.Test.YtdfnmlcpimiboaaM13
namespace Go.Proofs.Ytdfnmlcpimiboaa.pg
open Go.ChangeShapes Go.WideShapes Go.ChangeAt Go.RowKit
set_option linter.unusedVariables false
set_option linter.unusedSimpArgs false
theorem run_load1 {P : Program} {o : Oper} {ρ : Operand → Value} (ty : TypeId) (x : Operand) (ho : o.op = .load ty x) (ad : Addr) (hx : ρ x = .pointer (some ad)) (d : TypeDesc) (hu : P.underlying ty = some d) (hd : d.isRow = false) {w : World} {v : Value} (hc : w.cell? ad = some v) :
    (execOp ρ o).run P w = .ok (.value v) w := by
  unfold execOp
  have hagg : (isAgg ty).run P w = .ok false w := by
    unfold isAgg
    rw [Sem.run_bind, run_underlying hu w]
    cases d <;> simp_all [TypeDesc.isRow]
  simp [ho, hx, Instr.loadAt, Instr.sureAddr, loadVar, hagg, go_sem, hc]
theorem wpList_load1 {P : Program} {ops : Array Oper} {rest : List Oper} {o : Oper} {a : Act} {w : World} {Q : Exit → Act → World → Prop} (hgd : o.guard = none) (ty : TypeId) (x : Operand) (ho : o.op = .load ty x) (ad : Addr) (hx : a.eval x = .pointer (some ad)) (d : TypeDesc) (hu : P.underlying ty = some d) (hd : d.isRow = false) (v : Value) (hc : w.cell? ad = some v)
    (h : wpList P ops Q rest (a.put o.dst v) w) : wpList P ops Q (o :: rest) a w := wpList_plain hgd fun K hK => by
  unfold Oper.wp
  rw [run_load1 ty x ho ad hx d hu hd hc]
  exact hK _ _ h
/-- A slice stored into one cell. -/
theorem run_store1 {P : Program} {o : Oper} {ρ : Operand → Value} (ty : TypeId) (x y : Operand) (ho : o.op = .store ty x y) (ad : Addr) (hx : ρ x = .pointer (some ad)) (g : Option Addr) (n cap : Nat) (hy : ρ y = .slice g n cap) (hi : (P.info? ty).map (·.size) = some 1) {w : World} {v : Value} (hc : w.cell? ad = some v) (hf : w.frozen? ad = false) :
    (execOp ρ o).run P w = .ok .skip (w.setCell ad (.slice g n cap)) := by
  cases hq : P.info? ty with
  | none => simp [hq] at hi
  | some i =>
    have hs : i.size = 1 := by simpa [hq] using hi
    unfold execOp
    simp [ho, hx, hy, Instr.storeAt, Instr.sureAddr, storeVar, sizeOf, typeInfo, hq, hs, Value.cells, go_sem, hc, hf]
theorem wpList_store1 {P : Program} {ops : Array Oper} {rest : List Oper} {o : Oper} {a : Act} {w : World} {Q : Exit → Act → World → Prop} (hgd : o.guard = none) (ty : TypeId) (x y : Operand) (ho : o.op = .store ty x y) (ad : Addr) (hx : a.eval x = .pointer (some ad)) (g : Option Addr) (n cap : Nat) (hy : a.eval y = .slice g n cap) (hi : (P.info? ty).map (·.size) = some 1) (v : Value) (hc : w.cell? ad = some v) (hf : w.frozen? ad = false)
    (h : wpList P ops Q rest (a.put o.dst undef) (w.setCell ad (.slice g n cap))) : wpList P ops Q (o :: rest) a w := wpList_plain hgd fun K hK => by
  unfold Oper.wp
  rw [run_store1 ty x y ho ad hx g n cap hy hi hc hf]
  exact hK _ _ h
/-- Normal, and so on; nothing else. -/
def okQ (K : Act → World → Prop) : Exit → Act → World → Prop
  | .normal, a, w => K a w
  | _, _, _ => False
theorem okQ_out (K : Act → World → Prop) : ¬ LetsOut (okQ K) := fun ⟨_, _, h⟩ => h
theorem op_two {P : Program} {o : Oper} {a : Act} {w : World} {K K' : Act → World → Prop} {Q : Exit → Act → World → Prop} (h : ∀ a w, K a w → K' a w) (hh : o.wp P a w K (okQ K)) : o.wp P a w K' Q := by
  unfold Oper.wp at *
  generalize (execOp a.eval o).run P w = r at *
  cases r with
  | ok n w' =>
    cases n <;> simp only [Oper.upon] at hh ⊢ <;>
      first
        | exact h _ _ hh
        | exact Calls.mono hh (fun e w'' he => by cases e <;> first | exact h _ _ he | exact (okQ_out _ he).elim | exact he.elim)
        | exact Rows.mono hh (fun _ _ he => h _ _ he)
  | halt x w' => cases x <;> simp only [Oper.upon] at hh ⊢ <;> exact hh.elim
section
variable {P : Program} {ops : Array Oper} {Q : Exit → Act → World → Prop} {S : World → Prop} {fuel : Nat} {listed : Array Bool} {a : Act} {w : World}
theorem reg_load1 {i : Nat} {o : Oper} (ho : ops[i]? = some o) (hs : Region.noSelect ops = true) (hf : Region.free .any ops listed i = true) (hr : (Region.ready .any ops listed).contains i = true)
    (hQ : ∀ c v a w, Q (.panic c) (a.put o.dst v) w → Q (.panic c) a w) (hw : Region.wanted o (yielded ops a.tmps) = true) (ty : TypeId) (x : Operand) (hl : o.op = .load ty x) (ad : Addr) (hx : a.eval x = .pointer (some ad)) (d : TypeDesc) (hu : P.underlying ty = some d) (hd : d.isRow = false) (v : Value)
    (hS : ∀ w, S w → w.cell? ad = some v) (hSw : S w)
    (h : wpAnyH P .any ops Q S fuel (listed.setIfInBounds i true) (a.put o.dst v) w) : wpAnyH P .any ops Q S (fuel + 1) listed a w :=
  wpAnyH_take ho hs hf hr (fun c a w => hQ c _ a w) (.inl ⟨hw, fun w h => run_load1 ty x hl ad hx d hu hd (hS w h)⟩) hSw h
/-- An operation among those that may come up, by a law of lists. -/
theorem arm_list {i : Nat} {o : Oper} (hw : Region.wanted o (yielded ops a.tmps) = true) (h : wpList P ops (okQ fun a' w' => S w' ∧ (S w' → wpAnyH P .any ops Q S fuel (listed.setIfInBounds i true) a' w')) [o] a w) :
    ∀ K' : Act → World → Prop, Shut (∀ a w, S w → (S w → wpAnyH P .any ops Q S fuel (listed.setIfInBounds i true) a w) → K' a w) → if Region.wanted o (yielded ops a.tmps) = true then Oper.wp P o a w K' Q else K' (a.put o.dst undef) w := fun K hK => by
  rw [if_pos hw]
  unfold wpList at h
  rw [if_pos hw] at h
  rcases h with h | h
  · exact op_two (fun a' w' q => hK.out a' w' q.1 q.2) h
  · exact (okQ_out _ h.2).elim
/-- The only one that may come up. -/
theorem reg_one {i : Nat} {o : Oper} (hr : Region.ready .any ops listed = [i]) (ho : ops[i]? = some o) (hw : Region.wanted o (yielded ops a.tmps) = true) (h : wpList P ops (okQ fun a' w' => S w' ∧ (S w' → wpAnyH P .any ops Q S fuel (listed.setIfInBounds i true) a' w')) [o] a w) :
    wpAnyH P .any ops Q S (fuel + 1) listed a w := wpAnyH_ready hr (by simp) (AllReadyH.cons ho (arm_list hw h) AllReadyH.nil)
theorem reg_two {i j : Nat} {o p : Oper} (hr : Region.ready .any ops listed = [i, j]) (ho : ops[i]? = some o) (hp : ops[j]? = some p) (hw : Region.wanted o (yielded ops a.tmps) = true) (hw2 : Region.wanted p (yielded ops a.tmps) = true)
    (h : wpList P ops (okQ fun a' w' => S w' ∧ (S w' → wpAnyH P .any ops Q S fuel (listed.setIfInBounds i true) a' w')) [o] a w) (h2 : wpList P ops (okQ fun a' w' => S w' ∧ (S w' → wpAnyH P .any ops Q S fuel (listed.setIfInBounds j true) a' w')) [p] a w) :
    wpAnyH P .any ops Q S (fuel + 1) listed a w := wpAnyH_ready hr (by simp) (AllReadyH.cons ho (arm_list hw h) (AllReadyH.cons hp (arm_list hw2 h2) AllReadyH.nil))
/-- In a round, an operation of a region that keeps its order, by a law of lists. -/
theorem inR_list {l n : Nat} {rest : List Oper} {o : Oper} (hgd : o.guard = none) (hd : ∀ c, o.op ≠ .defer c) (h : wpList P ops (okQ fun a' w' => wpListIn (Fence.wide.inRound l) n P ops Q rest a' w') [o] a w) : wpListIn (Fence.wide.inRound l) n P ops Q (o :: rest) a w :=
  wpListIn_plain hgd fun K hK => op_round hd (by
    unfold wpList at h
    rw [if_pos (by simp [Region.wanted, hgd])] at h
    rcases h with h | h
    · exact op_two (fun a' w' q => hK a' w' q) h
    · exact (okQ_out _ h.2).elim)
end
end Go.Proofs.Ytdfnmlcpimiboaa.pg
/- One event more is told: (*relation).add of package order. -/
namespace Go.Proofs.Ytdfnmlcpimiboaa.pg
open Go.ChangeShapes Go.WideShapes Go.ChangeAt Go.RowKit Go.Shelf
set_option linter.unusedVariables false
set_option linter.unusedSimpArgs false
set_option maxRecDepth 100000
attribute [local go_sem] Oper.semAt_some
attribute [local go_sem ↓] Go.wp_at_zero Go.wp_at_succ
theorem run_value_of {P : Program} {m : Sem Value} {v : Value} {w w' : World} (h : m.run P w = .ok v w') : (m.bind fun x => pure (.value x) : Sem Next).run P w = .ok (.value v) w' := by
  show (m >>= fun x => pure (Next.value x)).run P w = _
  rw [Sem.run_bind, h]
  rfl
theorem sub_ev (a : Option Addr) (n cap j : Nat) (hj : j ≤ cap) (hc : cap ≤ 9223372036854775807) : ∀ wx, (Instr.sliceAt 22 (.slice a n cap) none (some (.int .i64 (j : Int))) none).run Try.prog wx = .ok (.slice a j cap) wx := by
  intro wx
  have u := Try.underlying22
  have z := Try.sizeOf55
  have h1 : (j : Int) ≤ cap := by omega
  have h2 : ¬ (cap : Int) < j := by omega
  have h3 : ¬ (j : Int) < 0 := by omega
  cases a <;> simp [Instr.sliceAt, run_underlying u, asIntOf, go_sem, z, h1, h2, h3, hj]
theorem start3 (w : World) (o1 o2 o3 : Obj) : (((w.alloc o1).alloc o2).alloc o3).heap[w.heap.size]? = some o1 ∧ (((w.alloc o1).alloc o2).alloc o3).heap[w.heap.size + 1]? = some o2 ∧ (((w.alloc o1).alloc o2).alloc o3).heap[w.heap.size + 2]? = some o3 ∧ Below w.heap.size w (((w.alloc o1).alloc o2).alloc o3) ∧ (((w.alloc o1).alloc o2).alloc o3).heap.size = w.heap.size + 3 := by
  refine ⟨?_, ?_, new3 _ _ _ _, boxed3 _ _ _ _, by simp [World.size_alloc]⟩
  · exact (Below.heap_alloc _ _ _ (by simp [World.size_alloc]; omega)).trans ((Below.heap_alloc _ _ _ (by simp [World.size_alloc])).trans (heap_alloc_new w o1))
  · have := heap_alloc_new (w.alloc o1) o2
    rw [World.size_alloc] at this
    exact (Below.heap_alloc _ _ _ (by simp [World.size_alloc])).trans this
theorem cell_of {w : World} {B k : Nat} {cs : Array Value} {t : TypeId} {fr : Nat × Nat} {v : Value} (h : w.heap[B]? = some (.cells cs t fr)) (hv : cs[k]? = some v) : w.cell? ⟨B, k, none⟩ = some v := by rw [cell_of_row w B k _ _ _ h]; exact hv
theorem cell_in {W w' : World} {B k : Nat} {cs : Array Value} {t : TypeId} {fr : Nat × Nat} {v : Value} (h : W.heap[B]? = some (.cells cs t fr)) (hv : cs[k]? = some v) (hb : Below W.heap.size W w') : w'.cell? ⟨B, k, none⟩ = some v :=
  cell_of ((hb.block B (Array.getElem?_eq_some_iff.mp h).1).trans h) hv
theorem ck_of {x : Ck} {g : Nat} (h : g < 6) : x.cells[g]? = some (.int .i64 (x.of g)) := by
  match g, h with
  | 0, _ => rfl
  | 1, _ => rfl
  | 2, _ => rfl
  | 3, _ => rfl
  | 4, _ => rfl
  | 5, _ => rfl
theorem range_block {w w' : World} {b o : Nat} {cs : List Value} (h : w.rangeAt b o cs) (hb : w'.heap[b]? = w.heap[b]?) : w'.rangeAt b o cs := fun q v hv => (World.cell?_of_block (a := ⟨b, o + q, none⟩) hb).trans (h q v hv)
theorem block_of_range {w : World} {b o : Nat} {x : Ck} (h : w.rangeAt b o x.cells) : b < w.heap.size := block_lt_of_cell (h 0 _ rfl)
theorem one6l (x : Ck) : ∀ u ∈ x.cells, u.oneCell' = true := by intro u hu; simp [Ck.cells] at hu; rcases hu with rfl | rfl | rfl | rfl | rfl | rfl <;> rfl
theorem one2 (p : Nat × Nat) : ∀ u ∈ edg p, u.oneCell' = true := by intro u hu; simp [edg] at hu; rcases hu with rfl | rfl <;> rfl
end Go.Proofs.Ytdfnmlcpimiboaa.pg
/- What package order's look tells of a trace, as plain data. -/
namespace Go.Proofs.Ytdfnmlcpimiboaa.pg
open Go.ChangeShapes Go.WideShapes Go.ChangeAt Go.RowKit Go.Shelf
set_option linter.unusedVariables false
set_option linter.unusedSimpArgs false
set_option maxRecDepth 100000
def tk (x : Ck) (g : Nat) : Ck := x.put g (x.of g + 1)
/-- The clocks and the edges of the first events. -/
def rel (ev : Nat → Ev) : Nat → List Ck × List (Nat × Nat)
  | 0 => ([], [])
  | j + 1 => ((rel ev j).1 ++ [tk (told ev (fun i => (rel ev j).1.getD i zeroK) j (dn j j)).1 (ev j).go.toNat], (rel ev j).2 ++ (told ev (fun i => (rel ev j).1.getD i zeroK) j (dn j j)).2)
/-- The clock of a place, once it is told. -/
def ckf (ev : Nat → Ev) (j i : Nat) : Ck := (rel ev j).1.getD i zeroK
theorem rel_len (ev : Nat → Ev) : ∀ j, (rel ev j).1.length = j
  | 0 => rfl
  | j + 1 => by rw [rel, List.length_append, rel_len ev j, List.length_singleton]
theorem rel_edges (ev : Nat → Ev) : ∀ j, j ≤ 256 → (rel ev j).2.length ≤ 256 * j
  | 0, _ => Nat.le_refl _
  | j + 1, h => by
    have h1 := rel_edges ev j (by omega)
    have h2 := told_len ev (fun i => (rel ev j).1.getD i zeroK) j j (dn j j) (dn_len (Nat.le_refl _))
    rw [rel, List.length_append]
    omega
/-- All numbers of a clock lie between 0 and m. -/
def Ck.upto (x : Ck) (m : Int) : Prop := ∀ n ∈ x.list, 0 ≤ n ∧ n ≤ m
theorem Ck.upto_iff (x : Ck) (m : Int) : x.upto m ↔ (0 ≤ x.c0 ∧ x.c0 ≤ m) ∧ (0 ≤ x.c1 ∧ x.c1 ≤ m) ∧ (0 ≤ x.c2 ∧ x.c2 ≤ m) ∧ (0 ≤ x.c3 ∧ x.c3 ≤ m) ∧ (0 ≤ x.c4 ∧ x.c4 ≤ m) ∧ (0 ≤ x.c5 ∧ x.c5 ≤ m) := by
  unfold Ck.upto Ck.list
  simp
theorem Ck.upto_mono {x : Ck} {m k : Int} (h : x.upto m) (hk : m ≤ k) : x.upto k := fun n hn => ⟨(h n hn).1, Int.le_trans (h n hn).2 hk⟩
theorem upto_ok {x : Ck} {m : Int} (h : x.upto m) (hm : m ≤ 1073741824) : x.ok := fun n hn => ⟨(h n hn).1, Int.le_trans (h n hn).2 hm⟩
theorem zero_upto {m : Int} (h : 0 ≤ m) : zeroK.upto m := by rw [Ck.upto_iff]; simp [zeroK, h]
theorem join_upto {x y : Ck} {m : Int} (hx : x.upto m) (hy : y.upto m) : (x.join y).upto m := by
  rw [Ck.upto_iff] at hx hy ⊢
  have key : ∀ a b : Int, (0 ≤ a ∧ a ≤ m) → (0 ≤ b ∧ b ≤ m) → (0 ≤ max a b ∧ max a b ≤ m) := fun a b ha hb => by rw [Int.max_def]; split <;> omega
  exact ⟨key _ _ hx.1 hy.1, key _ _ hx.2.1 hy.2.1, key _ _ hx.2.2.1 hy.2.2.1, key _ _ hx.2.2.2.1 hy.2.2.2.1, key _ _ hx.2.2.2.2.1 hy.2.2.2.2.1, key _ _ hx.2.2.2.2.2 hy.2.2.2.2.2⟩
theorem of_mem {x : Ck} {g : Nat} (h : g < 6) : x.of g ∈ x.list ∧ x.list[g]? = some (x.of g) := by
  match g, h with
  | 0, _ => exact ⟨by simp [Ck.of, Ck.list], rfl⟩
  | 1, _ => exact ⟨by simp [Ck.of, Ck.list], rfl⟩
  | 2, _ => exact ⟨by simp [Ck.of, Ck.list], rfl⟩
  | 3, _ => exact ⟨by simp [Ck.of, Ck.list], rfl⟩
  | 4, _ => exact ⟨by simp [Ck.of, Ck.list], rfl⟩
  | 5, _ => exact ⟨by simp [Ck.of, Ck.list], rfl⟩
theorem tk_upto {x : Ck} {m : Int} {g : Nat} (hx : x.upto m) (hg : g < 6) : (tk x g).upto (m + 1) := by
  intro n hn
  have h0 := hx _ (of_mem (x := x) hg).1
  unfold tk at hn
  rw [put_list] at hn
  rcases List.mem_or_eq_of_mem_set hn with h | h
  · have := hx n h; omega
  · omega
theorem told_upto (ev : Nat → Ev) (cf : Nat → Ck) (j : Nat) (m : Int) (hm : 0 ≤ m) (hc : ∀ i, i < j → (cf i).upto m) : ∀ (n : Nat) (pre : List { i : Nat // i < j }), pre.length = n → (told ev cf j pre).1.upto m
  | 0, pre, h => by
    have : pre = [] := List.length_eq_zero_iff.mp h
    subst this
    exact zero_upto hm
  | n + 1, pre, h => by
    rcases List.eq_nil_or_concat pre with rfl | ⟨q, x, rfl⟩
    · simp at h
    · rw [List.concat_eq_append] at h ⊢
      rw [List.length_append, List.length_singleton] at h
      have h1 := told_upto ev cf j m hm hc n q (by omega)
      rw [told_more]
      unfold stp
      split
      · exact h1
      · exact join_upto h1 (hc x.1 x.2)
theorem rel_upto (ev : Nat → Ev) : ∀ (j : Nat), (∀ i, i < j → (ev i).go.toNat < 6) → ∀ x ∈ (rel ev j).1, x.upto j
  | 0, _, x, hx => by simp [rel] at hx
  | j + 1, h, x, hx => by
    have ih := rel_upto ev j fun i hi => h i (by omega)
    rw [rel, List.mem_append, List.mem_singleton] at hx
    rcases hx with hx | rfl
    · exact Ck.upto_mono (ih x hx) (by omega)
    · have := tk_upto (g := (ev j).go.toNat) (told_upto ev (fun i => (rel ev j).1.getD i zeroK) j j (by omega) (fun i hi => ?_) j (dn j j) (dn_len (Nat.le_refl _))) (h j (by omega))
      · exact Ck.upto_mono this (by omega)
      · have hl := rel_len ev j
        have : (rel ev j).1.getD i zeroK = (rel ev j).1[i]'(by omega) := by rw [List.getD_eq_getElem?_getD, List.getElem?_eq_getElem (by omega)]; rfl
        rw [this]
        exact ih _ (List.getElem_mem _)
theorem tick_is {x : Ck} {g : Nat} {m : Int} (hx : x.upto m) (hm : m < 1073741824) (hg : g < 6) : tickP x (g : Int) (tk x g) 0 :=
  .inr ⟨upto_ok hx (by omega), g, hg, rfl, x.of g, (of_mem hg).2, .inr ⟨by have := hx _ (of_mem (x := x) hg).1; omega, rfl, rfl⟩⟩
end Go.Proofs.Ytdfnmlcpimiboaa.pg
