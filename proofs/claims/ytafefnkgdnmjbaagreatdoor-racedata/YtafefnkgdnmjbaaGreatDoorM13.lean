/- The relation that package order builds: where it lies while one event more is told. -/
import Derived.Test.YtafefnkgdnmjbaaGreatDoorM9
import Derived.Test.YtafefnkgdnmjbaaGreatDoorM12
import Derived.Test.YtafefnkgdnmjbaaGreatDoorM4
import Derived.Test.YtafefnkgdnmjbaaGreatDoorM5
import Derived.Test.YtafefnkgdnmjbaaGreatDoorM3
import Derived.Test.YtafefnkgdnmjbaaGreatDoorM6
import Derived.Great.BuildSlice
namespace Go.Proofs.YtafefnkgdnmjbaaGreatDoor.pg
open Go.ChangeShapes Go.WideShapes Go.ChangeAt Go.RowKit Go.Shelf
set_option linter.unusedVariables false
set_option linter.unusedSimpArgs false
set_option maxRecDepth 100000
def edg (p : Nat × Nat) : List Value := [.int .i64 (p.1 : Int), .int .i64 (p.2 : Int)]
abbrev objR (ea : Option Addr) (en ec : Nat) (ca : Option Addr) (cn cc : Nat) (da : Option Addr) (dl dc : Nat) : Obj := .cells #[.slice ea en ec, .slice ca cn cc, .slice da dl dc] 138
/-- A clock's count of a goroutine. -/
def Ck.of (x : Ck) (g : Nat) : Int := x.list.getD g 0
/-- One event ahead, told: what is known of the new event's clock and of the edges to it. -/
def stp (ev : Nat → Ev) (cf : Nat → Ck) (j : Nat) (s : Ck × List (Nat × Nat)) (i : Nat) : Ck × List (Nat × Nat) :=
  if (cf i).of (ev i).go.toNat ≤ s.1.of (ev i).go.toNat ∨ clash (ev i).of (ev j).of = false then s else (s.1.join (cf i), s.2 ++ [(i, j)])
def told (ev : Nat → Ev) (cf : Nat → Ck) (j : Nat) (pre : List { i : Nat // i < j }) : Ck × List (Nat × Nat) := pre.foldl (fun s i => stp ev cf j s i.1) (zeroK, [])
theorem told_more (ev : Nat → Ev) (cf : Nat → Ck) (j : Nat) (pre : List { i : Nat // i < j }) (x : { i : Nat // i < j }) : told ev cf j (pre ++ [x]) = stp ev cf j (told ev cf j pre) x.1 := by
  unfold told
  rw [List.foldl_append]
  rfl
theorem stp_len (ev : Nat → Ev) (cf : Nat → Ck) (j : Nat) (s : Ck × List (Nat × Nat)) (i : Nat) : (stp ev cf j s i).2.length ≤ s.2.length + 1 := by
  unfold stp
  split
  · omega
  · simp
theorem told_len (ev : Nat → Ev) (cf : Nat → Ck) (j : Nat) : ∀ (n : Nat) (pre : List { i : Nat // i < j }), pre.length = n → (told ev cf j pre).2.length ≤ n
  | 0, pre, h => by
    have : pre = [] := List.length_eq_zero_iff.mp h
    subst this
    simp [told]
  | n + 1, pre, h => by
    rcases List.eq_nil_or_concat pre with rfl | ⟨q, x, rfl⟩
    · simp at h
    · rw [List.concat_eq_append] at h ⊢
      rw [List.length_append, List.length_singleton] at h
      have h1 := told_len ev cf j n q (by omega)
      have h2 := stp_len ev cf j (told ev cf j q) x.1
      rw [told_more]
      omega
theorem join_ok {x y : Ck} (hx : x.ok) (hy : y.ok) : (x.join y).ok := by
  rw [Ck.ok_iff] at hx hy ⊢
  have key : ∀ a b : Int, okC a → okC b → okC (max a b) := fun a b ha hb => by unfold okC at *; rw [Int.max_def]; split <;> omega
  exact ⟨key _ _ hx.1 hy.1, key _ _ hx.2.1 hy.2.1, key _ _ hx.2.2.1 hy.2.2.1, key _ _ hx.2.2.2.1 hy.2.2.2.1, key _ _ hx.2.2.2.2.1 hy.2.2.2.2.1, key _ _ hx.2.2.2.2.2 hy.2.2.2.2.2⟩
theorem told_ok (ev : Nat → Ev) (cf : Nat → Ck) (j : Nat) (hc : ∀ i, i < j → (cf i).ok) : ∀ (n : Nat) (pre : List { i : Nat // i < j }), pre.length = n → (told ev cf j pre).1.ok
  | 0, pre, h => by
    have : pre = [] := List.length_eq_zero_iff.mp h
    subst this
    show zeroK.ok
    rw [Ck.ok_iff]
    simp [zeroK, okC]
  | n + 1, pre, h => by
    rcases List.eq_nil_or_concat pre with rfl | ⟨q, x, rfl⟩
    · simp at h
    · rw [List.concat_eq_append] at h ⊢
      rw [List.length_append, List.length_singleton] at h
      have h1 := told_ok ev cf j hc n q (by omega)
      rw [told_more]
      unfold stp
      split
      · exact h1
      · exact join_ok h1 (hc x.1 x.2)
/-- The relation's place, as add finds it. -/
structure Ctx where
  w : World
  n₀ : Nat
  R : Nat
  ea : Option Addr
  en : Nat
  ec : Nat
  ca : Option Addr
  cn : Nat
  cc : Nat
  da : Option Addr
  j : Nat
structure Ctx.Good (c : Ctx) : Prop where
  rl : c.R < c.w.heap.size
  nR : c.n₀ ≤ c.R
  d1 : ∀ b ∈ blk c.da, b < c.w.heap.size ∧ c.n₀ ≤ b
  d2 : c.R ∉ blk c.da
  d3 : ∀ b ∈ blk c.ca, b < c.w.heap.size ∧ b ≠ c.R ∧ b ∉ blk c.da
/-- Between two rounds. -/
structure St (c : Ctx) (now : Ck) (EE : List (Nat × Nat)) (da' : Option Addr) (dc' : Nat) (W : World) : Prop where
  bx : W.heap[c.w.heap.size]? = some (.cells #[.pointer (some ⟨c.R, 0, none⟩)] 213)
  bj : W.heap[c.w.heap.size + 1]? = some (.cells #[.int .i64 (c.j : Int)] 3)
  nw : InB W (c.w.heap.size + 2) now
  rl : W.heap[c.R]? = some (objR c.ea c.en c.ec c.ca c.cn c.cc da' EE.length dc')
  ed : OwnL W c.n₀ 71 2 da' dc' (EE.map edg)
  bd : ∀ b ∈ blk da', b ∈ blk c.da ∨ c.w.heap.size + 4 ≤ b
  kp : ∀ b, b < c.w.heap.size → b ≠ c.R → b ∉ blk c.da → W.heap[b]? = c.w.heap[b]?
  be : Below c.n₀ c.w W
  sz : c.w.heap.size + 4 ≤ W.heap.size
theorem own_cells {w : World} {lo e k : Nat} {a : Option Addr} {cap : Nat} {L : List (List Value)} (h : OwnL w lo e k a cap L) : ∀ g ∈ blk a, ∃ o : Obj, w.heap[g]? = some o ∧ o.isCells = true := by
  intro g hg
  rcases h.2 with ⟨h1, _⟩ | ⟨g', cap', cur, h1, hb, hr, _⟩
  · simp only [Value.slice.injEq] at h1
    rw [h1.1] at hg
    simp [blk] at hg
  · simp only [Value.slice.injEq] at h1
    rw [h1.1] at hg
    simp [blk] at hg
    subst hg
    exact ⟨_, hr, rfl⟩
theorem St.keep {c : Ctx} {now : Ck} {EE : List (Nat × Nat)} {da' : Option Addr} {dc' : Nat} {W W' : World} (h : St c now EE da' dc' W) (hg : c.Good) (hs : W.heap.size ≤ W'.heap.size) (hb : Below c.n₀ W W')
    (hk : ∀ b o, b < W.heap.size → W.heap[b]? = some o → (b < c.w.heap.size + 4 ∨ o.isCells = true) → W'.heap[b]? = W.heap[b]?) : St c now EE da' dc' W' := by
  have hz := h.sz
  have one : ∀ {b : Nat} {o : Obj}, W.heap[b]? = some o → (b < c.w.heap.size + 4 ∨ o.isCells = true) → W'.heap[b]? = some o := fun {b o} q1 q2 => (hk b o (Array.getElem?_eq_some_iff.mp q1).1 q1 q2).trans q1
  have hR := hg.rl
  refine ⟨one h.bx (.inl (by omega)), one h.bj (.inl (by omega)), one h.nw (.inl (by omega)), one h.rl (.inl (by omega)), own_keep h.ed fun g hgm => ?_, h.bd, fun b q1 q2 q3 => ?_, h.be.trans hb, by omega⟩
  · obtain ⟨o, ho, hc⟩ := own_cells h.ed g hgm
    exact hk g o (blk_lt h.ed g hgm).2 ho (.inr hc)
  · rw [← h.kp b q1 q2 q3]
    have hlt : b < W.heap.size := by omega
    exact hk b W.heap[b] hlt (Array.getElem?_eq_getElem hlt) (.inl (by omega))
theorem St.later {c : Ctx} {now : Ck} {EE : List (Nat × Nat)} {da' : Option Addr} {dc' : Nat} {W W' : World} (h : St c now EE da' dc' W) (hg : c.Good) (hb : Below W.heap.size W W') : St c now EE da' dc' W' :=
  h.keep hg hb.size (hb.mono (by have := h.sz; have := hg.rl; have := hg.nR; omega)) fun b o q1 _ _ => hb.block b q1
theorem St.own {c : Ctx} {now : Ck} {EE : List (Nat × Nat)} {da' : Option Addr} {dc' : Nat} {W W' : World} {B : Nat} {row : Option Nat} (h : St c now EE da' dc' W) (hg : c.Good) (hB : c.w.heap.size + 4 ≤ B) (hgr : W.grownBy W' row)
    (hr : ∀ r, row = some r → B ≤ r ∧ ∃ o : Obj, W.heap[r]? = some o ∧ o.isCells = false) : St c now EE da' dc' W' := by
  have hz := h.sz
  have hR := hg.rl
  have hn := hg.nR
  have key : ∀ b o, b < W.heap.size → W.heap[b]? = some o → (b < c.w.heap.size + 4 ∨ o.isCells = true) → W'.heap[b]? = W.heap[b]? := fun b o q1 q2 q3 => hgr.block b q1 fun e => by
    obtain ⟨h1, o', h2, h3⟩ := hr b e.symm
    rcases q3 with q3 | q3
    · omega
    · rw [q2] at h2; cases h2; rw [q3] at h3; cases h3
  exact h.keep hg hgr.size ((Below.refl c.n₀ W).grown hgr (by omega) fun k e => by have := (hr k e).1; omega) key
/-- What a round has changed. -/
theorem round_keeps {c : Ctx} {now : Ck} {EE : List (Nat × Nat)} {da' : Option Addr} {dc' : Nat} {W W' : World} {B : Nat} (h : St c now EE da' dc' W) (hg : c.Good) (hB : c.w.heap.size + 4 ≤ B) (hs : W.heap.size ≤ W'.heap.size) (hb : Below c.n₀ W W')
    (hk : ∀ b, b < W.heap.size → b ≠ c.w.heap.size + 2 → b ≠ c.R → b ∉ blk da' → W'.heap[b]? = W.heap[b]?) : KeepsFrom B W W' ∧ Keeps c.n₀ (c.w.heap.size + 3) W W' := by
  have hz := h.sz
  have hR := hg.rl
  refine ⟨⟨hs, fun k o q1 q2 q3 => ?_⟩, hb, ?_⟩
  · rw [hk k (Array.getElem?_eq_some_iff.mp q2).1 (by omega) (by omega) fun q4 => by
      obtain ⟨o', h1, h2⟩ := own_cells h.ed k q4
      rw [q2] at h1; cases h1; rw [h2] at q3; cases q3]
    exact q2
  · refine hk _ (by omega) (by omega) (by omega) fun q4 => ?_
    rcases h.bd _ q4 with q | q
    · have := (hg.d1 _ q).1; omega
    · omega
end Go.Proofs.YtafefnkgdnmjbaaGreatDoor.pg
/- slices.Backward of pairs. -/
namespace Go.Proofs.YtafefnkgdnmjbaaGreatDoor.pg
open Go.ChangeShapes Go.WideShapes Go.ChangeAt Go.RowKit Go.Shelf
set_option linter.unusedVariables false
set_option linter.unusedSimpArgs false
set_option maxRecDepth 100000
attribute [local go_sem] Oper.semAt_some
/-- The pairs, each at its place below n₀. -/
def PrAt (n₀ : Nat) (W : World) (a : Option Addr) (j cap : Nat) (ev : Nat → Nat × Nat) : Prop := ∀ i, i < j → ∃ b o, (∀ wx, (Instr.indexAt 23 (.slice a j cap) (.int .i64 (i : Int))).run Tryz.prog wx = .ok (.pointer (some ⟨b, o, none⟩)) wx) ∧ b < n₀ ∧ W.rangeAt b o (edg (ev i))
theorem PrAt.below {n₀ : Nat} {W W' : World} {a : Option Addr} {j cap : Nat} {ev : Nat → Nat × Nat} (h : PrAt n₀ W a j cap ev) (hb : Below n₀ W W') : PrAt n₀ W' a j cap ev := fun i hi => by
  obtain ⟨b, o, h1, h2, h3⟩ := h i hi
  exact ⟨b, o, h1, h2, fun q v hv => (hb.cell (p := ⟨b, o + q, none⟩) h2).trans (h3 q v hv)⟩
end Go.Proofs.YtafefnkgdnmjbaaGreatDoor.pg
/- More moves in a region that draws its order: loads of one cell, and operations that turn the world, by the laws of lists of operations. -/
namespace Go.Proofs.YtafefnkgdnmjbaaGreatDoor.pg
open Go.ChangeShapes Go.WideShapes Go.ChangeAt Go.RowKit
set_option linter.unusedVariables false
set_option linter.unusedSimpArgs false
theorem run_load1 {P : Program} {o : Oper} {ρ : Operand → Value} (ty : TypeId) (x : Operand) (ho : o.op = .load ty x) (ad : Addr) (hx : ρ x = .pointer (some ad)) (d : TypeDesc) (hu : P.underlying ty = some d) (hd : d.isRow = false) {w : World} {v : Value} (hc : w.cell? ad = some v) :
    (execOp ρ o).run P w = .ok (.value v) w := by
  unfold execOp
  have hagg : (isAgg ty).run P w = .ok false w := by
    unfold isAgg
    rw [Sem.run_bind, run_underlying hu w]
    cases d <;> simp_all [TypeDesc.isRow]
  simp [ho, hx, Instr.loadAt, Instr.sureAddr, loadVar, hagg, go_sem, hc]
theorem wpList_load1 {P : Program} {ops : Array Oper} {rest : List Oper} {o : Oper} {a : Act} {w : World} {Q : Exit → Act → World → Prop} (hgd : o.guard = none) (ty : TypeId) (x : Operand) (ho : o.op = .load ty x) (ad : Addr) (hx : a.eval x = .pointer (some ad)) (d : TypeDesc) (hu : P.underlying ty = some d) (hd : d.isRow = false) (v : Value) (hc : w.cell? ad = some v)
    (h : wpList P ops Q rest (a.put o.dst v) w) : wpList P ops Q (o :: rest) a w := wpList_plain hgd fun K hK => by
  unfold Oper.wp
  rw [run_load1 ty x ho ad hx d hu hd hc]
  exact hK _ _ h
/-- A slice stored into one cell. -/
theorem run_store1 {P : Program} {o : Oper} {ρ : Operand → Value} (ty : TypeId) (x y : Operand) (ho : o.op = .store ty x y) (ad : Addr) (hx : ρ x = .pointer (some ad)) (g : Option Addr) (n cap : Nat) (hy : ρ y = .slice g n cap) (hi : (P.info? ty).map (·.size) = some 1) {w : World} {v : Value} (hc : w.cell? ad = some v) (hf : w.frozen? ad = false) :
    (execOp ρ o).run P w = .ok .skip (w.setCell ad (.slice g n cap)) := by
  cases hq : P.info? ty with
  | none => simp [hq] at hi
  | some i =>
    have hs : i.size = 1 := by simpa [hq] using hi
    unfold execOp
    simp [ho, hx, hy, Instr.storeAt, Instr.sureAddr, storeVar, sizeOf, typeInfo, hq, hs, Value.cells, go_sem, hc, hf]
theorem wpList_store1 {P : Program} {ops : Array Oper} {rest : List Oper} {o : Oper} {a : Act} {w : World} {Q : Exit → Act → World → Prop} (hgd : o.guard = none) (ty : TypeId) (x y : Operand) (ho : o.op = .store ty x y) (ad : Addr) (hx : a.eval x = .pointer (some ad)) (g : Option Addr) (n cap : Nat) (hy : a.eval y = .slice g n cap) (hi : (P.info? ty).map (·.size) = some 1) (v : Value) (hc : w.cell? ad = some v) (hf : w.frozen? ad = false)
    (h : wpList P ops Q rest (a.put o.dst undef) (w.setCell ad (.slice g n cap))) : wpList P ops Q (o :: rest) a w := wpList_plain hgd fun K hK => by
  unfold Oper.wp
  rw [run_store1 ty x y ho ad hx g n cap hy hi hc hf]
  exact hK _ _ h
/-- Normal, and so on; nothing else. -/
def okQ (K : Act → World → Prop) : Exit → Act → World → Prop
  | .normal, a, w => K a w
  | _, _, _ => False
theorem okQ_out (K : Act → World → Prop) : ¬ LetsOut (okQ K) := fun ⟨_, _, h⟩ => h
theorem op_two {P : Program} {o : Oper} {a : Act} {w : World} {K K' : Act → World → Prop} {Q : Exit → Act → World → Prop} (h : ∀ a w, K a w → K' a w) (hh : o.wp P a w K (okQ K)) : o.wp P a w K' Q := by
  unfold Oper.wp at *
  generalize (execOp a.eval o).run P w = r at *
  cases r with
  | ok n w' =>
    cases n <;> simp only [Oper.upon] at hh ⊢ <;>
      first
        | exact h _ _ hh
        | exact Calls.mono hh (fun e w'' he => by cases e <;> first | exact h _ _ he | exact (okQ_out _ he).elim | exact he.elim)
        | exact Rows.mono hh (fun _ _ he => h _ _ he)
  | halt x w' => cases x <;> simp only [Oper.upon] at hh ⊢ <;> exact hh.elim
section
variable {P : Program} {ops : Array Oper} {Q : Exit → Act → World → Prop} {S : World → Prop} {fuel : Nat} {listed : Array Bool} {a : Act} {w : World}
theorem reg_load1 {i : Nat} {o : Oper} (ho : ops[i]? = some o) (hs : Region.noSelect ops = true) (hf : Region.free .any ops listed i = true) (hr : (Region.ready .any ops listed).contains i = true)
    (hQ : ∀ c v a w, Q (.panic c) (a.put o.dst v) w → Q (.panic c) a w) (hw : Region.wanted o (yielded ops a.tmps) = true) (ty : TypeId) (x : Operand) (hl : o.op = .load ty x) (ad : Addr) (hx : a.eval x = .pointer (some ad)) (d : TypeDesc) (hu : P.underlying ty = some d) (hd : d.isRow = false) (v : Value)
    (hS : ∀ w, S w → w.cell? ad = some v) (hSw : S w)
    (h : wpAnyH P .any ops Q S fuel (listed.setIfInBounds i true) (a.put o.dst v) w) : wpAnyH P .any ops Q S (fuel + 1) listed a w :=
  wpAnyH_take ho hs hf hr (fun c a w => hQ c _ a w) (.inl ⟨hw, fun w h => run_load1 ty x hl ad hx d hu hd (hS w h)⟩) hSw h
/-- An operation among those that may come up, by a law of lists. -/
theorem arm_list {i : Nat} {o : Oper} (hw : Region.wanted o (yielded ops a.tmps) = true) (h : wpList P ops (okQ fun a' w' => S w' ∧ (S w' → wpAnyH P .any ops Q S fuel (listed.setIfInBounds i true) a' w')) [o] a w) :
    ∀ K' : Act → World → Prop, Shut (∀ a w, S w → (S w → wpAnyH P .any ops Q S fuel (listed.setIfInBounds i true) a w) → K' a w) → if Region.wanted o (yielded ops a.tmps) = true then Oper.wp P o a w K' Q else K' (a.put o.dst undef) w := fun K hK => by
  rw [if_pos hw]
  unfold wpList at h
  rw [if_pos hw] at h
  rcases h with h | h
  · exact op_two (fun a' w' q => hK.out a' w' q.1 q.2) h
  · exact (okQ_out _ h.2).elim
/-- The only one that may come up. -/
theorem reg_one {i : Nat} {o : Oper} (hr : Region.ready .any ops listed = [i]) (ho : ops[i]? = some o) (hw : Region.wanted o (yielded ops a.tmps) = true) (h : wpList P ops (okQ fun a' w' => S w' ∧ (S w' → wpAnyH P .any ops Q S fuel (listed.setIfInBounds i true) a' w')) [o] a w) :
    wpAnyH P .any ops Q S (fuel + 1) listed a w := wpAnyH_ready hr (by simp) (AllReadyH.cons ho (arm_list hw h) AllReadyH.nil)
theorem reg_two {i j : Nat} {o p : Oper} (hr : Region.ready .any ops listed = [i, j]) (ho : ops[i]? = some o) (hp : ops[j]? = some p) (hw : Region.wanted o (yielded ops a.tmps) = true) (hw2 : Region.wanted p (yielded ops a.tmps) = true)
    (h : wpList P ops (okQ fun a' w' => S w' ∧ (S w' → wpAnyH P .any ops Q S fuel (listed.setIfInBounds i true) a' w')) [o] a w) (h2 : wpList P ops (okQ fun a' w' => S w' ∧ (S w' → wpAnyH P .any ops Q S fuel (listed.setIfInBounds j true) a' w')) [p] a w) :
    wpAnyH P .any ops Q S (fuel + 1) listed a w := wpAnyH_ready hr (by simp) (AllReadyH.cons ho (arm_list hw h) (AllReadyH.cons hp (arm_list hw2 h2) AllReadyH.nil))
/-- In a round, an operation of a region that keeps its order, by a law of lists. -/
theorem inR_list {l n : Nat} {rest : List Oper} {o : Oper} (hgd : o.guard = none) (hd : ∀ c, o.op ≠ .defer c) (h : wpList P ops (okQ fun a' w' => wpListIn (Fence.wide.inRound l) n P ops Q rest a' w') [o] a w) : wpListIn (Fence.wide.inRound l) n P ops Q (o :: rest) a w :=
  wpListIn_plain hgd fun K hK => op_round hd (by
    unfold wpList at h
    rw [if_pos (by simp [Region.wanted, hgd])] at h
    rcases h with h | h
    · exact op_two (fun a' w' q => hK a' w' q) h
    · exact (okQ_out _ h.2).elim)
end
end Go.Proofs.YtafefnkgdnmjbaaGreatDoor.pg
