/- A region that draws its order, in the body of a loop over an iterator: what is shown of it outside holds there. -/
import Derived.Test.YtafefnkgdnmjbaaGreatDoorM2
import Derived.RangeFuncNested
import Derived.RangeFuncBound
import Derived.RangeFuncCalls
import Derived.RangeFuncLeaves
import Derived.OwnWalkIn
import Derived.TacticsInMore
import Derived.LoopNIn
import Derived.LoopIn
import Derived.OrdersIn
import Derived.Test.YtafefnkgdnmjbaaGreatDoorM1
import Derived.SizedLaws
import Derived.Maps.AppendAt
import Derived.Laws.AppendOwnNone
import Derived.Laws.OwnMore
import Derived.Laws.Rows
namespace Go.Proofs.YtafefnkgdnmjbaaGreatDoor.pg
open Go.ChangeShapes Go.WideShapes Go.ChangeAt Go.RowKit
set_option linter.unusedVariables false
set_option linter.unusedSimpArgs false
section
variable {P : Program} {ops : Array Oper} {Q : Exit → Act → World → Prop} {l n : Nat}
/-- No operation that defers a call. -/
def noDefer (ops : Array Oper) : Bool := ops.all fun o => match o.op with
  | .defer _ => false
  | _ => true
theorem noDefer_at {i : Nat} {o : Oper} (h : noDefer ops = true) (ho : ops[i]? = some o) (c : Call) : o.op ≠ .defer c := by
  intro e
  unfold noDefer at h
  rw [Array.all_eq_true] at h
  obtain ⟨hi, hx⟩ := Array.getElem?_eq_some_iff.mp ho
  have := h i hi
  rw [hx, e] at this
  simp at this
theorem wide_room (k : Nat) : (Fence.wide.inRound l).room k := fun d h => by simp [Fence.wide, Fence.inRound] at h
theorem wide_depth : (Fence.wide.inRound l).depth.isSome = true → 1 ≤ n := fun h => by simp [Fence.wide, Fence.inRound] at h
theorem op_round {o : Oper} {a : Act} {w : World} {K : Act → World → Prop} (hd : ∀ c, o.op ≠ .defer c) (h : o.wp P a w K Q) : o.wpIn (Fence.wide.inRound l) n P a w K Q := by
  unfold Oper.wp at h
  unfold Oper.wpIn
  refine ⟨fun f _ => trivial, ?_⟩
  rw [Fence.inRound_round, Oper.semAt_some l _ _ hd]
  generalize (execOp a.eval o).run P w = r at *
  cases r with
  | ok x w' =>
    cases x <;> simp only [Oper.upon, Oper.uponIn] at h ⊢ <;> first
      | exact h
      | exact ⟨wide_depth, CallsIn.inRound l (callsIn_wide.2 h)⟩
      | exact ⟨wide_depth, fun c cs _ => let ⟨v, w', r, s⟩ := h c cs; ⟨v, w', r, stepsIn_wide.2 s⟩⟩
  | halt x w' => cases x <;> simp only [Oper.upon, Oper.uponIn] at h ⊢ <;> exact h
theorem any_round {md : Region.Mode} (hd : noDefer ops = true) (hno : ¬ LetsOut Q) : ∀ (fuel : Nat) (listed : Array Bool) (a : Act) (w : World), wpAny P md ops Q fuel listed a w → wpAnyIn (Fence.wide.inRound l) n P md ops Q fuel listed a w
  | 0, _, _, _, h => h
  | fuel + 1, listed, a, w, h => ⟨h.1, fun i hi => by
    have h2 := h.2 i hi
    unfold wpOp at h2
    unfold wpOpIn
    cases ho : ops[i]? with
    | none =>
      simp only [ho] at h2
      exact any_round hd hno fuel _ a w h2
    | some o =>
      simp only [ho] at h2
      by_cases hw : Region.wanted o (yielded ops a.tmps) = true
      · simp only [hw, if_true] at h2 ⊢
        rcases h2 with h2 | h2
        · exact op_round (noDefer_at hd ho) (Oper.wp_mono (fun a' w' h' => any_round hd hno fuel _ a' w' h') h2)
        · exact (hno h2.2).elim
      · simp only [hw] at h2 ⊢
        exact ⟨fun f _ => trivial, any_round hd hno fuel _ _ w h2⟩⟩
theorem wpR_any {id : Nat} {a : Act} {w : World} (hm : P.follows .mixedOrders = true) (hd : noDefer ops = true) (hno : ¬ LetsOut Q)
    (h : wpAny P .any ops Q ops.size (Array.replicate ops.size false) a { w with drawn := w.drawn + 1 }) : (Code.region id ops true).wpIn (Fence.wide.inRound l) n P Q a w :=
  wpIn_region_any hm (any_round hd hno _ _ _ _ h)
/-- Walked once in the order of its text, in every world of a class. -/
theorem wpR_cls (S : World → Prop) {id : Nat} {a : Act} {w : World} {L : List Oper} (hm : P.follows .mixedOrders = true) (hB : Region.lexB .any L.toArray = true) (hd : noDefer L.toArray = true) (hno : ¬ LetsOut Q) (hS : S w.drew)
    (h : wpQuiet P L.toArray (fun w' => ∃ s : Cls S, w' = s.w) (fun a' => ∀ w', (∃ s : Cls S, w' = s.w) → Q .normal a' w') L a) : (Code.region id L.toArray true).wpIn (Fence.wide.inRound l) n P Q a w := by
  simp only [Region.lexB, Bool.and_eq_true] at hB
  refine wpR_any hm hd hno (wpAny_of_quiet (C := fun w' => ∃ s : Cls S, w' = s.w) (Q := fun a' => ∀ w', (∃ s : Cls S, w' = s.w) → Q .normal a' w') (fun _ w' hw' h => h w' hw') _ _ _ _ ⟨⟨_, hS⟩, rfl⟩ ?_)
  have := wpAnyQ_lex (C := fun w' => ∃ s : Cls S, w' = s.w) (md := .any) hB.1 L 0 (Array.replicate L.toArray.size false) a (by simp) (by simpa using hB.2) h
  simpa using this
/-- Walked by hand, a condition on the world held. -/
theorem wpR_held (S : World → Prop) {id : Nat} {a : Act} {w : World} (hm : P.follows .mixedOrders = true) (hd : noDefer ops = true) (hno : ¬ LetsOut Q)
    (h : wpAnyH P .any ops Q S ops.size (Array.replicate ops.size false) a w.drew) : (Code.region id ops true).wpIn (Fence.wide.inRound l) n P Q a w :=
  wpR_any hm hd hno (wpAny_of_held _ _ _ _ h)
end
end Go.Proofs.YtafefnkgdnmjbaaGreatDoor.pg
/- A program that came in, opened, with its sizes: none of its lists takes more bytes than a machine has. -/
namespace Go.Proofs.YtafefnkgdnmjbaaGreatDoor.pg
open Go.ChangeShapes Go.WideShapes Go.ChangeAt Go.RowKit
set_option linter.unusedVariables false
set_option maxRecDepth 100000
def MSel.sz (s : MSel) : Prop := s.cases.length * 32 ≤ reachBytes
def MFn.sz (f : MFn) : Prop := f.code.length * 40 ≤ reachBytes ∧ f.sels.length * 32 ≤ reachBytes ∧ ∀ s ∈ f.sels, s.sz
def MPr.sz (p : MPr) : Prop := p.vars.length * 16 ≤ reachBytes ∧ p.chans.length * 8 ≤ reachBytes ∧ p.fns.length * 64 ≤ reachBytes ∧ ∀ f ∈ p.fns, f.sz
section
variable {H : Type} {enc : TypeId × Value → H} {P : Program} {w : World} {base : Nat} {spare : Nat → Bool} {held : Bool}
def Sz (P : Program) (t : TypeId) (d : DataW H) : Prop := ∀ n ∈ d.weights P t, n ≤ reachBytes
theorem mem_weightsAll {e : TypeId} {l : List (DataW H)} {d : DataW H} (hd : d ∈ l) (n : Nat) (hn : n ∈ d.weights P e) : n ∈ DataW.weightsAll P e l := by
  induction l with
  | nil => simp at hd
  | cons x t ih =>
    simp only [DataW.weightsAll, List.mem_append]
    rcases List.mem_cons.mp hd with rfl | hd
    · exact .inl hn
    · exact .inr (ih hd)
/-- A list, opened: its elements' cells are as the elements' own readings tell. -/
theorem rows_sz {α : Type} (dflt : α) {t e : TypeId} {k fuel : Nat} {a : Option Addr} {len cap : Nat} {x : DataW H × List MemPlace} (C : α → List Value) (Q : α → Prop) (ht : P.underlying t = some (.slice e)) (hk : P.cellsOf e = k) (hk0 : 0 < k)
    (hel : ∀ n cs y, cs.length = k → DataW.trod enc P w base spare held n e cs = some y → Sz P e y.1 → ∃ x, cs = C x ∧ Q x)
    (h : DataW.trod enc P w base spare held fuel t [.slice a len cap] = some x) (hs : Sz P t x.1) : ∃ l : List α, l.length = len ∧ Rows w k a cap (l.map C) ∧ (∀ x ∈ l, Q x) ∧ len * P.bytesOf e ≤ reachBytes := by
  rcases Go.Deep.open_slice ht h with ⟨hcs, _⟩ | ⟨ad, len', cap', m, n, D, Pl, hcs, _, hl, hm, hmm, hxd, hx⟩
  · simp only [List.cons.injEq, Value.slice.injEq, and_true] at hcs
    obtain ⟨rfl, rfl, rfl⟩ := hcs
    exact ⟨[], rfl, ⟨by simp, by simp, by simp, .inl rfl⟩, by simp, by simp⟩
  · simp only [List.cons.injEq, Value.slice.injEq, and_true] at hcs
    obtain ⟨rfl, rfl, rfl⟩ := hcs
    unfold maxLen at hm
    have hlm : len ≤ m := by rw [hmm]; split <;> omega
    subst hxd
    have hs1 : (((List.range len).map D).length + ((List.range (m - len)).map fun j => D (len + j)).length) * P.bytesOf e ≤ reachBytes := hs _ (by
      simp only [DataW.weights, ht]; exact List.mem_cons_self)
    have hs2 : ∀ i, i < len → Sz P e (D i) := fun i hi n hn => hs n (by
      simp only [DataW.weights, ht]
      refine List.mem_cons_of_mem _ (List.mem_append_left _ (mem_weightsAll (d := D i) ?_ n hn))
      simp only [List.mem_map, List.mem_range]
      exact ⟨i, hi, rfl⟩)
    have each : ∀ i, i < len → ∃ y : α, Q y ∧ (C y).length = k ∧ ∀ j u, (C y)[j]? = some u → w.cell? (ad.add (i * k + j)) = some u := fun i hi => by
      obtain ⟨cs', h1, h2⟩ := hx i (by omega)
      rw [hk] at h1
      obtain ⟨_, hlen, hcell⟩ := World.cells?_some h1
      obtain ⟨y, rfl, hQ⟩ := hel n cs' _ hlen h2 (hs2 i hi)
      refine ⟨y, hQ, hlen, fun j u hj => ?_⟩
      have hjk : j < k := by have := (List.getElem?_eq_some_iff.mp hj).1; omega
      have := hcell j hjk
      rw [Go.Deep.add_add] at this
      rw [this, hj]
    have inh : Inhabited α := ⟨dflt⟩
    obtain ⟨f, hf⟩ := Go.Deep.choose_lt each
    refine ⟨(List.range len).map f, by simp, ⟨by simpa using hl, by omega, by simp, ?_⟩, fun y hy => ?_, ?_⟩
    · by_cases h0 : len = 0
      · subst h0; exact .inl rfl
      right
      obtain ⟨b, off, spot⟩ := ad
      obtain ⟨_, hl0, hc0⟩ := hf 0 (by omega)
      have hcell0 : w.cell? ((⟨b, off, spot⟩ : Addr).add (0 * k + 0)) = some ((C (f 0))[0]'(by omega)) := hc0 0 _ (List.getElem?_eq_getElem (by omega))
      have hs : spot = none := by simpa [Addr.add] using World.cell?_spot hcell0
      subst hs
      rw [add_none] at hcell0
      refine ⟨b, off, rfl, World.block_lt_of_cell? _ _ hcell0, fun i row hi => ?_⟩
      simp only [List.map_map, List.getElem?_map, Option.map_eq_some_iff] at hi
      obtain ⟨i', hi', rfl⟩ := hi
      have hil : i < len ∧ i' = i := by
        have h1 := (List.getElem?_eq_some_iff.mp hi').1
        have h2 := (List.getElem?_eq_some_iff.mp hi').2
        simp at h1 h2
        exact ⟨h1, h2.symm⟩
      obtain ⟨hil, rfl⟩ := hil
      obtain ⟨_, h1, h2⟩ := hf i' hil
      exact ⟨h1, fun j u hj => by rw [← add_none]; exact h2 j u hj⟩
    · simp only [List.mem_map, List.mem_range] at hy
      obtain ⟨i, hi, rfl⟩ := hy
      exact (hf i hi).1
    · have := hs1
      simp only [List.length_map, List.length_range] at this
      exact Nat.le_trans (Nat.mul_le_mul_right _ (Nat.le_add_right _ _)) this
/-- A field of one cell. -/
theorem field_sz {t : TypeId} {fs : Array Field} {fuel : Nat} {cs : List Value} {x : DataW H × List MemPlace} (ht : P.underlying t = some (.struct fs)) (h : DataW.trod enc P w base spare held fuel t cs = some x)
    (i : Nat) (f : Field) (hi : fs[i]? = some f) (ho : f.offset = i) (hc : P.cellsOf f.type = 1) (hl : i < cs.length) (hs : Sz P t x.1) : ∃ v y n, cs[i]? = some v ∧ DataW.trod enc P w base spare held n f.type [v] = some y ∧ Sz P f.type y.1 := by
  obtain ⟨xs, n, _, hxd, _, hlen, hf⟩ := DataW.trod_struct ht h
  have h1 := hf i f hi
  have hlt : i < xs.length := by rw [hlen]; exact (Array.getElem?_eq_some_iff.mp hi).1
  rw [ho, hc, List.getElem?_eq_getElem hlt] at h1
  refine ⟨cs[i], xs[i], n, List.getElem?_eq_getElem hl, ?_, fun m hm => hs m ?_⟩
  rotate_left
  · rw [hxd]
    simp only [DataW.weights, ht]
    exact DataW.weights_mem_each (j := i) (t := f.type) (d := (xs[i]).1) (by simp [hi]) (by simp [hlt]) m hm
  rw [← h1]
  congr 1
  rw [List.drop_eq_getElem_cons hl]
  rfl
end
section
variable {H : Type} {enc : TypeId × Value → H} {w : World} {base : Nat} {spare : Nat → Bool} {held : Bool}
theorem sel_sz {n : Nat} {cs : List Value} {y : DataW H × List MemPlace} (hl : cs.length = 2) (h : DataW.trod enc Tryz.prog w base spare held n 221 cs = some y) (hs : Sz Tryz.prog 221 y.1) : ∃ x : MSel, cs = x.cells ∧ x.lies w ∧ x.sz := by
  obtain ⟨v0, _, _, e0, t0, s0⟩ := field_sz Tryz.underlying221 h 0 _ rfl rfl (by kernel_rfl) (by omega) hs
  obtain ⟨v1, _, _, e1, t1, s1⟩ := field_sz Tryz.underlying221 h 1 _ rfl rfl (by kernel_rfl) (by omega) hs
  obtain ⟨a, len, cap, rfl⟩ := slice_in Tryz.underlying219 t0
  obtain ⟨z1, rfl, b1⟩ := int_in Tryz.underlying3 t1
  obtain ⟨l, rfl, hr, hq, hb⟩ := rows_sz (k := 4) ⟨false, 0, 0, 0⟩ Cas.cells Cas.wf Tryz.underlying219 (by kernel_rfl) (by omega) (fun n cs y hl h _ => cas_in hl h) t0 s0
  exact ⟨⟨a, cap, l, z1⟩, list2 hl e0 e1, ⟨hr, hq, b1⟩, hb⟩
theorem fn_sz {n : Nat} {cs : List Value} {y : DataW H × List MemPlace} (hl : cs.length = 4) (h : DataW.trod enc Tryz.prog w base spare held n 165 cs = some y) (hs : Sz Tryz.prog 165 y.1) : ∃ x : MFn, cs = x.cells ∧ x.lies w ∧ x.sz := by
  obtain ⟨v0, _, _, e0, t0, s0⟩ := field_sz Tryz.underlying165 h 0 _ rfl rfl (by kernel_rfl) (by omega) hs
  obtain ⟨v1, _, _, e1, t1, s1⟩ := field_sz Tryz.underlying165 h 1 _ rfl rfl (by kernel_rfl) (by omega) hs
  obtain ⟨v2, _, _, e2, t2, s2⟩ := field_sz Tryz.underlying165 h 2 _ rfl rfl (by kernel_rfl) (by omega) hs
  obtain ⟨v3, _, _, e3, t3, s3⟩ := field_sz Tryz.underlying165 h 3 _ rfl rfl (by kernel_rfl) (by omega) hs
  obtain ⟨z0, rfl, b0⟩ := int_in Tryz.underlying3 t0
  obtain ⟨z1, rfl, b1⟩ := int_in Tryz.underlying3 t1
  obtain ⟨a2, len2, cap2, rfl⟩ := slice_in Tryz.underlying162 t2
  obtain ⟨a3, len3, cap3, rfl⟩ := slice_in Tryz.underlying163 t3
  obtain ⟨l2, rfl, hr2, hq2, hb2⟩ := rows_sz (k := 5) ⟨0, 0, 0, 0, 0⟩ Ins.cells Ins.wf Tryz.underlying162 (by kernel_rfl) (by omega) (fun n cs y hl h _ => ins_in hl h) t2 s2
  obtain ⟨l3, rfl, hr3, hq3, hb3⟩ := rows_sz (k := 2) ⟨none, 0, [], 0⟩ MSel.cells (fun s => s.lies w ∧ s.sz) Tryz.underlying163 (by kernel_rfl) (by omega) (fun n cs y hl h hs => sel_sz hl h hs) t3 s3
  exact ⟨⟨z0, z1, a2, cap2, l2, a3, cap3, l3⟩, list4 hl e0 e1 e2 e3, ⟨hr2, hr3, hq2, fun s hs => (hq3 s hs).1, b0, b1⟩, hb2, hb3, fun s hs => (hq3 s hs).2⟩
/-- A program, opened. -/
theorem prog_sz {n : Nat} {cs : List Value} {y : DataW H × List MemPlace} (h : DataW.trod enc Tryz.prog w base spare held n 36 cs = some y) (hs : Sz Tryz.prog 36 y.1) : ∃ x : MPr, Value.agg cs.toArray = x.val ∧ x.lies w ∧ x.sz := by
  have hl : cs.length = 4 := by
    obtain ⟨xs, n, _, _, hl, _⟩ := DataW.trod_struct Tryz.underlying36 h
    rw [hl]
    kernel_rfl
  obtain ⟨v0, _, _, e0, t0, s0⟩ := field_sz Tryz.underlying36 h 0 _ rfl rfl (by kernel_rfl) (by omega) hs
  obtain ⟨v1, _, _, e1, t1, s1⟩ := field_sz Tryz.underlying36 h 1 _ rfl rfl (by kernel_rfl) (by omega) hs
  obtain ⟨v2, _, _, e2, t2, s2⟩ := field_sz Tryz.underlying36 h 2 _ rfl rfl (by kernel_rfl) (by omega) hs
  obtain ⟨v3, _, _, e3, t3, s3⟩ := field_sz Tryz.underlying36 h 3 _ rfl rfl (by kernel_rfl) (by omega) hs
  obtain ⟨z1, rfl, b1⟩ := int_in Tryz.underlying3 t1
  obtain ⟨a0, len0, cap0, rfl⟩ := slice_in Tryz.underlying32 t0
  obtain ⟨a2, len2, cap2, rfl⟩ := slice_in Tryz.underlying33 t2
  obtain ⟨a3, len3, cap3, rfl⟩ := slice_in Tryz.underlying34 t3
  obtain ⟨l0, rfl, hr0, hq0, hb0⟩ := rows_sz (k := 2) ⟨false, 0⟩ Vr.cells (fun x => I64 x.init) Tryz.underlying32 (by kernel_rfl) (by omega) (fun n cs y hl h _ => vr_in hl h) t0 s0
  obtain ⟨l2, rfl, hr2, hq2, hb2⟩ := rows_sz (k := 1) 0 chCells I64 Tryz.underlying33 (by kernel_rfl) (by omega) (fun n cs y hl h _ => by
    obtain ⟨v, rfl⟩ := List.length_eq_one_iff.mp hl
    obtain ⟨z, rfl, hz⟩ := int_in Tryz.underlying3 h
    exact ⟨z, rfl, hz⟩) t2 s2
  obtain ⟨l3, rfl, hr3, hq3, hb3⟩ := rows_sz (k := 4) ⟨0, 0, none, 0, [], none, 0, []⟩ MFn.cells (fun f => f.lies w ∧ f.sz) Tryz.underlying34 (by kernel_rfl) (by omega) (fun n cs y hl h hs => fn_sz hl h hs) t3 s3
  refine ⟨⟨a0, cap0, l0, z1, a2, cap2, l2, a3, cap3, l3⟩, ?_, ⟨hr0, hr2, hr3, hq0, b1, hq2, fun f hf => (hq3 f hf).1⟩, hb0, hb2, hb3, fun f hf => (hq3 f hf).2⟩
  rw [list4 hl e0 e1 e2 e3]
end
end Go.Proofs.YtafefnkgdnmjbaaGreatDoor.pg
/- Lists that the call itself made: what it owns, what stays, and what append gives. -/
namespace Go.Proofs.YtafefnkgdnmjbaaGreatDoor.pg
open Go.ChangeShapes Go.WideShapes Go.ChangeAt Go.RowKit
set_option linter.unusedVariables false
set_option linter.unusedSimpArgs false
/-- A list of rows of k cells each in a block of its own. -/
abbrev OwnL (w : World) (lo : Nat) (e : TypeId) (k : Nat) (a : Option Addr) (cap : Nat) (L : List (List Value)) : Prop := w.ownsRow lo e k (.slice a L.length cap) L.length L.flatten
/-- The block of a list, if it has one. -/
def blk (a : Option Addr) : List Nat := match a with | some ad => [ad.block] | none => []
theorem flatten_at {k : Nat} : ∀ (L : List (List Value)), (∀ row ∈ L, row.length = k) → ∀ (i : Nat) (row : List Value), L[i]? = some row → ∀ j, j < k → L.flatten[i * k + j]? = row[j]?
  | [], _, i, row, h, j, hj => by simp at h
  | x :: t, hk, 0, row, h, j, hj => by
    simp at h
    subst h
    rw [Nat.zero_mul, Nat.zero_add, List.flatten_cons, List.getElem?_append_left (by rw [hk x (by simp)]; exact hj)]
  | x :: t, hk, i + 1, row, h, j, hj => by
    have hx := hk x (by simp)
    rw [List.flatten_cons, List.getElem?_append_right (by rw [hx, Nat.add_mul]; omega), hx]
    have := flatten_at t (fun r hr => hk r (by simp [hr])) i row (by simpa using h) j hj
    rw [← this]
    congr 1
    rw [Nat.add_mul]
    omega
theorem flatten_len {k : Nat} : ∀ (L : List (List Value)), (∀ row ∈ L, row.length = k) → L.flatten.length = L.length * k
  | [], _ => by simp
  | x :: t, h => by
    rw [List.flatten_cons, List.length_append, h x (by simp), flatten_len t fun r hr => h r (by simp [hr])]
    simp only [List.length_cons, Nat.add_mul]
    omega
theorem own_block {w : World} {lo e k : Nat} {a : Option Addr} {cap : Nat} {L : List (List Value)} (h : OwnL w lo e k a cap L) : a = none ∧ L.length = 0 ∧ cap = 0 ∨ ∃ g, a = some ⟨g, 0, none⟩ ∧ lo ≤ g ∧ g < w.heap.size := by
  rcases h.2 with ⟨h1, h2⟩ | ⟨g, cap', cur, h1, hb, hg, _⟩
  · simp only [Value.slice.injEq] at h1
    exact .inl h1
  · simp only [Value.slice.injEq] at h1
    exact .inr ⟨g, h1.1, hb, (Array.getElem?_eq_some_iff.mp hg).1⟩
theorem own_rows {w : World} {lo e k : Nat} {a : Option Addr} {cap : Nat} {L : List (List Value)} (h : OwnL w lo e k a cap L) (hk : ∀ row ∈ L, row.length = k) : Rows w k a cap L := by
  rcases h.2 with ⟨h1, h2⟩ | ⟨g, cap', cur, h1, hb, hg, hnc, hcm, hcs, htake⟩
  · simp only [Value.slice.injEq] at h1
    obtain ⟨rfl, hl, rfl⟩ := h1
    have : L = [] := List.length_eq_zero_iff.mp hl
    subst this
    exact ⟨by simp, by simp, by simp, .inl rfl⟩
  · simp only [Value.slice.injEq, true_and] at h1
    obtain ⟨rfl, rfl⟩ := h1
    unfold maxLen at hcm
    refine ⟨hnc, by omega, by simp, .inr ⟨g, 0, rfl, (Array.getElem?_eq_some_iff.mp hg).1, fun i row hi => ⟨hk row (List.mem_of_getElem? hi), fun j u hj => ?_⟩⟩⟩
    have hrk := hk row (List.mem_of_getElem? hi)
    have hjk : j < k := by have := (List.getElem?_eq_some_iff.mp hj).1; omega
    have hil : i < L.length := (List.getElem?_eq_some_iff.mp hi).1
    have hlt : i * k + j < L.length * k := by
      have : (i + 1) * k ≤ L.length * k := Nat.mul_le_mul_right k hil
      rw [Nat.add_mul] at this
      omega
    rw [Nat.zero_add, World.ownsRow.cellAt h (i * k + j) hlt, flatten_at L hk i row hi j hjk, hj]
theorem own_keep {w w' : World} {lo e k : Nat} {a : Option Addr} {cap : Nat} {L : List (List Value)} (h : OwnL w lo e k a cap L) (hk : ∀ g ∈ blk a, w'.heap[g]? = w.heap[g]?) : OwnL w' lo e k a cap L := by
  refine ⟨h.1, ?_⟩
  rcases h.2 with h' | ⟨g, cap', cur, h', hb, hg, hr⟩
  · exact .inl h'
  · have h1 := h'
    simp only [Value.slice.injEq] at h1
    exact .inr ⟨g, cap', cur, h', hb, by rw [hk g (by rw [h1.1]; simp [blk])]; exact hg, hr⟩
theorem blk_lt {w : World} {lo e k : Nat} {a : Option Addr} {cap : Nat} {L : List (List Value)} (h : OwnL w lo e k a cap L) : ∀ g ∈ blk a, lo ≤ g ∧ g < w.heap.size := by
  intro g hg
  rcases own_block h with ⟨rfl, _⟩ | ⟨g', rfl, h1, h2⟩
  · simp [blk] at hg
  · simp [blk] at hg
    subst hg
    exact ⟨h1, h2⟩
theorem ownBlock_blk (a : Option Addr) (n cap : Nat) (g : Nat) : (Value.slice a n cap).ownBlock = some g ↔ g ∈ blk a := by
  cases a <;> simp [Value.ownBlock, blk, eq_comm]
section
variable {P : Program} {w : World}
/-- APPEND to a list of the call's own, of a list that lies anywhere, nil too: the new value is a slice; its block is the old one, or a new one. -/
theorem wpList_app {ops : Array Oper} {rest : List Oper} {o : Oper} {a : Act} {Q : Exit → Act → World → Prop} (hgd : o.guard = none) (s x : Operand) (t : TypeId)
    (ho : o.op = .call { callee := .builtin .append, args := #[s, x], argTypes := #[t, t] })
    (base : Nat) (e : TypeId) (i : TypeInfo) (z : Value) (k bytes : Nat) (ht : P.underlying t = some (.slice e)) (hi : P.info? e = some i) (hz : i.zero = some z)
    (hsize : i.size = k) (hby : i.bytes = bytes) (hzs : z.cells.size = k) (hsz : 0 < k)
    (va : Option Addr) (vc : Nat) (L : List (List Value)) (hs : a.eval s = .slice va L.length vc) (hown : OwnL w base e k va vc L)
    (src : Option Addr) (c : Nat) (N : List (List Value)) (hx : a.eval x = .slice src N.length c) (hN : Rows w k src c N) (hNk : ∀ row ∈ N, row.length = k) (h1 : ∀ row ∈ N, ∀ u ∈ row, u.oneCell' = true)
    (h63 : L.length + N.length ≤ maxLen) (hbytes : (L.length + N.length) * bytes ≤ 140737488355328) (hbase : base ≤ w.heap.size)
    (h : ∀ va' vc' w', OwnL w' base e k va' vc' (L ++ N) → (∀ b, b < w.heap.size → b ∉ blk va → w'.heap[b]? = w.heap[b]?) → Below (min base w.heap.size) w w' → (blk va' = blk va ∨ blk va' = [w.heap.size]) → wpList P ops Q rest (a.put o.dst (.slice va' (L ++ N).length vc')) w') :
    wpList P ops Q (o :: rest) a w := by
  have hlow : ∀ b, b < min base w.heap.size → b ∉ blk va := fun b hb hm => by have := blk_lt hown b hm; omega
  cases src with
  | none =>
    have hn0 := (hN.2.2.1 rfl).1
    have hc0 := (hN.2.2.1 rfl).2
    subst hn0
    subst hc0
    refine wpList_append_own_none hgd s x t ho base e i k ht hi _ L.length L.flatten hs hown hx ?_
    have := h va vc w (by simpa using hown) (fun _ _ _ => rfl) (Below.refl _ _) (.inl rfl)
    simpa using this
  | some ad =>
    refine wpList_append_own_at w hgd s x t ho base e i z k bytes ht hi hz hsize hby hzs hsz _ L.length L.flatten hs hown ad N.length c N.flatten hx (flatten_len N hNk) (fun j u hj => ?_) (fun u hu => ?_) h63 hbytes hbase fun v' w' hv hg _ hb => ?_
    · rcases hN.2.2.2 with h0 | ⟨b, off, hab, _, hc⟩
      · subst h0; simp at hj
      · simp only [Option.some.injEq] at hab
        subst hab
        have hjl := (List.getElem?_eq_some_iff.mp hj).1
        rw [flatten_len N hNk] at hjl
        have hq : j / k < N.length := by rw [Nat.div_lt_iff_lt_mul hsz]; exact hjl
        obtain ⟨row, hr⟩ : ∃ row, N[j / k]? = some row := ⟨_, List.getElem?_eq_getElem hq⟩
        have hmod : j % k < k := Nat.mod_lt _ hsz
        have e1 : j / k * k + j % k = j := by rw [Nat.mul_comm]; exact Nat.div_add_mod j k
        have h2 := flatten_at N hNk (j / k) row hr (j % k) hmod
        rw [e1, hj] at h2
        have h3 := (hc (j / k) row hr).2 (j % k) u h2.symm
        rw [e1] at h3
        rw [add_none]
        exact h3
    · simp only [List.mem_flatten] at hu
      obtain ⟨row, hr, hu⟩ := hu
      exact h1 row hr u hu
    · have hk : ∀ b, b < w.heap.size → b ∉ blk va → w'.heap[b]? = w.heap[b]? := fun b hb2 hm => hg.block b hb2 (fun q => hm ((ownBlock_blk va L.length vc b).mp q.symm))
      have hB : Below (min base w.heap.size) w w' := ⟨hg.os, hg.tape, hg.output, hg.size, fun b hb2 => hk b (by omega) (hlow b hb2)⟩
      have hform : ∃ va' vc', v' = .slice va' (L.length + N.length) vc' := by
        rcases hv.2 with ⟨q, q2⟩ | ⟨g, cap', cur, q, _⟩
        · exact ⟨none, 0, by rw [q, q2]⟩
        · exact ⟨_, _, q⟩
      obtain ⟨va', vc', rfl⟩ := hform
      have hv2 : OwnL w' base e k va' vc' (L ++ N) := by
        show w'.ownsRow base e k (.slice va' (L ++ N).length vc') (L ++ N).length (L ++ N).flatten
        rw [List.length_append, List.flatten_append]
        exact hv
      have := h va' vc' w' hv2 hk hB (by
        have hcase : ∀ (p q : Option Addr) (np nq cp cq : Nat), (Value.slice p np cp).ownBlock = (Value.slice q nq cq).ownBlock → blk p = blk q := fun p q np nq cp cq h => by
          cases p <;> cases q <;> simp_all [Value.ownBlock, blk]
        rcases hb with hb | hb
        · exact .inl (hcase _ _ _ _ _ _ hb)
        · right
          cases va' with
          | none => simp [Value.ownBlock] at hb
          | some ad' => simp [Value.ownBlock] at hb; simp [blk, hb])
      rwa [List.length_append] at this
end
/-- A box that is known whole: its cells, and that it may be written. -/
theorem whole_cell {w : World} {b : Nat} {cs : Array Value} {t : TypeId} (h : w.heap[b]? = some (.cells cs t (0, 0))) (i : Nat) (v : Value) (hi : cs[i]? = some v) : w.cell? ⟨b, i, none⟩ = some v := by
  simp [World.cell?, h, hi]
theorem whole_frozen {w : World} {b : Nat} {cs : Array Value} {t : TypeId} (h : w.heap[b]? = some (.cells cs t (0, 0))) (i : Nat) : w.frozen? ⟨b, i, none⟩ = false := by
  simp [World.frozen?, h]
end Go.Proofs.YtafefnkgdnmjbaaGreatDoor.pg
