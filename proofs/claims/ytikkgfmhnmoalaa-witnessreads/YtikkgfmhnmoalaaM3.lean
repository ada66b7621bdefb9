/- One element appended to a list of the call's own. -/
import Derived.Test.YtikkgfmhnmoalaaM2
import Derived.Laws.OwnMore
import Derived.Laws.MakeOwn
import Derived.OwnWalk
import Derived.RangeFuncFrom
namespace Go.Proofs.Ytikkgfmhnmoalaa.pg
open Go.ChangeShapes Go.WideShapes Go.ChangeAt Go.RowKit
set_option linter.unusedVariables false
set_option linter.unusedSimpArgs false
set_option maxRecDepth 100000
theorem info_q {P : Program} {e : TypeId} {z : Value} {k b : Nat} (h : (P.info? e).map (fun i => (i.zero, i.size, i.bytes)) = some (some z, k, b)) : ∃ i, P.info? e = some i ∧ i.zero = some z ∧ i.size = k ∧ i.bytes = b := by
  obtain ⟨i, hi, h2⟩ := Option.map_eq_some_iff.mp h
  simp only [Prod.mk.injEq] at h2
  exact ⟨i, hi, h2.1, h2.2.1, h2.2.2⟩
theorem own_nil_q (w : World) (lo e k : Nat) : OwnL w lo e k none 0 [] := ⟨by simp, .inl ⟨rfl, rfl⟩⟩
theorem heap_new_q (w : World) (o : Obj) : (w.alloc o).heap[w.heap.size]? = some o := (MapKept.heap_alloc w o).1
theorem rows_one_q {w : World} {b k : Nat} {cs : List Value} {t : TypeId} (h : w.heap[b]? = some (.cells cs.toArray t (0, 0))) (hk : cs.length = k) : Rows w k (some ⟨b, 0, none⟩) 1 [cs] := by
  refine ⟨by simp, by omega, by simp, .inr ⟨b, 0, rfl, (Array.getElem?_eq_some_iff.mp h).1, fun i row hi => ?_⟩⟩
  cases i with
  | zero =>
    simp at hi
    subst hi
    refine ⟨hk, fun j u hj => ?_⟩
    have := whole_cell h j u (by simpa using hj)
    simpa using this
  | succ i => simp at hi
theorem below_min {B : Nat} {a w w' : World} (h : Below B a w) (hB : B ≤ w.heap.size) (k : Below (min B w.heap.size) w w') : Below B a w' := h.trans (k.mono (by omega))
theorem own_mono_q {w : World} {lo lo2 e k : Nat} {a : Option Addr} {cap : Nat} {L : List (List Value)} (h : OwnL w lo e k a cap L) (hl : lo2 ≤ lo) : OwnL w lo2 e k a cap L := by
  refine ⟨h.1, h.2.imp_right fun ⟨g, cap', cur, h1, hb, hr⟩ => ⟨g, cap', cur, h1, by omega, hr⟩⟩
/-- What an append of one element leaves: the list with it, all else as it was. -/
structure Grown (wr : World) (base e k : Nat) (va : Option Addr) (L : List (List Value)) (cs : List Value) (va' : Option Addr) (vc' : Nat) (w' : World) : Prop where
  ow : OwnL w' base e k va' vc' (L ++ [cs])
  be : Below (min base wr.heap.size) wr w'
  kp : ∀ b, b < wr.heap.size → b ∉ blk va → w'.heap[b]? = wr.heap[b]?
  bk : ∀ b ∈ blk va', b ∈ blk va ∨ wr.heap.size ≤ b
theorem wpList_app1 {P : Program} {wr : World} {ops : Array Oper} {rest : List Oper} {o : Oper} {a : Act} {Q : Exit → Act → World → Prop} (hgd : o.guard = none) (s x : Operand) (t : TypeId)
    (ho : o.op = .call { callee := .builtin .append, args := #[s, x], argTypes := #[t, t] })
    (base : Nat) (e : TypeId) (i : TypeInfo) (z : Value) (k bytes : Nat) (ht : P.underlying t = some (.slice e)) (hi : P.info? e = some i) (hz : i.zero = some z)
    (hsize : i.size = k) (hby : i.bytes = bytes) (hzs : z.cells.size = k) (hsz : 0 < k)
    (va : Option Addr) (vc : Nat) (L : List (List Value)) (hs : a.eval s = .slice va L.length vc) (hown : OwnL wr base e k va vc L) (cs : List Value)
    (hx : a.eval x = .slice (some ⟨wr.heap.size, 0, none⟩) 1 1) (hk : cs.length = k) (h1 : ∀ u ∈ cs, u.oneCell' = true)
    (h63 : L.length + 1 ≤ maxLen) (hbytes : (L.length + 1) * bytes ≤ 140737488355328) (hbase : base ≤ wr.heap.size)
    (h : ∀ va' vc' w', Grown wr base e k va L cs va' vc' w' → wpList P ops Q rest (a.put o.dst (.slice va' (L.length + 1) vc')) w') :
    wpList P ops Q (o :: rest) a (wr.alloc (.cells cs.toArray e)) := by
  have hbx := boxed wr (.cells cs.toArray e)
  have hB : base ≤ (wr.alloc (.cells cs.toArray e)).heap.size := by have := hbx.size; omega
  refine wpList_app hgd s x t ho base e i z k bytes ht hi hz hsize hby hzs hsz va vc L hs (own_keep hown fun b hb => hbx.block b (blk_lt hown b hb).2) (some ⟨wr.heap.size, 0, none⟩) 1 [cs] hx (rows_one_q (heap_new_q wr _) hk) (by intro row hr; rw [List.mem_singleton] at hr; rw [hr]; exact hk) (by intro row hr; rw [List.mem_singleton] at hr; rw [hr]; exact h1) h63 hbytes hB ?_
  intro va' vc' w' ho2 hk2 hB2 hbl
  have := h va' vc' w' ⟨ho2, ?_, ?_, ?_⟩
  · rwa [List.length_append, List.length_singleton]
  · exact (hbx.mono (by omega)).trans (hB2.mono (by have := hbx.size; omega))
  · intro b hb hm
    rw [hk2 b (by have := hbx.size; omega) hm]
    exact hbx.block b hb
  · intro b hb
    rcases hbl with q | q
    · rw [q] at hb; exact .inl hb
    · rw [q, List.mem_singleton] at hb; right; rw [hb]; exact hbx.size
end Go.Proofs.Ytikkgfmhnmoalaa.pg
/- A new list of a given length, its elements of one cell each. -/
namespace Go.Proofs.Ytikkgfmhnmoalaa.pg
open Go.ChangeShapes Go.WideShapes Go.ChangeAt Go.RowKit
set_option linter.unusedVariables false
theorem wpList_mk {P : Program} (w : World) {ops : Array Oper} {rest : List Oper} {o : Oper} {a : Act} {Q : Exit → Act → World → Prop}
    (hg : o.guard = none) (l c : Operand) (t : TypeId) (hop : o.op = Op.makeSlice t l c)
    (e : TypeId) (i : TypeInfo) (z : Value) (h1 : P.underlying t = some (.slice e)) (h2 : P.info? e = some i) (h3 : i.zero = some z) (hz : z.cells = #[z]) (h4 : i.size = 1)
    (n : Nat) (hl : a.eval l = .int .i64 (n : Int)) (hc : a.eval c = .int .i64 (n : Int)) (b2 : i.bytes * n ≤ 281474976710656) (b3 : n ≤ 9223372036854775807)
    (hK : ∀ w', w'.heap[w.heap.size]? = some (.cells (List.replicate n z).toArray e (0, 0)) → Below w.heap.size w w' → w'.heap.size = w.heap.size + 1 → wpList P ops Q rest (a.put o.dst (.slice (some ⟨w.heap.size, 0, none⟩) n n)) w') :
    wpList P ops Q (o :: rest) a w := by
  refine wpList_plain hg fun K hK' => ?_
  have b2' : (i.bytes : Int) * (n : Int) ≤ 281474976710656 := by
    have h : ((i.bytes * n : Nat) : Int) ≤ 281474976710656 := by omega
    rwa [Int.natCast_mul] at h
  have hrun := run_make (P := P) w t e i z h1 h2 h3 .i64 .i64 (n : Int) (n : Int) (by omega) (by omega) b2' (by omega)
  rw [hz, h4, Nat.mul_one, Int.toNat_natCast] at hrun
  unfold Oper.wp
  simp [execOp, hop, hl, hc, hrun, Result.andThen]
  refine hK' _ _ (hK _ ?_ ((Below.refl _ w).alloc (Nat.le_refl _) _) (by simp))
  rw [heap_new_q]
  congr 2
  apply Array.ext'
  rw [toList_madeCells_one]
end Go.Proofs.Ytikkgfmhnmoalaa.pg
/- A range over an iterator that tells, of each thing that it hands out, how it lies in memory at that moment. -/
namespace Go.Proofs.Ytikkgfmhnmoalaa.pg
open Go.RowKit
set_option linter.unusedVariables false
set_option maxRecDepth 100000
/-- What says nothing of blocks that are not there yet. -/
def Lasts {β : Type} (J : β → World → Prop) : Prop := ∀ s A B, Below A.heap.size A B → J s A → J s B
/-- What says nothing of blocks, from B on, that hold no cells. -/
def Plain {β : Type} (B : Nat) (J : β → World → Prop) : Prop := ∀ s A l o o', B ≤ l → A.heap[l]? = some o → o.isCells = false → J s A → J s (A.putObj l o')
/-- Nothing but block B changes; blocks may be added. -/
structure But (B : Nat) (V V' : World) : Prop where
  below : Below 0 V V'
  same : ∀ k, k < V.heap.size → k ≠ B → V'.heap[k]? = V.heap[k]?
/-- Of the blocks of cells nothing but block B changes. -/
structure ButC (B : Nat) (V V' : World) : Prop where
  size : V.heap.size ≤ V'.heap.size
  same : ∀ k o, V.heap[k]? = some o → o.isCells = true → k ≠ B → V'.heap[k]? = some o
theorem But.c {B : Nat} {V V' : World} (h : But B V V') : ButC B V V' := ⟨h.below.size, fun k o hk _ hB => (h.same k (Array.getElem?_eq_some_iff.mp hk).1 hB).trans hk⟩
theorem ButC.trans {B : Nat} {U V W : World} (h : ButC B U V) (k : ButC B V W) : ButC B U W := ⟨Nat.le_trans h.size k.size, fun i o hi ho hB => k.same i o (h.same i o hi ho hB) ho hB⟩
theorem ButC.put {B : Nat} {V : World} {l : Nat} {o : Obj} (h : V.heap[l]? = some o) (ho : o.isCells = false) (o' : Obj) : ButC B V (V.putObj l o') :=
  ⟨(grownBy_putObj' V l o').size, fun k q hk hq _ => (World.putObj_heap_other (fun e => by subst e; rw [h] at hk; cases hk; rw [hq] at ho; cases ho)).trans hk⟩
theorem But.refl {B : Nat} {V : World} : But B V V := ⟨Below.refl _ _, fun _ _ _ => rfl⟩
theorem But.trans {B : Nat} {U V W : World} (h : But B U V) (k : But B V W) : But B U W := ⟨h.below.trans k.below, fun i hi hB => (k.same i (by have := h.below.size; omega) hB).trans (h.same i hi hB)⟩
theorem But.of {B : Nat} {V V' : World} (h : Below V.heap.size V V') : But B V V' := ⟨h.mono (Nat.zero_le _), fun k hk _ => h.block k hk⟩
theorem But.set {V : World} (p : Addr) (v : Value) : But p.block V (V.setCell p v) := ⟨(Below.refl 0 V).setCell (Nat.zero_le _) v, fun k _ hB => Below.heap_setCell V p v k hB⟩
/-- An iterator's word: what it hands out, one behind the other (S: all of it; Sp: as far as it was asked), each as R says; between two rounds nothing but block B changes. -/
def Gives {α : Type} (F : Fence) (n : Nat) (P : Program) (g : Nat) (lb : Array Value) (encs : α → Array Value) (R : α → World → Prop) (B : Nat) (S Sp : List α → Prop) (N : Nat) (w : World) : Prop :=
  ∀ (l : Nat) (J Jx : List α → World → Prop) (W : World), Below w.heap.size w W → Lasts J →
    (∀ pre x V, R x V → J pre V → pre.length < N → YieldAt F (n - 1) P l (encs x) V fun e V' => (e = .returned (.bool true) ∧ J (pre ++ [x]) V' ∧ ButC B V V') ∨ (e = .returned (.bool false) ∧ Jx (pre ++ [x]) V')) →
    J [] W → CallsIn F n P g (#[.func (.yield l) #[] #[]] ++ lb) W fun e W' => (∃ v, e = .returned v) ∧ ((∃ xs, S xs ∧ J xs W') ∨ ∃ pre, Sp pre ∧ Jx pre W')
/-- How a round's body is left: off its end, or by a return. -/
def bodyEnds {α : Type} (B : Nat) (I Ix : List α → World → Prop) (xs : List α) (V : World) : Exit → Act → World → Prop
  | .normal, _, V' => But B V V' ∧ I xs V'
  | .ret, _, V' => But B V V' ∧ Ix xs V'
  | _, _, _ => False
section
variable {F : Fence} {n : Nat} {P : Program} {α : Type}
/-- One round of the body, as the iterator sees it. -/
theorem round_of {encs : α → Array Value} {R : α → World → Prop} {ps : Array Tmp} {assign body : Code} {a : Act} {fn : FuncId} {l D base B N : Nat} {rd : Loop} {I Ix : List α → World → Prop} (hfn : F.fn fn) (hrd : rd = { state := .ready, pending := none, fn, tmps := a.tmps, params := ps, assign, body, defers := D })
    (hDl : base ≤ D ∧ D < l ∧ B < base) (hps : ∀ x, (encs x).size = ps.size) (hRl : Lasts (fun x => R x)) (hIl : Lasts I) (hR : Plain base (fun x => R x)) (hI : Plain base I) (hIx : Plain base Ix) (a₁ : α → Nat → Act) (o₁ : α → Obj) (ho : ∀ x, (o₁ x).isCells = true)
    (hassign : ∀ (x : α) (V : World) (K : Act → World → Prop), K (a₁ x V.heap.size) (V.alloc (o₁ x)) → assign.wpIn (F.inRound l) n P (Exit.then K (fun _ _ _ => False)) { tmps := (ps.zip (encs x)).foldl (fun t (p, v) => t.setIfInBounds p v) a.tmps, defers := [] } V)
    (hbody : ∀ pre x A V, R x V → I pre V → pre.length < N → V.heap[A]? = some (o₁ x) → base ≤ A → body.wpIn (F.inRound l) n P (bodyEnds B I Ix (pre ++ [x]) V) (a₁ x A) V)
    (pre : List α) (x : α) (V : World) (hx : R x V) (hi : I pre V) (hN : pre.length < N) (hl : V.heap[l]? = some (.loop rd)) (hk : V.heap[D]? = some (.deferred (some []))) :
    YieldAt F n P l (encs x) V fun e V' =>
      (e = .returned (.bool true) ∧ (I (pre ++ [x]) V' ∧ V'.heap[l]? = some (.loop rd) ∧ V'.heap[D]? = some (.deferred (some []))) ∧ ButC B V V') ∨
      (e = .returned (.bool false) ∧ Ix (pre ++ [x]) V' ∧ V'.heap[l]? = some (.loop { rd with state := .done, pending := some .ret }) ∧ V'.heap[D]? = some (.deferred (some []))) := by
  have hy := run_yield (P := P) (args := encs x) hl (by rw [hrd]; exact hps x)
  have hst : rd.state = .ready := by rw [hrd]
  have hb1 : Below V.heap.size V (V.alloc (o₁ x)) := (Below.refl _ V).alloc (Nat.le_refl _) _
  have hlV := (Array.getElem?_eq_some_iff.1 hl).1
  have hl1 : (V.alloc (o₁ x)).heap[l]? = some (.loop rd) := (hb1.block l hlV).trans hl
  have hk1 : (V.alloc (o₁ x)).heap[D]? = some (.deferred (some [])) := (hb1.block D (Array.getElem?_eq_some_iff.1 hk).1).trans hk
  have hn1 : (V.alloc (o₁ x)).heap[V.heap.size]? = some (o₁ x) := World.alloc_heap_new V _
  have hlt := (Array.getElem?_eq_some_iff.1 hl1).1
  obtain ⟨U, hU⟩ : ∃ U, U = (V.alloc (o₁ x)).putObj l (.loop { rd with state := .busy }) := ⟨_, rfl⟩
  have ul : U.heap[l]? = some (.loop { rd with state := .busy }) := by rw [hU]; exact World.putObj_heap_same hlt
  have uD : U.heap[D]? = some (.deferred (some [])) := by rw [hU]; exact (World.putObj_heap_other (by omega)).trans hk1
  have uA : U.heap[V.heap.size]? = some (o₁ x) := by rw [hU]; exact (World.putObj_heap_other (by omega)).trans hn1
  have ux : R x U := by rw [hU]; exact hR x _ l _ _ (by omega) hl1 rfl (hRl x _ _ hb1 hx)
  have ui : I pre U := by rw [hU]; exact hI pre _ l _ _ (by omega) hl1 rfl (hIl pre _ _ hb1 hi)
  have uc : ButC B V U := by rw [hU]; exact (But.of hb1).c.trans (ButC.put hl1 rfl _)
  rw [show rd.fn = fn by rw [hrd], show rd.params = ps by rw [hrd], show rd.tmps = a.tmps by rw [hrd], show rd.assign = assign by rw [hrd], show rd.body = body by rw [hrd]] at hy
  refine ⟨fn, _, assign, body, hy, roundIn_of_wpIn hfn (hassign x V _ ⟨U, by rw [hU]; exact run_beginRound hl1 hst, ?_⟩)⟩
  refine wpIn_mono (hbody pre x V.heap.size U ux ui hN uA (by omega)) ?_
  have last : ∀ (j : Option Code) (Z : World), But B U Z → Z.heap[l]? = some (.loop { rd with state := .busy }) ∧ Z.heap[D]? = some (.deferred (some [])) := fun j Z h => ⟨(h.same l (Array.getElem?_eq_some_iff.1 ul).1 (by omega)).trans ul, (h.same D (Array.getElem?_eq_some_iff.1 uD).1 (by omega)).trans uD⟩
  rintro e b Z hz
  cases e with
  | normal =>
    obtain ⟨z1, z2⟩ := last none Z hz.1
    have he := run_endRound (P := P) none z1
    refine ⟨_, _, he, .inl ⟨rfl, ⟨hI _ _ _ _ _ (by omega) z1 rfl hz.2, ?_, (World.putObj_heap_other (by omega)).trans z2⟩, (uc.trans hz.1.c).trans (ButC.put z1 rfl _)⟩⟩
    rw [World.putObj_heap_same (Array.getElem?_eq_some_iff.1 z1).1, hrd]
    rfl
  | ret =>
    obtain ⟨z1, z2⟩ := last none Z hz.1
    have he := run_endRound (P := P) (some .ret) z1
    refine ⟨_, _, he, .inr ⟨rfl, hIx _ _ _ _ _ (by omega) z1 rfl hz.2, ?_, (World.putObj_heap_other (by omega)).trans z2⟩⟩
    rw [World.putObj_heap_same (Array.getElem?_eq_some_iff.1 z1).1]
    rfl
  | exit id => exact hz.elim
  | goto t => exact hz.elim
  | panic c => exact hz.elim
  | outgrown => exact hz.elim
/-- A range over such an iterator. -/
theorem range_told {g : Operand} {ps : Array Tmp} {assign body : Code} {Q : Exit → Act → World → Prop} {a : Act} {w : World} (hro : F.round = none) (h1 : 1 ≤ n) {gf : Nat} {lb : Array Value} (hg : a.eval g = .func (.func gf) #[] lb) (hFg : F.fn gf) (eg : ∀ args w, (callFunc gf args).run P w = .ok (.enter gf args) w)
    {encs : α → Array Value} {R : α → World → Prop} {B N : Nat} {S Sp : List α → Prop} (hseq : Gives F (n - 1) P gf lb encs R B S Sp N w) (hB : B < w.heap.size) (hps : ∀ x, (encs x).size = ps.size) (hRl : Lasts (fun x => R x)) (hR : Plain w.heap.size (fun x => R x))
    (I Ix : List α → World → Prop) (hL : Lasts I) (hI : Plain w.heap.size I) (hIx : Plain w.heap.size Ix) (h0 : I [] w) (a₁ : α → Nat → Act) (o₁ : α → Obj) (ho : ∀ x, (o₁ x).isCells = true)
    (hassign : ∀ (l : Nat) (x : α) (V : World) (K : Act → World → Prop), K (a₁ x V.heap.size) (V.alloc (o₁ x)) → assign.wpIn (F.inRound l) (n - 1 - 1) P (Exit.then K (fun _ _ _ => False)) { tmps := (ps.zip (encs x)).foldl (fun t (p, v) => t.setIfInBounds p v) a.tmps, defers := [] } V)
    (hbody : ∀ l pre x A V, R x V → I pre V → pre.length < N → V.heap[A]? = some (o₁ x) → w.heap.size ≤ A → body.wpIn (F.inRound l) (n - 1 - 1) P (bodyEnds B I Ix (pre ++ [x]) V) (a₁ x A) V)
    (hdone : ∀ (D : Nat) (xs : List α) (V : World), w.heap.size ≤ D → S xs → I xs V → V.heap[D]? = some (.deferred (some [])) → Q .normal { a with defers := { target := .collected D, args := #[] } :: a.defers } V)
    (hstop : ∀ (D : Nat) (pre : List α) (V : World), w.heap.size ≤ D → Sp pre → Ix pre V → V.heap[D]? = some (.deferred (some [])) → Code.ret.wpIn F n P Q { a with defers := { target := .collected D, args := #[] } :: a.defers } V) :
    (Code.rangeFunc g ps assign body).wpIn F n P Q a w := by
  refine wpIn_rangeFunc fun fn hfn => ?_
  rw [hro]
  obtain ⟨rd, hrd⟩ : ∃ rd : Loop, rd = { state := .ready, pending := none, fn, tmps := a.tmps, params := ps, assign, body, defers := w.heap.size } := ⟨_, rfl⟩
  obtain ⟨U, hU⟩ : ∃ U, U = (w.alloc (.deferred (some []))).alloc (.loop rd) := ⟨_, rfl⟩
  have hbU : Below w.heap.size w U := by rw [hU]; exact ((Below.refl _ w).alloc (Nat.le_refl _) _).alloc (by rw [World.size_alloc]; omega) _
  have ul : U.heap[w.heap.size + 1]? = some (.loop rd) := by
    have := World.alloc_heap_new (w.alloc (.deferred (some []))) (.loop rd)
    rw [World.size_alloc] at this
    rw [hU]; exact this
  have uD : U.heap[w.heap.size]? = some (.deferred (some [])) := by
    rw [hU, Below.heap_alloc _ _ _ (by rw [World.size_alloc]; omega)]
    exact World.alloc_heap_new w _
  refine ⟨w.heap.size + 1, [{ target := .collected w.heap.size, args := #[] }], U, { target := .fn (.func gf) lb, args := #[.func (.yield (w.heap.size + 1)) #[] #[]] }, U, gf, #[.func (.yield (w.heap.size + 1)) #[] #[]] ++ lb, U, ?_, ?_, ?_, ?_, fun _ => h1, ?_⟩
  · rw [hU, hrd]; exact run_enterLoop_outer _ _ _ _ _
  · simp only [resolve, hg]
    simp [go_sem]
  · intro f' hf'; simp [Target.leads] at hf'; subst hf'; exact hFg
  · simp [invoke, go_sem, eg]
  · refine (hseq (w.heap.size + 1) (fun pre V => I pre V ∧ V.heap[w.heap.size + 1]? = some (.loop rd) ∧ V.heap[w.heap.size]? = some (.deferred (some [])))
      (fun pre V => Ix pre V ∧ V.heap[w.heap.size + 1]? = some (.loop { rd with state := .done, pending := some .ret }) ∧ V.heap[w.heap.size]? = some (.deferred (some []))) U hbU
      (fun s A C hb h => ⟨hL s A C hb h.1, (hb.block _ (Array.getElem?_eq_some_iff.1 h.2.1).1).trans h.2.1, (hb.block _ (Array.getElem?_eq_some_iff.1 h.2.2).1).trans h.2.2⟩)
      (fun pre x V hx h hN => round_of hfn hrd ⟨Nat.le_refl _, Nat.lt_succ_self _, hB⟩ hps hRl hL hR hI hIx a₁ o₁ ho (hassign _) (hbody _) pre x V hx h.1 hN h.2.1 h.2.2) ⟨hL [] w U (by rw [hU]; exact ((Below.refl _ w).alloc (Nat.le_refl _) _).alloc (by rw [World.size_alloc]; omega) _) h0, ul, uD⟩).mono ?_
    rintro e Z ⟨⟨v, rfl⟩, hz⟩
    rcases hz with ⟨xs, hS, hi, zl, zD⟩ | ⟨pre, hSp, hi, zl, zD⟩
    · have he := run_endLoop (P := P) zl (by rw [hrd]; simp)
      rw [show rd.pending = none by rw [hrd]] at he
      exact ⟨none, _, he, hdone _ xs _ (Nat.le_refl _) hS (hI _ _ _ _ _ (by omega) zl rfl hi) ((World.putObj_heap_other (by omega)).trans zD)⟩
    · have he := run_endLoop (P := P) zl (by simp)
      exact ⟨some .ret, _, he, hstop _ pre _ (Nat.le_refl _) hSp (hIx _ _ _ _ _ (by omega) zl rfl hi) ((World.putObj_heap_other (by omega)).trans zD)⟩
end
end Go.Proofs.Ytikkgfmhnmoalaa.pg
