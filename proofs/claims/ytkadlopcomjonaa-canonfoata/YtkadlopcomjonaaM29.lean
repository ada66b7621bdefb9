/- Past and Lasts of package order. -/
import Derived.Test.YtkadlopcomjonaaM28
import Derived.Test.YtkadlopcomjonaaM11
import Derived.Test.YtkadlopcomjonaaM14
namespace Go.Proofs.Ytkadlopcomjonaa.pg
open Go.ChangeShapes Go.WideShapes Go.ChangeAt Go.RowKit Go.Shelf
set_option linter.unusedVariables false
set_option linter.unusedSimpArgs false
set_option maxRecDepth 100000
attribute [local go_sem ↓] Go.wp_at_zero Go.wp_at_succ
/-- A set in a block of its own, beyond a world. -/
structure SetB (W1 W : World) (P : Nat) (f : Nat → Bool) : Prop where
  s : W.heap[P]? = some (.cells (boolRow 256 f) 108)
  b : Below W1.heap.size W1 W
  l : W1.heap.size ≤ P
theorem SetB.later {W1 W W' : World} {P : Nat} {f : Nat → Bool} (h : SetB W1 W P f) (hb : Below W.heap.size W W') : SetB W1 W' P f :=
  ⟨(hb.block _ (Array.getElem?_eq_some_iff.mp h.s).1).trans h.s, bthen h.b hb, h.l⟩
theorem SetB.put {W1 W : World} {P : Nat} {f : Nat → Bool} (h : SetB W1 W P f) (k : Nat) (v : Bool) : SetB W1 (W.setCell ⟨P, k, none⟩ (.bool v)) P (fun b => if b = k then v else f b) := by
  rw [setCell_eq_setRow W P k _ _ _ _ h.s, boolRow_set]
  exact ⟨setRow_heap W P _ _ _ _ h.s, below_setRow h.b h.l _, h.l⟩
theorem SetB.cell {W1 W : World} {P : Nat} {f : Nat → Bool} (h : SetB W1 W P f) {k : Nat} (hk : k < 256) : W.cell? ⟨P, k, none⟩ = some (.bool (f k)) ∧ W.frozen? ⟨P, k, none⟩ = false :=
  ⟨cell_of h.s (boolRow_at hk), frozen_of_row _ _ _ _ _ h.s⟩
theorem SetB.cong {W1 W : World} {P : Nat} {f g : Nat → Bool} (h : SetB W1 W P f) (e : ∀ k, f k = g k) : SetB W1 W P g := by
  have : f = g := funext e
  rwa [← this]
theorem setB_new (W1 : World) : SetB W1 (W1.alloc (.cells (boolRow 256 fun _ => false) 108)) W1.heap.size (fun _ => false) := ⟨heap_alloc_new _ _, boxed _ _, Nat.le_refl _⟩
def fPast (l : List Ev) (i k a : Nat) : Bool := decide (a < k) && befK (rel (evf l) l.length).1 l a i
theorem fPast_more (l : List Ev) (i k a : Nat) : (if a = k then befK (rel (evf l) l.length).1 l k i else fPast l i k a) = fPast l i (k + 1) a := by
  unfold fPast
  by_cases h : a = k
  · subst h
    rw [if_pos rfl]
    have : decide (a < a + 1) = true := by simp
    rw [this, Bool.true_and]
  · rw [if_neg h]
    have : decide (a < k) = decide (a < k + 1) := by rw [decide_eq_decide]; omega
    rw [this]
end Go.Proofs.Ytkadlopcomjonaa.pg
/- slices.Backward of pairs. -/
namespace Go.Proofs.Ytkadlopcomjonaa.pg
open Go.ChangeShapes Go.WideShapes Go.ChangeAt Go.RowKit Go.Shelf
set_option linter.unusedVariables false
set_option linter.unusedSimpArgs false
set_option maxRecDepth 100000
attribute [local go_sem] Oper.semAt_some
/-- The pairs, each at its place below n₀. -/
def PrAt (n₀ : Nat) (W : World) (a : Option Addr) (j cap : Nat) (ev : Nat → Nat × Nat) : Prop := ∀ i, i < j → ∃ b o, (∀ wx, (Instr.indexAt 91 (.slice a j cap) (.int .i64 (i : Int))).run Try.prog wx = .ok (.pointer (some ⟨b, o, none⟩)) wx) ∧ b < n₀ ∧ W.rangeAt b o (edg (ev i))
theorem PrAt.below {n₀ : Nat} {W W' : World} {a : Option Addr} {j cap : Nat} {ev : Nat → Nat × Nat} (h : PrAt n₀ W a j cap ev) (hb : Below n₀ W W') : PrAt n₀ W' a j cap ev := fun i hi => by
  obtain ⟨b, o, h1, h2, h3⟩ := h i hi
  exact ⟨b, o, h1, h2, fun q v hv => (hb.cell (p := ⟨b, o + q, none⟩) h2).trans (h3 q v hv)⟩
end Go.Proofs.Ytkadlopcomjonaa.pg
/- setOf and closed of package order. -/
namespace Go.Proofs.Ytkadlopcomjonaa.pg
open Go.ChangeShapes Go.WideShapes Go.ChangeAt Go.RowKit Go.Shelf
set_option linter.unusedVariables false
set_option linter.unusedSimpArgs false
set_option maxRecDepth 100000
attribute [local go_sem] Oper.semAt_some
attribute [local go_sem ↓] Go.wp_at_zero Go.wp_at_succ
def fOf (ps : List Int) (a : Nat) : Bool := ps.any fun p => p == (a : Int)
theorem fOf_more (ps : List Int) (k a : Nat) : (if a = k then true else fOf ps a) = fOf (ps ++ [(k : Int)]) a := by
  unfold fOf
  rw [List.any_append]
  by_cases h : a = k
  · subst h; simp
  · have : ((k : Int) == (a : Int)) = false := by rw [beq_eq_false_iff_ne]; omega
    simp [h, this]
theorem fOf_iff (ps : List Int) (a : Nat) : fOf ps a = true ↔ (a : Int) ∈ ps := by
  unfold fOf
  rw [List.any_eq_true]
  constructor
  · rintro ⟨p, hp, h⟩
    rw [beq_iff_eq] at h
    rwa [← h]
  · intro h
    exact ⟨_, h, by simp⟩
set_option maxHeartbeats 2000000 in
theorem setOf_any (ps : List Int) (pa : Option Addr) (pc : Nat) (w : World) (hp : Rows w 1 pa pc (ps.map chCells)) (hin : ∀ p ∈ ps, 0 ≤ p ∧ p < 256) :
    Calls Try.prog 59 #[.slice pa ps.length pc] w fun e w' => e = .returned (.agg (boolRow 256 (fOf ps))) ∧ Below w.heap.size w w' := by
  have hpI := rows_len hp
  have hpH : Hid (Rows w 1 pa pc (ps.map chCells)) := hp
  have hinH : Hid (∀ p ∈ ps, 0 ≤ p ∧ p < 256) := hin
  have huS : Hid (Try.prog.underlying 108 = _) := Try.underlying108
  have hzS : Hid (∀ w, (zeroValue 108).run Try.prog w = .ok (.agg (boolRow 256 fun _ => false)) w) := zeroSt
  have hb2 := boxed2 w (.cells (boolRow 256 fun _ => false) 108) (.cells (boolRow 256 fun _ => false) 108)
  have hR0 : ((w.alloc (.cells (boolRow 256 fun _ => false) 108)).alloc (.cells (boolRow 256 fun _ => false) 108)).heap[w.heap.size]? = some (.cells (boolRow 256 fun _ => false) 108) := (Below.heap_alloc _ _ _ (by simp [World.size_alloc])).trans (heap_alloc_new w _)
  have hP0 : ((w.alloc (.cells (boolRow 256 fun _ => false) 108)).alloc (.cells (boolRow 256 fun _ => false) 108)).heap[w.heap.size + 1]? = some (.cells (boolRow 256 fun _ => false) 108) := by
    have := heap_alloc_new (w.alloc (.cells (boolRow 256 fun _ => false) 108)) (.cells (boolRow 256 fun _ => false) 108)
    rwa [World.size_alloc] at this
  have s0 : Hid (SetB w ((w.alloc (.cells (boolRow 256 fun _ => false) 108)).alloc (.cells (boolRow 256 fun _ => false) 108)) (w.heap.size + 1) (fOf (ps.take 0)) ∧ ((w.alloc (.cells (boolRow 256 fun _ => false) 108)).alloc (.cells (boolRow 256 fun _ => false) 108)).heap[w.heap.size]? = some (.cells (boolRow 256 fun _ => false) 108)) := ⟨⟨hP0, hb2, by omega⟩, hR0⟩
  clear hp hin hb2 hR0 hP0
  go_enter Try.func59, Try.ntmps59
  go_wp2_with (first
    | (refine wpList_alloc_big rfl 108 rfl hzS.out ?_; (try rw [World.size_alloc])))
  generalize (w.alloc (.cells (boolRow 256 fun _ => false) 108)).alloc (.cells (boolRow 256 fun _ => false) 108) = W0 at *
  obtain ⟨P, hP⟩ : ∃ P, w.heap.size + 1 = P := ⟨_, rfl⟩
  have hPH : Hid (w.heap.size + 1 = P) := hP
  rw [hP] at s0 ⊢
  clear hP
  go_loopw [8] (fun u wr => ∃ k : Nat, k ≤ ps.length ∧ u = .int .i64 k ∧ Hid (SetB w wr P (fOf (ps.take k)) ∧ wr.heap[w.heap.size]? = some (.cells (boolRow 256 fun _ => false) 108))) (fun u _ => ps.length - (intOf u).toNat)
  case atStart => exact ⟨0, Nat.zero_le _, rfl, s0⟩
  case round =>
    obtain ⟨k, hk, rfl, hs⟩ := hrel
    clear s0
    by_cases hlt : k < ps.length
    · obtain ⟨y, hy, hym⟩ := get_lt ps k hlt
      obtain ⟨y0, y1⟩ := hinH.out y hym
      obtain ⟨b1, o1, hix1, hbl1, c1⟩ := ch_ix (hpH.out.later hs.out.1.b) k y hy
      obtain ⟨a, rfl⟩ := Int.eq_ofNat_of_zero_le y0
      have hkI : (k : Int) < ps.length := by omega
      have xP := ix_set P a (by omega)
      have hcl : Hid (wr.cell? ⟨P, a, none⟩ = some (.bool (fOf (ps.take k) a)) ∧ wr.frozen? ⟨P, a, none⟩ = false) := hs.out.1.cell (by omega)
      have hnx : Hid (SetB w (wr.setCell ⟨P, a, none⟩ (.bool true)) P (fOf (ps.take (k + 1))) ∧ (wr.setCell ⟨P, a, none⟩ (.bool true)).heap[w.heap.size]? = some (.cells (boolRow 256 fun _ => false) 108)) := by
        refine ⟨?_, (Below.heap_setCell _ _ _ _ (by show w.heap.size ≠ P; have := hPH.out; omega)).trans hs.out.2⟩
        rw [take_one ps k _ hy]
        exact (hs.out.1.put a true).cong fun b => fOf_more (ps.take k) a b
      clear hs hy hym y0 y1 hbl1
      go_wp2_with (first
        | (refine wpList_putb rfl 4 _ _ rfl ⟨P, a, none⟩ rfl true rfl (by kernel_rfl) _ hcl.out.1 hcl.out.2 ?_; intro W3 hW3; (have s3 : Hid (SetB w W3 P (fOf (ps.take (k + 1))) ∧ W3.heap[w.heap.size]? = some (.cells (boolRow 256 fun _ => false) 108)) := by (rw [hW3]; exact hnx.out)); clear hW3 hnx hcl))
      go_roundw
      case rel => exact ⟨k + 1, by omega, by go_num, s3⟩
      case measure => simp [intOf]; omega
    · have hk2 : k = ps.length := by omega
      subst hk2
      rw [List.take_length] at hs
      go_wp2_with (first
        | (refine wpList_load_row rfl 108 _ rfl P rfl _ _ _ _ hs.out.1.s huS.out rfl (infoSt _) ?_)
        | (refine wpList_store_row rfl 108 _ _ rfl w.heap.size (boolRow 256 (fOf ps)) rfl rfl _ _ hs.out.2 (infoSt _) (by rw [boolRow_size, boolRow_size]) (boolRow_one _ _) ?_))
      exact bodyPost_ret (results_cell_row Try.results59 _ _ w.heap.size 108 _ (0, 0) _ rfl (setRow_heap wr w.heap.size _ _ _ _ hs.out.2) huS.out rfl (infoSt _)) rfl ⟨rfl, below_setRow hs.out.1.b (Nat.le_refl _) _⟩
/-- One edge: what is behind it in, then what is ahead of it. -/
def cst (f : Nat → Bool) (p : Nat × Nat) (a : Nat) : Bool := if a = p.1 then (f p.1 || f p.2) else f a
def cfd (E : List (Nat × Nat)) (f : Nat → Bool) (pre : List { i : Nat // i < E.length }) : Nat → Bool := pre.foldl (fun g x => cst g (E.getD x.1 (0, 0))) f
theorem cfd_more (E : List (Nat × Nat)) (f : Nat → Bool) (pre : List { i : Nat // i < E.length }) (x : { i : Nat // i < E.length }) : cfd E f (pre ++ [x]) = cst (cfd E f pre) (E.getD x.1 (0, 0)) := by unfold cfd; rw [List.foldl_append]; rfl
/-- Between two rounds of closed. -/
structure Cl (w : World) (rv : Array Value) (f : Nat → Bool) (W : World) : Prop where
  rb : W.heap[w.heap.size]? = some (.cells rv 104)
  sb : W.heap[w.heap.size + 1]? = some (.cells (boolRow 256 f) 108)
  zb : W.heap[w.heap.size + 2]? = some (.cells (boolRow 256 fun _ => false) 108)
  be : Below w.heap.size w W
  sz : w.heap.size + 4 ≤ W.heap.size
theorem Cl.keep {w : World} {rv : Array Value} {f : Nat → Bool} {W W' : World} (h : Cl w rv f W) (hs : W.heap.size ≤ W'.heap.size) (hb : Below w.heap.size W W') (hk : ∀ b, w.heap.size ≤ b → b < w.heap.size + 3 → W'.heap[b]? = W.heap[b]?) : Cl w rv f W' :=
  ⟨(hk _ (by omega) (by omega)).trans h.rb, (hk _ (by omega) (by omega)).trans h.sb, (hk _ (by omega) (by omega)).trans h.zb, h.be.trans hb, by have := h.sz; omega⟩
theorem Cl.later {w : World} {rv : Array Value} {f : Nat → Bool} {W W' : World} (h : Cl w rv f W) (hb : Below W.heap.size W W') : Cl w rv f W' :=
  h.keep hb.size (hb.mono (by have := h.sz; omega)) fun b _ q => hb.block b (by have := h.sz; omega)
theorem Cl.own {w : World} {rv : Array Value} {f : Nat → Bool} {W W' : World} {B : Nat} {row : Option Nat} (h : Cl w rv f W) (hB : w.heap.size + 4 ≤ B) (hgr : W.grownBy W' row) (hr : ∀ r, row = some r → B ≤ r ∧ ∃ o : Obj, W.heap[r]? = some o ∧ o.isCells = false) : Cl w rv f W' :=
  h.keep hgr.size ((Below.refl w.heap.size W).grown hgr (by have := h.sz; omega) fun k e => by have := (hr k e).1; omega) fun b q1 q2 => hgr.block b (by have := h.sz; omega) fun e => by have := (hr b e.symm).1; omega
theorem Cl.round {w : World} {rv : Array Value} {f : Nat → Bool} {W W' : World} {B : Nat} (h : Cl w rv f W) (hB : w.heap.size + 4 ≤ B) (hs : W.heap.size ≤ W'.heap.size) (hb : Below w.heap.size W W') (hk : ∀ b, b < W.heap.size → b ≠ w.heap.size + 1 → W'.heap[b]? = W.heap[b]?) : KeepsFrom B W W' ∧ Keeps w.heap.size (w.heap.size + 3) W W' := by
  have hz := h.sz
  refine ⟨⟨hs, fun k o q1 q2 q3 => ?_⟩, hb, hk _ (by omega) (by omega)⟩
  rw [hk k (Array.getElem?_eq_some_iff.mp q2).1 (by omega)]
  exact q2
theorem alloc4 (w : World) (o1 o2 o3 o4 : Obj) : ((((w.alloc o1).alloc o2).alloc o3).alloc o4).heap[w.heap.size]? = some o1 ∧ ((((w.alloc o1).alloc o2).alloc o3).alloc o4).heap[w.heap.size + 1]? = some o2 ∧ ((((w.alloc o1).alloc o2).alloc o3).alloc o4).heap[w.heap.size + 2]? = some o3 ∧ ((((w.alloc o1).alloc o2).alloc o3).alloc o4).heap[w.heap.size + 3]? = some o4 ∧ Below w.heap.size w ((((w.alloc o1).alloc o2).alloc o3).alloc o4) ∧ ((((w.alloc o1).alloc o2).alloc o3).alloc o4).heap.size = w.heap.size + 4 := by
  have z1 : (w.alloc o1).heap.size = w.heap.size + 1 := World.size_alloc _ _
  have z2 : ((w.alloc o1).alloc o2).heap.size = w.heap.size + 2 := by rw [World.size_alloc, z1]
  have z3 : (((w.alloc o1).alloc o2).alloc o3).heap.size = w.heap.size + 3 := by rw [World.size_alloc, z2]
  have z4 : ((((w.alloc o1).alloc o2).alloc o3).alloc o4).heap.size = w.heap.size + 4 := by rw [World.size_alloc, z3]
  have b1 := boxed w o1
  have b2 := boxed (w.alloc o1) o2
  have b3 := boxed ((w.alloc o1).alloc o2) o3
  have b4 := boxed (((w.alloc o1).alloc o2).alloc o3) o4
  have h1 := heap_alloc_new w o1
  have h2 := heap_alloc_new (w.alloc o1) o2
  have h3 := heap_alloc_new ((w.alloc o1).alloc o2) o3
  have h4 := heap_alloc_new (((w.alloc o1).alloc o2).alloc o3) o4
  rw [z1] at h2
  rw [z2] at h3
  rw [z3] at h4
  exact ⟨(b4.block _ (by omega)).trans ((b3.block _ (by omega)).trans ((b2.block _ (by omega)).trans h1)), (b4.block _ (by omega)).trans ((b3.block _ (by omega)).trans h2), (b4.block _ (by omega)).trans h3, h4, bthen (bthen (bthen b1 b2) b3) b4, z4⟩
theorem wpList_load1g {P : Program} {ops : Array Oper} {rest : List Oper} {o : Oper} {a : Act} {w : World} {Q : Exit → Act → World → Prop} (hw : Region.wanted o (yielded ops a.tmps) = true) (ty : TypeId) (x : Operand) (ho : o.op = .load ty x) (ad : Addr) (hx : a.eval x = .pointer (some ad)) (d : TypeDesc) (hu : P.underlying ty = some d) (hd : d.isRow = false) (v : Value) (hc : w.cell? ad = some v)
    (h : wpList P ops Q rest (a.put o.dst v) w) : wpList P ops Q (o :: rest) a w := BigFrame.wpList_want hw fun K hK => by
  unfold Oper.wp
  rw [run_load1 ty x ho ad hx d hu hd hc]
  exact hK _ _ h
theorem reg_skip {P : Program} {ops : Array Oper} {Q : Exit → Act → World → Prop} {S : World → Prop} {fuel : Nat} {listed : Array Bool} {a : Act} {w : World} {i : Nat} {o : Oper} (ho : ops[i]? = some o) (hs : Region.noSelect ops = true) (hf : Region.free .any ops listed i = true) (hr : (Region.ready .any ops listed).contains i = true)
    (hQ : ∀ c v a w, Q (.panic c) (a.put o.dst v) w → Q (.panic c) a w) (hw : Region.wanted o (yielded ops a.tmps) = false) (hSw : S w)
    (h : wpAnyH P .any ops Q S fuel (listed.setIfInBounds i true) (a.put o.dst undef) w) : wpAnyH P .any ops Q S (fuel + 1) listed a w :=
  wpAnyH_take ho hs hf hr (fun c a w => hQ c _ a w) (.inr ⟨hw, rfl⟩) hSw h
end Go.Proofs.Ytkadlopcomjonaa.pg
