/- slices.Backward of pairs. -/
import Derived.Test.YtkhhkgfaakgdfaaM13
import Derived.Test.YtkhhkgfaakgdfaaM19
import Derived.Test.YtkhhkgfaakgdfaaM33
namespace Go.Proofs.Ytkhhkgfaakgdfaa.pg
open Go.ChangeShapes Go.WideShapes Go.ChangeAt Go.RowKit Go.Shelf
set_option linter.unusedVariables false
set_option linter.unusedSimpArgs false
set_option maxRecDepth 100000
attribute [local go_sem] Oper.semAt_some
/-- The pairs, each at its place below n₀. -/
def PrAt (n₀ : Nat) (W : World) (a : Option Addr) (j cap : Nat) (ev : Nat → Nat × Nat) : Prop := ∀ i, i < j → ∃ b o, (∀ wx, (Instr.indexAt 27 (.slice a j cap) (.int .i64 (i : Int))).run Try.prog wx = .ok (.pointer (some ⟨b, o, none⟩)) wx) ∧ b < n₀ ∧ W.rangeAt b o (edg (ev i))
theorem PrAt.below {n₀ : Nat} {W W' : World} {a : Option Addr} {j cap : Nat} {ev : Nat → Nat × Nat} (h : PrAt n₀ W a j cap ev) (hb : Below n₀ W W') : PrAt n₀ W' a j cap ev := fun i hi => by
  obtain ⟨b, o, h1, h2, h3⟩ := h i hi
  exact ⟨b, o, h1, h2, fun q v hv => (hb.cell (p := ⟨b, o + q, none⟩) h2).trans (h3 q v hv)⟩
set_option maxHeartbeats 2000000 in
theorem back1_inP (F : Fence) (n : Nat) (hf : F.fn 90) (hro : F.round = none) (hn : 1 ≤ n) (lp Bs n₀ j cap : Nat) (a : Option Addr) (ev : Nat → Nat × Nat) (hj : j ≤ 65536) (J Jx : List { i : Nat // i < j } → World → Prop)
    (hY : ∀ pre x W, J pre W → pre.length < j → YieldAt F (n - 1) Try.prog lp #[.int .i64 (x.1 : Int), .agg (edg (ev x.1)).toArray] W fun e W' =>
      (e = .returned (.bool true) ∧ J (pre ++ [x]) W' ∧ Keeps n₀ Bs W W') ∨ (e = .returned (.bool false) ∧ Jx (pre ++ [x]) W'))
    (W : World) (hBs : W.heap[Bs]? = some (.cells #[.slice a j cap] 27)) (hc : PrAt n₀ W a j cap ev) (h0 : J [] W) :
    CallsIn F n Try.prog 90 #[.func (.yield lp) #[] #[], .pointer (some ⟨Bs, 0, none⟩)] W fun e W' => (∃ v, e = .returned v) ∧
      ((∃ ys, ys = dn j j ∧ J ys W') ∨ (∃ pre, True ∧ Jx pre W')) := by
  have hjI : (j : Int) ≤ 65536 := by omega
  have huH : Hid (Try.prog.underlying 41 = _) := Try.underlying41
  have hiH : Hid ((Try.prog.info? 41).map (·.size) = some 2) := by (show _ = _; kernel_rfl)
  have hcell : ∀ {V : World}, Keeps n₀ Bs W V → V.cell? ⟨Bs, 0, none⟩ = some (.slice a j cap) := fun {V} hk => by
    have := hk.2.trans hBs
    simp [World.cell?, this]
  have hcW := hcell (Keeps.refl _ _ _)
  refine callsIn_of_wp Try.func90 rfl hf ?_ hro
  simp only [Try.ntmps90, List.size_toArray, List.length_cons, List.length_nil, Nat.reduceAdd, Nat.reduceSub, Array.replicate_succ, Array.replicate_zero, List.push_toArray, List.append_toArray, List.nil_append, List.cons_append]
  gi_wp2
  gi_loopw [3] (fun u wr => ∃ (k : Nat) (i : Int), k ≤ j ∧ u = .int .i64 i ∧ i = (j : Int) - 1 - k ∧ J (dn j k) wr ∧ Keeps n₀ Bs W wr)
    (fun u _ => (intOf u + 1).toNat)
  case atStart => exact ⟨0, (j : Int) - 1, Nat.zero_le _, by go_num, by simp, h0, Keeps.refl _ _ _⟩
  case round =>
    obtain ⟨k, i, hk, rfl, hi, hJs, hnx⟩ := hrel
    have hcx := hcell hnx
    by_cases hlt : k < j
    · have hjk : j - 1 - k < j := by omega
      have hi0 : 0 ≤ i := by omega
      have hi1 : i ≤ 65536 := by omega
      have hie : ((j - 1 - k : Nat) : Int) = i := by omega
      obtain ⟨b, o, hix, hbn, hrg⟩ := (hc.below hnx.1) (j - 1 - k) (by omega)
      rw [hie] at hix
      obtain ⟨fn, tmps, assign, body, hy, hR⟩ := hY _ ⟨j - 1 - k, hjk⟩ wr hJs (by rw [dn_len hk]; exact hlt)
      dsimp only at hy
      rw [hie] at hy
      have hm := dn_more hlt
      generalize ev (j - 1 - k) = x at *
      have hrH : Hid (wr.rangeAt b o (edg x)) := hrg
      have hiK : Hid (i = (j : Int) - 1 - k) := hi
      clear hrg hi hie
      gi_wp2_with (refine inF_load_mid rfl 41 _ rfl b o rfl (edg x) _ hrH.out huH.out rfl hiH.out ?_)
      refine hR.mono ?_
      rintro e W3 (⟨rfl, hJ3, hk3⟩ | ⟨rfl, hJx3⟩)
      · gi_wp2
        go_roundw
        case rel => exact ⟨k + 1, i - 1, by omega, by go_num, by have := hiK.out; omega, by rw [hm]; exact hJ3, hnx.trans hk3⟩
        case measure => simp [intOf]; omega
      · gi_wp2
        refine bodyPost_ret (results_none rfl _ _ _) rfl ?_
        exact ⟨⟨_, rfl⟩, .inr ⟨_, trivial, hJx3⟩⟩
    · have hi0 : ¬ 0 ≤ i := by omega
      have hJj : J (dn j j) wr := by have hkj : k = j := by omega
                                     rw [hkj] at hJs; exact hJs
      clear hi hJs
      gi_wp2
      go_end0
      exact ⟨⟨_, rfl⟩, .inl hJj⟩
set_option maxHeartbeats 1000000 in
theorem back_anyP (a : Option Addr) (len cap : Nat) (w : World) : Calls Try.prog 69 #[.slice a len cap] w fun e w' => e = .returned (.func (.func 90) #[] #[.pointer (some ⟨w.heap.size, 0, none⟩)]) ∧ w' = w.alloc (.cells #[.slice a len cap] 27) := by
  go_enter Try.func69, Try.ntmps69
  go_wp2
  go_ret
  exact ⟨rfl, rfl⟩
/-- What slices.Backward hands back gives the events, from the last one down. -/
theorem back_stopsP (F : Fence) (n : Nat) (hf : F.fn 90) (hro : F.round = none) (hn : 1 ≤ n) (Bs n₀ j cap : Nat) (a : Option Addr) (ev : Nat → Nat × Nat) (hj : j ≤ 65536) (w : World) (hB : Bs < w.heap.size) (hn0 : n₀ ≤ w.heap.size)
    (hBs : w.heap[Bs]? = some (.cells #[.slice a j cap] 27)) (hc : PrAt n₀ w a j cap ev) :
    SeqStopsK F n Try.prog 90 #[.pointer (some ⟨Bs, 0, none⟩)] (fun x : { i : Nat // i < j } => #[Value.int .i64 (x.1 : Int), .agg (edg (ev x.1)).toArray]) (Keeps n₀ Bs) (fun ys => ys = dn j j) (fun _ => True) j w :=
  fun l J Jx W hW _ _ hY h0 => back1_inP F n hf hro hn l Bs n₀ j cap a ev hj J Jx hY W ((hW.block Bs hB).trans hBs) (hc.below (hW.mono hn0)) h0
end Go.Proofs.Ytkhhkgfaakgdfaa.pg
/- setOf and closed of package order. -/
namespace Go.Proofs.Ytkhhkgfaakgdfaa.pg
open Go.ChangeShapes Go.WideShapes Go.ChangeAt Go.RowKit Go.Shelf
set_option linter.unusedVariables false
set_option linter.unusedSimpArgs false
set_option maxRecDepth 100000
attribute [local go_sem] Oper.semAt_some
attribute [local go_sem ↓] Go.wp_at_zero Go.wp_at_succ
def fOf (ps : List Int) (a : Nat) : Bool := ps.any fun p => p == (a : Int)
theorem fOf_more (ps : List Int) (k a : Nat) : (if a = k then true else fOf ps a) = fOf (ps ++ [(k : Int)]) a := by
  unfold fOf
  rw [List.any_append]
  by_cases h : a = k
  · subst h; simp
  · have : ((k : Int) == (a : Int)) = false := by rw [beq_eq_false_iff_ne]; omega
    simp [h, this]
theorem fOf_iff (ps : List Int) (a : Nat) : fOf ps a = true ↔ (a : Int) ∈ ps := by
  unfold fOf
  rw [List.any_eq_true]
  constructor
  · rintro ⟨p, hp, h⟩
    rw [beq_iff_eq] at h
    rwa [← h]
  · intro h
    exact ⟨_, h, by simp⟩
set_option maxHeartbeats 2000000 in
theorem setOf_any (ps : List Int) (pa : Option Addr) (pc : Nat) (w : World) (hp : Rows w 1 pa pc (ps.map chCells)) (hin : ∀ p ∈ ps, 0 ≤ p ∧ p < 256) :
    Calls Try.prog 51 #[.slice pa ps.length pc] w fun e w' => e = .returned (.agg (boolRow 256 (fOf ps))) ∧ Below w.heap.size w w' := by
  have hpI := rows_len hp
  have hpH : Hid (Rows w 1 pa pc (ps.map chCells)) := hp
  have hinH : Hid (∀ p ∈ ps, 0 ≤ p ∧ p < 256) := hin
  have huS : Hid (Try.prog.underlying 85 = _) := Try.underlying85
  have hzS : Hid (∀ w, (zeroValue 85).run Try.prog w = .ok (.agg (boolRow 256 fun _ => false)) w) := zeroSt
  have hb2 := boxed2 w (.cells (boolRow 256 fun _ => false) 85) (.cells (boolRow 256 fun _ => false) 85)
  have hR0 : ((w.alloc (.cells (boolRow 256 fun _ => false) 85)).alloc (.cells (boolRow 256 fun _ => false) 85)).heap[w.heap.size]? = some (.cells (boolRow 256 fun _ => false) 85) := (Below.heap_alloc _ _ _ (by simp [World.size_alloc])).trans (heap_alloc_new w _)
  have hP0 : ((w.alloc (.cells (boolRow 256 fun _ => false) 85)).alloc (.cells (boolRow 256 fun _ => false) 85)).heap[w.heap.size + 1]? = some (.cells (boolRow 256 fun _ => false) 85) := by
    have := heap_alloc_new (w.alloc (.cells (boolRow 256 fun _ => false) 85)) (.cells (boolRow 256 fun _ => false) 85)
    rwa [World.size_alloc] at this
  have s0 : Hid (SetB w ((w.alloc (.cells (boolRow 256 fun _ => false) 85)).alloc (.cells (boolRow 256 fun _ => false) 85)) (w.heap.size + 1) (fOf (ps.take 0)) ∧ ((w.alloc (.cells (boolRow 256 fun _ => false) 85)).alloc (.cells (boolRow 256 fun _ => false) 85)).heap[w.heap.size]? = some (.cells (boolRow 256 fun _ => false) 85)) := ⟨⟨hP0, hb2, by omega⟩, hR0⟩
  clear hp hin hb2 hR0 hP0
  go_enter Try.func51, Try.ntmps51
  go_wp2_with (first
    | (refine wpList_alloc_big rfl 85 rfl hzS.out ?_; (try rw [World.size_alloc])))
  generalize (w.alloc (.cells (boolRow 256 fun _ => false) 85)).alloc (.cells (boolRow 256 fun _ => false) 85) = W0 at *
  obtain ⟨P, hP⟩ : ∃ P, w.heap.size + 1 = P := ⟨_, rfl⟩
  have hPH : Hid (w.heap.size + 1 = P) := hP
  rw [hP] at s0 ⊢
  clear hP
  go_loopw [8] (fun u wr => ∃ k : Nat, k ≤ ps.length ∧ u = .int .i64 k ∧ Hid (SetB w wr P (fOf (ps.take k)) ∧ wr.heap[w.heap.size]? = some (.cells (boolRow 256 fun _ => false) 85))) (fun u _ => ps.length - (intOf u).toNat)
  case atStart => exact ⟨0, Nat.zero_le _, rfl, s0⟩
  case round =>
    obtain ⟨k, hk, rfl, hs⟩ := hrel
    clear s0
    by_cases hlt : k < ps.length
    · obtain ⟨y, hy, hym⟩ := get_lt ps k hlt
      obtain ⟨y0, y1⟩ := hinH.out y hym
      obtain ⟨b1, o1, hix1, hbl1, c1⟩ := ch_ix (hpH.out.later hs.out.1.b) k y hy
      obtain ⟨a, rfl⟩ := Int.eq_ofNat_of_zero_le y0
      have hkI : (k : Int) < ps.length := by omega
      have xP := ix_set P a (by omega)
      have hcl : Hid (wr.cell? ⟨P, a, none⟩ = some (.bool (fOf (ps.take k) a)) ∧ wr.frozen? ⟨P, a, none⟩ = false) := hs.out.1.cell (by omega)
      have hnx : Hid (SetB w (wr.setCell ⟨P, a, none⟩ (.bool true)) P (fOf (ps.take (k + 1))) ∧ (wr.setCell ⟨P, a, none⟩ (.bool true)).heap[w.heap.size]? = some (.cells (boolRow 256 fun _ => false) 85)) := by
        refine ⟨?_, (Below.heap_setCell _ _ _ _ (by show w.heap.size ≠ P; have := hPH.out; omega)).trans hs.out.2⟩
        rw [take_one ps k _ hy]
        exact (hs.out.1.put a true).cong fun b => fOf_more (ps.take k) a b
      clear hs hy hym y0 y1 hbl1
      go_wp2_with (first
        | (refine wpList_putb rfl 4 _ _ rfl ⟨P, a, none⟩ rfl true rfl (by kernel_rfl) _ hcl.out.1 hcl.out.2 ?_; intro W3 hW3; (have s3 : Hid (SetB w W3 P (fOf (ps.take (k + 1))) ∧ W3.heap[w.heap.size]? = some (.cells (boolRow 256 fun _ => false) 85)) := by (rw [hW3]; exact hnx.out)); clear hW3 hnx hcl))
      go_roundw
      case rel => exact ⟨k + 1, by omega, by go_num, s3⟩
      case measure => simp [intOf]; omega
    · have hk2 : k = ps.length := by omega
      subst hk2
      rw [List.take_length] at hs
      go_wp2_with (first
        | (refine wpList_load_row rfl 85 _ rfl P rfl _ _ _ _ hs.out.1.s huS.out rfl (infoSt _) ?_)
        | (refine wpList_store_row rfl 85 _ _ rfl w.heap.size (boolRow 256 (fOf ps)) rfl rfl _ _ hs.out.2 (infoSt _) (by rw [boolRow_size, boolRow_size]) (boolRow_one _ _) ?_))
      exact bodyPost_ret (results_cell_row Try.results51 _ _ w.heap.size 85 _ (0, 0) _ rfl (setRow_heap wr w.heap.size _ _ _ _ hs.out.2) huS.out rfl (infoSt _)) rfl ⟨rfl, below_setRow hs.out.1.b (Nat.le_refl _) _⟩
/-- One edge: what is behind it in, then what is ahead of it. -/
def cst (f : Nat → Bool) (p : Nat × Nat) (a : Nat) : Bool := if a = p.1 then (f p.1 || f p.2) else f a
def cfd (E : List (Nat × Nat)) (f : Nat → Bool) (pre : List { i : Nat // i < E.length }) : Nat → Bool := pre.foldl (fun g x => cst g (E.getD x.1 (0, 0))) f
theorem cfd_more (E : List (Nat × Nat)) (f : Nat → Bool) (pre : List { i : Nat // i < E.length }) (x : { i : Nat // i < E.length }) : cfd E f (pre ++ [x]) = cst (cfd E f pre) (E.getD x.1 (0, 0)) := by unfold cfd; rw [List.foldl_append]; rfl
/-- Between two rounds of closed. -/
structure Cl (w : World) (rv : Array Value) (f : Nat → Bool) (W : World) : Prop where
  rb : W.heap[w.heap.size]? = some (.cells rv 78)
  sb : W.heap[w.heap.size + 1]? = some (.cells (boolRow 256 f) 85)
  zb : W.heap[w.heap.size + 2]? = some (.cells (boolRow 256 fun _ => false) 85)
  be : Below w.heap.size w W
  sz : w.heap.size + 4 ≤ W.heap.size
theorem Cl.keep {w : World} {rv : Array Value} {f : Nat → Bool} {W W' : World} (h : Cl w rv f W) (hs : W.heap.size ≤ W'.heap.size) (hb : Below w.heap.size W W') (hk : ∀ b, w.heap.size ≤ b → b < w.heap.size + 3 → W'.heap[b]? = W.heap[b]?) : Cl w rv f W' :=
  ⟨(hk _ (by omega) (by omega)).trans h.rb, (hk _ (by omega) (by omega)).trans h.sb, (hk _ (by omega) (by omega)).trans h.zb, h.be.trans hb, by have := h.sz; omega⟩
theorem Cl.later {w : World} {rv : Array Value} {f : Nat → Bool} {W W' : World} (h : Cl w rv f W) (hb : Below W.heap.size W W') : Cl w rv f W' :=
  h.keep hb.size (hb.mono (by have := h.sz; omega)) fun b _ q => hb.block b (by have := h.sz; omega)
theorem Cl.own {w : World} {rv : Array Value} {f : Nat → Bool} {W W' : World} {B : Nat} {row : Option Nat} (h : Cl w rv f W) (hB : w.heap.size + 4 ≤ B) (hgr : W.grownBy W' row) (hr : ∀ r, row = some r → B ≤ r ∧ ∃ o : Obj, W.heap[r]? = some o ∧ o.isCells = false) : Cl w rv f W' :=
  h.keep hgr.size ((Below.refl w.heap.size W).grown hgr (by have := h.sz; omega) fun k e => by have := (hr k e).1; omega) fun b q1 q2 => hgr.block b (by have := h.sz; omega) fun e => by have := (hr b e.symm).1; omega
theorem Cl.round {w : World} {rv : Array Value} {f : Nat → Bool} {W W' : World} {B : Nat} (h : Cl w rv f W) (hB : w.heap.size + 4 ≤ B) (hs : W.heap.size ≤ W'.heap.size) (hb : Below w.heap.size W W') (hk : ∀ b, b < W.heap.size → b ≠ w.heap.size + 1 → W'.heap[b]? = W.heap[b]?) : KeepsFrom B W W' ∧ Keeps w.heap.size (w.heap.size + 3) W W' := by
  have hz := h.sz
  refine ⟨⟨hs, fun k o q1 q2 q3 => ?_⟩, hb, hk _ (by omega) (by omega)⟩
  rw [hk k (Array.getElem?_eq_some_iff.mp q2).1 (by omega)]
  exact q2
theorem alloc4 (w : World) (o1 o2 o3 o4 : Obj) : ((((w.alloc o1).alloc o2).alloc o3).alloc o4).heap[w.heap.size]? = some o1 ∧ ((((w.alloc o1).alloc o2).alloc o3).alloc o4).heap[w.heap.size + 1]? = some o2 ∧ ((((w.alloc o1).alloc o2).alloc o3).alloc o4).heap[w.heap.size + 2]? = some o3 ∧ ((((w.alloc o1).alloc o2).alloc o3).alloc o4).heap[w.heap.size + 3]? = some o4 ∧ Below w.heap.size w ((((w.alloc o1).alloc o2).alloc o3).alloc o4) ∧ ((((w.alloc o1).alloc o2).alloc o3).alloc o4).heap.size = w.heap.size + 4 := by
  have z1 : (w.alloc o1).heap.size = w.heap.size + 1 := World.size_alloc _ _
  have z2 : ((w.alloc o1).alloc o2).heap.size = w.heap.size + 2 := by rw [World.size_alloc, z1]
  have z3 : (((w.alloc o1).alloc o2).alloc o3).heap.size = w.heap.size + 3 := by rw [World.size_alloc, z2]
  have z4 : ((((w.alloc o1).alloc o2).alloc o3).alloc o4).heap.size = w.heap.size + 4 := by rw [World.size_alloc, z3]
  have b1 := boxed w o1
  have b2 := boxed (w.alloc o1) o2
  have b3 := boxed ((w.alloc o1).alloc o2) o3
  have b4 := boxed (((w.alloc o1).alloc o2).alloc o3) o4
  have h1 := heap_alloc_new w o1
  have h2 := heap_alloc_new (w.alloc o1) o2
  have h3 := heap_alloc_new ((w.alloc o1).alloc o2) o3
  have h4 := heap_alloc_new (((w.alloc o1).alloc o2).alloc o3) o4
  rw [z1] at h2
  rw [z2] at h3
  rw [z3] at h4
  exact ⟨(b4.block _ (by omega)).trans ((b3.block _ (by omega)).trans ((b2.block _ (by omega)).trans h1)), (b4.block _ (by omega)).trans ((b3.block _ (by omega)).trans h2), (b4.block _ (by omega)).trans h3, h4, bthen (bthen (bthen b1 b2) b3) b4, z4⟩
theorem wpList_load1g {P : Program} {ops : Array Oper} {rest : List Oper} {o : Oper} {a : Act} {w : World} {Q : Exit → Act → World → Prop} (hw : Region.wanted o (yielded ops a.tmps) = true) (ty : TypeId) (x : Operand) (ho : o.op = .load ty x) (ad : Addr) (hx : a.eval x = .pointer (some ad)) (d : TypeDesc) (hu : P.underlying ty = some d) (hd : d.isRow = false) (v : Value) (hc : w.cell? ad = some v)
    (h : wpList P ops Q rest (a.put o.dst v) w) : wpList P ops Q (o :: rest) a w := BigFrame.wpList_want hw fun K hK => by
  unfold Oper.wp
  rw [run_load1 ty x ho ad hx d hu hd hc]
  exact hK _ _ h
theorem reg_skip {P : Program} {ops : Array Oper} {Q : Exit → Act → World → Prop} {S : World → Prop} {fuel : Nat} {listed : Array Bool} {a : Act} {w : World} {i : Nat} {o : Oper} (ho : ops[i]? = some o) (hs : Region.noSelect ops = true) (hf : Region.free .any ops listed i = true) (hr : (Region.ready .any ops listed).contains i = true)
    (hQ : ∀ c v a w, Q (.panic c) (a.put o.dst v) w → Q (.panic c) a w) (hw : Region.wanted o (yielded ops a.tmps) = false) (hSw : S w)
    (h : wpAnyH P .any ops Q S fuel (listed.setIfInBounds i true) (a.put o.dst undef) w) : wpAnyH P .any ops Q S (fuel + 1) listed a w :=
  wpAnyH_take ho hs hf hr (fun c a w => hQ c _ a w) (.inr ⟨hw, rfl⟩) hSw h
/-- The temporaries in a round of closed. -/
def tmC (w : World) (ea : Option Addr) (en ec : Nat) (ca : Option Addr) (cn cc : Nat) (da : Option Addr) (n dc : Nat) (f : Nat → Bool) (i Bx : Nat) (v : Value) : Act := { tmps := #[relV ea en ec ca cn cc da n dc, .agg (boolRow 256 f), .pointer (some ⟨w.heap.size, 0, none⟩), .pointer (some ⟨w.heap.size + 1, 0, none⟩), .pointer (some ⟨w.heap.size + 1 + 1, 0, none⟩), undef, .pointer (some ⟨Bx, 0, none⟩), .pointer (some ⟨w.heap.size, 2, none⟩), .slice da n dc, .func (.func 90) #[] #[.pointer (some ⟨w.heap.size + 1 + 1 + 1, 0, none⟩)], .int .i64 (i : Int), v, undef, undef, undef, undef, undef, undef, undef, undef, undef, undef, undef, undef, undef, undef], defers := [] }
def RndC (w : World) (ea : Option Addr) (en ec : Nat) (ca : Option Addr) (cn cc : Nat) (da : Option Addr) (dc : Nat) (E : List (Nat × Nat)) (f : Nat → Bool) (x : { i : Nat // i < E.length }) (a : Act) (W : World) : Prop := ∃ Bx, w.heap.size + 4 ≤ Bx ∧ W.heap[Bx]? = some (.cells (edg (E.getD x.1 (0, 0))).toArray 41) ∧ a = tmC w ea en ec ca cn cc da E.length dc f x.1 Bx (.agg (edg (E.getD x.1 (0, 0))).toArray)
set_option maxHeartbeats 4000000 in
theorem closed_any (ea : Option Addr) (en ec : Nat) (ca : Option Addr) (cn cc : Nat) (E : List (Nat × Nat)) (da : Option Addr) (dc : Nat) (f : Nat → Bool) (w : World) (hE : Rows w 2 da dc (E.map edg)) (hEl : E.length ≤ 65536) (hin : ∀ p ∈ E, p.1 < 256 ∧ p.2 < 256) :
    Calls Try.prog 53 #[relV ea en ec ca cn cc da E.length dc, .agg (boolRow 256 f)] w fun e w' => e = .returned (.agg (boolRow 256 (cfd E f (dn E.length E.length)))) ∧ Below w.heap.size w w' := by
  have huS : Hid (Try.prog.underlying 85 = _) := Try.underlying85
  have hzS : Hid (∀ w, (zeroValue 85).run Try.prog w = .ok (.agg (boolRow 256 fun _ => false)) w) := zeroSt
  have cB : ∀ wx, Calls Try.prog 69 #[.slice da E.length dc] wx fun e w' => e = .returned (.func (.func 90) #[] #[.pointer (some ⟨wx.heap.size, 0, none⟩)]) ∧ w' = wx.alloc (.cells #[.slice da E.length dc] 27) := fun wx => back_anyP da E.length dc wx
  obtain ⟨rv, hrv⟩ : ∃ rv : Array Value, rv = #[.slice ea en ec, .slice ca cn cc, .slice da E.length dc] := ⟨_, rfl⟩
  refine (callsIn_wide (n := 3)).1 ?_
  refine callsIn_of_wp_marks Try.func53 rfl trivial ?_ rfl
  simp only [Try.ntmps53, List.size_toArray, List.length_cons, List.length_nil, Nat.reduceAdd, Nat.reduceSub, Array.replicate_succ, Array.replicate_zero, List.push_toArray, List.append_toArray, List.nil_append, List.cons_append]
  refine wpIn_wide.2 ?_
  go_wp2_with (first
    | (refine wpList_alloc_big rfl 85 rfl hzS.out ?_)
    | (go_at_call 69; (refine (cB _).mono ?_); rintro e w1 ⟨rfl, hw1⟩))
  obtain ⟨p1, p2, p3, p4, p5, p6⟩ := alloc4 w (.cells #[.slice ea en ec, .slice ca cn cc, .slice da E.length dc] 78) (.cells (boolRow 256 f) 85) (.cells (boolRow 256 fun _ => false) 85) (.cells #[.slice da E.length dc] 27)
  rw [← hw1] at p1 p2 p3 p4 p5 p6 ⊢
  have s1 : Cl w #[.slice ea en ec, .slice ca cn cc, .slice da E.length dc] (cfd E f []) w1 := ⟨p1, p2, p3, p5, by omega⟩
  have hPr : PrAt w.heap.size w1 da E.length dc (fun i => E.getD i (0, 0)) := fun i hi => by
    obtain ⟨b, o, h1, h2, h3⟩ := hE.ix 27 41 Try.underlying27 (by kernel_rfl) (fun wx => Try.sizeOf41 wx) i (row := edg (E.getD i (0, 0))) (by rw [List.getElem?_map, List.getD_eq_getElem?_getD, List.getElem?_eq_getElem hi]; rfl)
    rw [List.length_map] at h1
    exact ⟨b, o, h1, h2, range_block h3 (p5.block b h2)⟩
  have hE2 : ∀ x : { i : Nat // i < E.length }, (E.getD x.1 (0, 0)).1 < 256 ∧ (E.getD x.1 (0, 0)).2 < 256 := fun x => hin _ (by rw [List.getD_eq_getElem?_getD, List.getElem?_eq_getElem x.2]; exact List.getElem_mem _)
  clear hw1 p1 p2 p3 cB hrv rv
  refine (wpIn_wide (n := 3)).1 ?_
  refine wpIn_rangeFunc_ownH (n := 3) rfl (by omega) (gf := 90) (lb := #[.pointer (some ⟨w.heap.size + 3, 0, none⟩)]) rfl trivial (enters_of Try.func90 (by kernel_rfl) rfl)
    (back_stopsP Fence.wide 2 trivial rfl (by omega) (w.heap.size + 3) w.heap.size E.length dc da (fun i => E.getD i (0, 0)) hEl w1 (by omega) (by omega) p4 hPr) Keeps.trans (keeps_b (by omega) (by omega)) (Below.refl _ _) (fun _ => rfl)
    (fun pre W => Cl w #[.slice ea en ec, .slice ca cn cc, .slice da E.length dc] (cfd E f pre) W) (fun _ _ _ => False) ?own (fun _ _ _ _ _ hs _ _ => hs) s1 (RndC w ea en ec ca cn cc da dc E f) ?ownA ?assign ?body ?done ?stop
  case own =>
    rintro pre A B row hs hgr hr
    exact hs.own (by omega) hgr hr
  case ownA =>
    rintro x a' _ A B row ⟨Bx, h1, h2, h3⟩ hgr hr
    refine ⟨Bx, h1, ?_, h3⟩
    rw [hgr.block Bx (Array.getElem?_eq_some_iff.mp h2).1 fun e => ?_]
    · exact h2
    · obtain ⟨_, o, h4, h5⟩ := hr Bx e.symm
      rw [h2] at h4; cases h4; cases h5
  case assign =>
    rintro l pre x W2 K hs hK
    have hz := hs.sz
    gi_wp2_with (refine inR_list rfl (by simp) (wpList_store_new rfl 41 _ _ rfl rfl _ (edg (E.getD x.1 (0, 0))).toArray rfl (by kernel_rfl) rfl (by simp [edg, Value.oneCell']) (wpList_nil ?_)); show wpListIn (Fence.wide.inRound l) _ _ _ _ _ _ _)
    have hbb := boxed W2 (.cells (edg (E.getD x.1 (0, 0))).toArray 41)
    have hkk := hs.round (B := w1.heap.size) (by omega) hbb.size (hbb.mono (by omega)) fun b q _ => hbb.block b q
    exact hK _ _ hkk.1 hkk.2 (hs.later hbb) ⟨W2.heap.size, hz, heap_alloc_new _ _, rfl⟩
  case body =>
    rintro l pre x a' W2 hlw _ hs ⟨Bx, hBx, hbx, rfl⟩ hlen
    have hm := cfd_more E f pre x
    obtain ⟨q1, q2⟩ := hE2 x
    obtain ⟨⟨pi, pj⟩, hpp⟩ : ∃ p, E.getD x.1 (0, 0) = p := ⟨_, rfl⟩
    rw [hpp] at hm q1 q2 hbx ⊢
    have hpi : pi < 256 := q1
    have hpj : pj < 256 := q2
    have hz := hs.sz
    have y0 : ∀ wx, (Instr.indexAt 41 (.pointer (some ⟨Bx, 0, none⟩)) (.int .i64 0)).run Try.prog wx = .ok (.pointer (some ⟨Bx, 0, none⟩)) wx := fun wx => by
      have u := Try.underlying41
      have z := Try.sizeOf3
      simp [Instr.indexAt, run_underlying u, asIntOf, go_sem, z]
    have y1 : ∀ wx, (Instr.indexAt 41 (.pointer (some ⟨Bx, 0, none⟩)) (.int .i64 1)).run Try.prog wx = .ok (.pointer (some ⟨Bx, 1, none⟩)) wx := fun wx => by
      have u := Try.underlying41
      have z := Try.sizeOf3
      simp [Instr.indexAt, run_underlying u, asIntOf, go_sem, z]
    have xI := ix_set (w.heap.size + 1) pi hpi
    have xJ := ix_set (w.heap.size + 1) pj hpj
    have hsd := hs.later (bey_drew W2)
    have cI : W2.drew.cell? ⟨w.heap.size + 1, pi, none⟩ = some (.bool (cfd E f pre pi)) ∧ W2.drew.frozen? ⟨w.heap.size + 1, pi, none⟩ = false := ⟨cell_of hsd.sb (boolRow_at hpi), frozen_of_row _ _ _ _ _ hsd.sb⟩
    have cJ : W2.drew.cell? ⟨w.heap.size + 1, pj, none⟩ = some (.bool (cfd E f pre pj)) := cell_of hsd.sb (boolRow_at hpj)
    have hH : W2.drew.heap[Bx]? = some (.cells (edg (pi, pj)).toArray 41) := hbx
    have hS' : ∀ v W', W' = W2.drew.setCell ⟨w.heap.size + 1, pi, none⟩ (.bool v) → W'.heap[Bx]? = some (.cells (edg (pi, pj)).toArray 41) := fun v W' e => by
      rw [e]
      exact (Below.heap_setCell _ _ _ _ (by show Bx ≠ w.heap.size + 1; omega)).trans hH
    have nx : ∀ v W', W' = W2.drew.setCell ⟨w.heap.size + 1, pi, none⟩ (.bool v) → v = (cfd E f pre pi || cfd E f pre pj) → KeepsFrom w1.heap.size W2 W' ∧ Keeps w.heap.size (w.heap.size + 3) W2 W' ∧ Cl w #[.slice ea en ec, .slice ca cn cc, .slice da E.length dc] (cfd E f (pre ++ [x])) W' := fun v W' e hv => by
      have hb : Below w.heap.size W2 W' := by rw [e]; exact ((Below.refl _ _).drew).setCell (p := ⟨w.heap.size + 1, pi, none⟩) (by show w.heap.size ≤ w.heap.size + 1; omega) _
      have hk : ∀ b, b ≠ w.heap.size + 1 → W'.heap[b]? = W2.heap[b]? := fun b q => by rw [e]; exact Below.heap_setCell _ _ _ _ q
      have hkk := hs.round (B := w1.heap.size) (by omega) hb.size hb fun b _ q => hk b q
      refine ⟨hkk.1, hkk.2, (hk _ (by omega)).trans hs.rb, ?_, (hk _ (by omega)).trans hs.zb, hs.be.trans hb, by have := hb.size; omega⟩
      rw [e, setCell_eq_setRow W2.drew (w.heap.size + 1) pi _ _ _ _ hsd.sb, boolRow_set, setRow_heap W2.drew (w.heap.size + 1) _ _ _ _ hsd.sb, hm]
      have : (fun b => if b = pi then v else cfd E f pre b) = cst (cfd E f pre) (pi, pj) := by
        funext b
        unfold cst
        rw [hv]
      rw [this]
    clear hs hsd hm hpp hz hE2 hbx hPr s1 hE hin
    generalize cfd E f pre pi = P at *
    generalize cfd E f pre pj = Q at *
    unfold tmC
    gi_wp2_with fail
    refine wpR_held (fun w' => w'.heap[Bx]? = some (.cells (edg (pi, pj)).toArray 41)) (by kernel_rfl) (by kernel_rfl) (by rintro ⟨_, _, h⟩; exact h) ?_
    refine reg_move (i := 0) rfl (by kernel_rfl) (by kernel_rfl) (by kernel_rfl) (fun _ _ _ _ h => h) rfl (.pointer (some ⟨Bx, 0, none⟩)) (fun wx => by unfold execOp; exact run_value_of (y0 wx)) hH ?_
    simp only [Act.put, List.getElem_toArray, List.getElem_cons_succ, List.getElem_cons_zero, List.setIfInBounds_toArray, List.set_cons_zero, List.set_cons_succ]
    refine reg_load1 (i := 1) rfl (by kernel_rfl) (by kernel_rfl) (by kernel_rfl) (fun _ _ _ _ h => h) rfl 3 _ rfl ⟨Bx, 0, none⟩ rfl _ Try.underlying3 rfl (.int .i64 (pi : Int)) (fun w' h' => cell_of h' rfl) hH ?_
    simp only [Act.put, List.getElem_toArray, List.getElem_cons_succ, List.getElem_cons_zero, List.setIfInBounds_toArray, List.set_cons_zero, List.set_cons_succ]
    refine reg_move (i := 2) rfl (by kernel_rfl) (by kernel_rfl) (by kernel_rfl) (fun _ _ _ _ h => h) rfl (.pointer (some ⟨Bx, 0, none⟩)) (fun wx => by unfold execOp; exact run_value_of (y0 wx)) hH ?_
    simp only [Act.put, List.getElem_toArray, List.getElem_cons_succ, List.getElem_cons_zero, List.setIfInBounds_toArray, List.set_cons_zero, List.set_cons_succ]
    refine reg_load1 (i := 3) rfl (by kernel_rfl) (by kernel_rfl) (by kernel_rfl) (fun _ _ _ _ h => h) rfl 3 _ rfl ⟨Bx, 0, none⟩ rfl _ Try.underlying3 rfl (.int .i64 (pi : Int)) (fun w' h' => cell_of h' rfl) hH ?_
    simp only [Act.put, List.getElem_toArray, List.getElem_cons_succ, List.getElem_cons_zero, List.setIfInBounds_toArray, List.set_cons_zero, List.set_cons_succ]
    refine reg_move (i := 4) rfl (by kernel_rfl) (by kernel_rfl) (by kernel_rfl) (fun _ _ _ _ h => h) rfl (.pointer (some ⟨w.heap.size + 1, pi, none⟩)) (fun wx => by unfold execOp; exact run_value_of (xI wx)) hH ?_
    simp only [Act.put, List.getElem_toArray, List.getElem_cons_succ, List.getElem_cons_zero, List.setIfInBounds_toArray, List.set_cons_zero, List.set_cons_succ]
    refine reg_one (i := 5) (by kernel_rfl) rfl rfl (wpList_load1 rfl 4 _ rfl ⟨w.heap.size + 1, pi, none⟩ rfl _ Try.underlying4 rfl (.bool P) cI.1 (wpList_nil (And.intro hH fun _ => ?_)))
    simp only [Act.put, List.getElem_toArray, List.getElem_cons_succ, List.getElem_cons_zero, List.setIfInBounds_toArray, List.set_cons_zero, List.set_cons_succ]
    refine reg_move (i := 6) rfl (by kernel_rfl) (by kernel_rfl) (by kernel_rfl) (fun _ _ _ _ h => h) rfl (.bool P) (fun _ => rfl) hH ?_
    simp only [Act.put, List.getElem_toArray, List.getElem_cons_succ, List.getElem_cons_zero, List.setIfInBounds_toArray, List.set_cons_zero, List.set_cons_succ]
    cases P with
    | true =>
      refine reg_skip (i := 7) rfl (by kernel_rfl) (by kernel_rfl) (by kernel_rfl) (fun _ _ _ _ h => h) rfl hH ?_
      simp only [Act.put, List.getElem_toArray, List.getElem_cons_succ, List.getElem_cons_zero, List.setIfInBounds_toArray, List.set_cons_zero, List.set_cons_succ]
      refine reg_skip (i := 8) rfl (by kernel_rfl) (by kernel_rfl) (by kernel_rfl) (fun _ _ _ _ h => h) rfl hH ?_
      simp only [Act.put, List.getElem_toArray, List.getElem_cons_succ, List.getElem_cons_zero, List.setIfInBounds_toArray, List.set_cons_zero, List.set_cons_succ]
      refine reg_skip (i := 9) rfl (by kernel_rfl) (by kernel_rfl) (by kernel_rfl) (fun _ _ _ _ h => h) rfl hH ?_
      simp only [Act.put, List.getElem_toArray, List.getElem_cons_succ, List.getElem_cons_zero, List.setIfInBounds_toArray, List.set_cons_zero, List.set_cons_succ]
      refine reg_skip (i := 10) rfl (by kernel_rfl) (by kernel_rfl) (by kernel_rfl) (fun _ _ _ _ h => h) rfl hH ?_
      simp only [Act.put, List.getElem_toArray, List.getElem_cons_succ, List.getElem_cons_zero, List.setIfInBounds_toArray, List.set_cons_zero, List.set_cons_succ]
      refine reg_move (i := 11) rfl (by kernel_rfl) (by kernel_rfl) (by kernel_rfl) (fun _ _ _ _ h => h) rfl (.bool true) (fun _ => rfl) hH ?_
      simp only [Act.put, List.getElem_toArray, List.getElem_cons_succ, List.getElem_cons_zero, List.setIfInBounds_toArray, List.set_cons_zero, List.set_cons_succ]
      refine reg_move (i := 12) rfl (by kernel_rfl) (by kernel_rfl) (by kernel_rfl) (fun _ _ _ _ h => h) rfl (.pointer (some ⟨w.heap.size + 1, pi, none⟩)) (fun wx => by unfold execOp; exact run_value_of (xI wx)) hH ?_
      simp only [Act.put, List.getElem_toArray, List.getElem_cons_succ, List.getElem_cons_zero, List.setIfInBounds_toArray, List.set_cons_zero, List.set_cons_succ]
      refine reg_one (i := 13) (by kernel_rfl) rfl rfl (wpList_putb rfl 4 _ _ rfl ⟨w.heap.size + 1, pi, none⟩ rfl true rfl (by kernel_rfl) _ cI.1 cI.2 fun W' hW' => wpList_nil (And.intro (hS' _ W' hW') fun _ => ?_))
      simp only [Act.put, List.getElem_toArray, List.getElem_cons_succ, List.getElem_cons_zero, List.setIfInBounds_toArray, List.set_cons_zero, List.set_cons_succ]
      refine wpAnyH_done (by kernel_rfl) ?_ _
      have hfin := nx _ W' hW' (by simp)
      clear hW'
      gi_wp2
      exact hfin
    | false =>
      refine reg_move (i := 7) rfl (by kernel_rfl) (by kernel_rfl) (by kernel_rfl) (fun _ _ _ _ h => h) rfl (.pointer (some ⟨Bx, 1, none⟩)) (fun wx => by unfold execOp; exact run_value_of (y1 wx)) hH ?_
      simp only [Act.put, List.getElem_toArray, List.getElem_cons_succ, List.getElem_cons_zero, List.setIfInBounds_toArray, List.set_cons_zero, List.set_cons_succ]
      refine reg_load1 (i := 8) rfl (by kernel_rfl) (by kernel_rfl) (by kernel_rfl) (fun _ _ _ _ h => h) rfl 3 _ rfl ⟨Bx, 1, none⟩ rfl _ Try.underlying3 rfl (.int .i64 (pj : Int)) (fun w' h' => cell_of h' rfl) hH ?_
      simp only [Act.put, List.getElem_toArray, List.getElem_cons_succ, List.getElem_cons_zero, List.setIfInBounds_toArray, List.set_cons_zero, List.set_cons_succ]
      refine reg_move (i := 9) rfl (by kernel_rfl) (by kernel_rfl) (by kernel_rfl) (fun _ _ _ _ h => h) rfl (.pointer (some ⟨w.heap.size + 1, pj, none⟩)) (fun wx => by unfold execOp; exact run_value_of (xJ wx)) hH ?_
      simp only [Act.put, List.getElem_toArray, List.getElem_cons_succ, List.getElem_cons_zero, List.setIfInBounds_toArray, List.set_cons_zero, List.set_cons_succ]
      refine reg_one (i := 10) (by kernel_rfl) rfl rfl (wpList_load1g rfl 4 _ rfl ⟨w.heap.size + 1, pj, none⟩ rfl _ Try.underlying4 rfl (.bool Q) cJ (wpList_nil (And.intro hH fun _ => ?_)))
      simp only [Act.put, List.getElem_toArray, List.getElem_cons_succ, List.getElem_cons_zero, List.setIfInBounds_toArray, List.set_cons_zero, List.set_cons_succ]
      refine reg_move (i := 11) rfl (by kernel_rfl) (by kernel_rfl) (by kernel_rfl) (fun _ _ _ _ h => h) rfl (.bool Q) (fun _ => rfl) hH ?_
      simp only [Act.put, List.getElem_toArray, List.getElem_cons_succ, List.getElem_cons_zero, List.setIfInBounds_toArray, List.set_cons_zero, List.set_cons_succ]
      refine reg_move (i := 12) rfl (by kernel_rfl) (by kernel_rfl) (by kernel_rfl) (fun _ _ _ _ h => h) rfl (.pointer (some ⟨w.heap.size + 1, pi, none⟩)) (fun wx => by unfold execOp; exact run_value_of (xI wx)) hH ?_
      simp only [Act.put, List.getElem_toArray, List.getElem_cons_succ, List.getElem_cons_zero, List.setIfInBounds_toArray, List.set_cons_zero, List.set_cons_succ]
      refine reg_one (i := 13) (by kernel_rfl) rfl rfl (wpList_putb rfl 4 _ _ rfl ⟨w.heap.size + 1, pi, none⟩ rfl Q rfl (by kernel_rfl) _ cI.1 cI.2 fun W' hW' => wpList_nil (And.intro (hS' _ W' hW') fun _ => ?_))
      simp only [Act.put, List.getElem_toArray, List.getElem_cons_succ, List.getElem_cons_zero, List.setIfInBounds_toArray, List.set_cons_zero, List.set_cons_succ]
      refine wpAnyH_done (by kernel_rfl) ?_ _
      have hfin := nx _ W' hW' (by simp)
      clear hW'
      gi_wp2
      exact hfin
  case done =>
    rintro D ys W5 hD rfl hs5 hK
    have hsH : Hid (Cl w #[.slice ea en ec, .slice ca cn cc, .slice da E.length dc] (cfd E f (dn E.length E.length)) W5) := hs5
    have hKH : Hid (W5.heap[D]? = some (.deferred (some []))) := hK
    clear hs5 hK
    go_wp2_with (first
      | (refine wpList_load_row rfl 85 _ rfl (w.heap.size + 1) rfl _ _ _ _ hsH.out.sb huS.out rfl (infoSt _) ?_)
      | (refine wpList_store_row rfl 85 _ _ rfl (w.heap.size + 2) (boolRow 256 (cfd E f (dn E.length E.length))) rfl rfl _ _ hsH.out.zb (infoSt _) (by rw [boolRow_size, boolRow_size]) (boolRow_one _ _) ?_))
    have hz5 := hsH.out.sz
    have kD := (setRow_other W5 (w.heap.size + 2) D (boolRow 256 (cfd E f (dn E.length E.length))) (by omega)).trans hKH.out
    refine ⟨by simp, .inl ⟨_, _, rfl, run_takeDeferred kD, ?_⟩⟩
    have hsr := setRow_heap W5 (w.heap.size + 2) _ (boolRow 256 (cfd E f (dn E.length E.length))) _ _ hsH.out.zb
    have hbr := below_setRow hsH.out.be (B := w.heap.size + 2) (by omega) (boolRow 256 (cfd E f (dn E.length E.length)))
    generalize W5.setRow (w.heap.size + 2) (boolRow 256 (cfd E f (dn E.length E.length))) = W6 at *
    have hb6 : Below w.heap.size W6 (W6.putObj D (.deferred none)) := belowK_b (w := w) (Nat.le_refl _) W6 D _ _ (by omega) kD rfl rfl
    have hh6 : (W6.putObj D (.deferred none)).heap[w.heap.size + 2]? = some (.cells (boolRow 256 (cfd E f (dn E.length E.length))) 85) := (World.putObj_heap_other (by omega)).trans hsr
    exact ⟨_, results_cell_row Try.results53 _ _ (w.heap.size + 2) 85 _ (0, 0) _ rfl hh6 huS.out rfl (infoSt _), rfl, hbr.trans hb6⟩
  case stop =>
    rintro D cd pre W2 _ _ h _
    exact h.elim
end Go.Proofs.Ytkhhkgfaakgdfaa.pg
