/- The locks that are held ahead of each event: package locks. -/
import Derived.Test.YtdfnmlcpimiboaaM9
import Derived.Test.YtdfnmlcpimiboaaM18
import Derived.Test.YtdfnmlcpimiboaaM14
import Derived.Test.YtdfnmlcpimiboaaM3
namespace Go.Proofs.Ytdfnmlcpimiboaa.pg
open Go.ChangeShapes Go.WideShapes Go.ChangeAt Go.RowKit
set_option linter.unusedVariables false
set_option linter.unusedSimpArgs false
set_option maxRecDepth 100000
attribute [local go_sem ↓] Go.wp_at_zero Go.wp_at_succ
theorem cell_lcG {w : World} {B k : Nat} {cs : Array Value} {t : TypeId} {v : Value} (h : w.heap[B]? = some (.cells cs t (0, 0))) (hk : cs[k]? = some v) : w.cell? ⟨B, k, none⟩ = some v := cell_of h hk
theorem blk_onG {w w' : World} {B : Nat} {o : Obj} (h : w.heap[B]? = some o) (hb : Below w.heap.size w w') : w'.heap[B]? = some o := (hb.block B (Array.getElem?_eq_some_iff.mp h).1).trans h
theorem wpList_mkG {P : Program} (w : World) {ops : Array Oper} {rest : List Oper} {o : Oper} {a : Act} {Q : Exit → Act → World → Prop}
    (hg : o.guard = none) (l c : Operand) (t : TypeId) (hop : o.op = Op.makeSlice t l c)
    (e : TypeId) (i : TypeInfo) (z : Value) (k : Nat) (h1 : P.underlying t = some (.slice e)) (h2 : P.info? e = some i) (h3 : i.zero = some z) (h4 : i.size = k)
    (n : Nat) (hl : a.eval l = .int .i64 (n : Int)) (hc : a.eval c = .int .i64 (n : Int)) (b2 : i.bytes * n ≤ 281474976710656) (b3 : n ≤ 9223372036854775807)
    (hK : wpList P ops Q rest (a.put o.dst (.slice (some ⟨w.heap.size, 0, none⟩) n n)) (w.alloc (.cells (madeCells z.cells (n * k)) e))) :
    wpList P ops Q (o :: rest) a w := by
  refine wpList_plain hg fun K hK' => ?_
  have b2' : (i.bytes : Int) * (n : Int) ≤ 281474976710656 := by
    have h : ((i.bytes * n : Nat) : Int) ≤ 281474976710656 := by omega
    rwa [Int.natCast_mul] at h
  have hrun := run_make (P := P) w t e i z h1 h2 h3 .i64 .i64 (n : Int) (n : Int) (by omega) (by omega) b2' (by omega)
  rw [h4, Int.toNat_natCast] at hrun
  unfold Oper.wp
  simp [execOp, hop, hl, hc, hrun, Result.andThen]
  exact hK' _ _ hK
theorem br_congr {n : Nat} {f g : Nat → Bool} (h : ∀ j, j < n → f j = g j) : boolRow n f = boolRow n g := by
  unfold boolRow
  congr 1
  exact List.map_congr_left fun j hj => by rw [h j (List.mem_range.mp hj)]
theorem br_len (n : Nat) (f : Nat → Bool) : (boolRow n f).size = n := by simp [boolRow]
section
variable {w X : World} {B N : Nat} {t : TypeId} {f : Nat → Bool}
theorem br_cell (h : X.heap[B]? = some (.cells (boolRow N f) t)) {j : Nat} (hj : j < N) : X.cell? ⟨B, j, none⟩ = some (.bool (f j)) := cell_lcG h (boolRow_at hj)
abbrev b4 (f : Nat → Bool) (o : Nat) : List Value := [.bool (f o), .bool (f (o + 1)), .bool (f (o + 2)), .bool (f (o + 3))]
theorem br_range (h : X.heap[B]? = some (.cells (boolRow N f) t)) {o : Nat} (ho : o + 4 ≤ N) : X.rangeAt B o (b4 f o) := fun j v hj => by
  match j, hj with
  | 0, hj => simp at hj; subst hj; exact br_cell h (by omega)
  | 1, hj => simp at hj; subst hj; exact br_cell h (by omega)
  | 2, hj => simp at hj; subst hj; exact br_cell h (by omega)
  | 3, hj => simp at hj; subst hj; exact br_cell h (by omega)
  | j + 4, hj => simp at hj
theorem br_there (h : X.heap[B]? = some (.cells (boolRow N f) t)) {o : Nat} (ho : o + 4 ≤ N) : X.there B o 4 := fun j hj => ⟨by rw [br_cell h (show o + j < N by omega)]; rfl, frozen_of_row _ _ _ _ _ h⟩
theorem br_put (h : X.heap[B]? = some (.cells (boolRow N f) t)) (j : Nat) (v : Bool) : (X.setCell ⟨B, j, none⟩ (.bool v)).heap[B]? = some (.cells (boolRow N fun b => if b = j then v else f b) t) := by
  rw [heap_setCell_same X B j _ _ _ h, boolRow_set]
def put4 (f : Nat → Bool) (o : Nat) (v : Nat → Bool) : Nat → Bool := fun c => if o ≤ c ∧ c < o + 4 then v (c - o) else f c
theorem br_put4 (h : X.heap[B]? = some (.cells (boolRow N f) t)) (o : Nat) (v : Nat → Bool) : (X.setCells B o [.bool (v 0), .bool (v 1), .bool (v 2), .bool (v 3)]).heap[B]? = some (.cells (boolRow N (put4 f o v)) t) := by
  have h1 := br_put (br_put (br_put (br_put h o (v 0)) (o + 1) (v 1)) (o + 1 + 1) (v 2)) (o + 1 + 1 + 1) (v 3)
  simp only [World.setCells]
  rw [h1]
  congr 2
  refine br_congr fun c hc => ?_
  unfold put4
  by_cases e3 : c = o + 1 + 1 + 1
  · rw [if_pos e3, if_pos (by omega), show c - o = 3 by omega]
  · rw [if_neg e3]
    by_cases e2 : c = o + 1 + 1
    · rw [if_pos e2, if_pos (by omega), show c - o = 2 by omega]
    · rw [if_neg e2]
      by_cases e1 : c = o + 1
      · rw [if_pos e1, if_pos (by omega), show c - o = 1 by omega]
      · rw [if_neg e1]
        by_cases e0 : c = o
        · rw [if_pos e0, if_pos (by omega), show c - o = 0 by omega]
        · rw [if_neg e0, if_neg (by omega)]
theorem setCells_other4 {b : Nat} (hb : b ≠ B) (o : Nat) (a0 a1 a2 a3 : Value) : (X.setCells B o [a0, a1, a2, a3]).heap[b]? = X.heap[b]? := by
  simp only [World.setCells]
  rw [heap_setCell_other _ ⟨B, _, none⟩ b _ hb, heap_setCell_other _ ⟨B, _, none⟩ b _ hb, heap_setCell_other _ ⟨B, _, none⟩ b _ hb, heap_setCell_other _ ⟨B, _, none⟩ b _ hb]
end
theorem made_br (n : Nat) : madeCells (boolRow 4 fun _ => false) (n * 4) = boolRow (n * 4) fun _ => false := by
  have h : ∀ r, r < 4 → (boolRow 4 fun _ => false)[r]! = .bool false := fun r hr => by
    match r, hr with
    | 0, _ => rfl
    | 1, _ => rfl
    | 2, _ => rfl
    | 3, _ => rfl
  apply Array.ext'
  unfold madeCells
  rw [Array.toList_map, Array.toList_range]
  show _ = List.map _ (List.range _)
  exact List.map_congr_left fun j _ => h _ (Nat.mod_lt _ (by rw [br_len]; decide))
theorem ix6S (B g : Nat) (hg : g < 6) : ∀ wx, (Instr.indexAt 90 (.pointer (some ⟨B, 0, none⟩)) (.int .i64 (g : Int))).run Try.prog wx = .ok (.pointer (some ⟨B, g * 4, none⟩)) wx := by
  match g, hg with
  | 0, _ => exact fun _ => by kernel_rfl
  | 1, _ => exact fun _ => by kernel_rfl
  | 2, _ => exact fun _ => by kernel_rfl
  | 3, _ => exact fun _ => by kernel_rfl
  | 4, _ => exact fun _ => by kernel_rfl
  | 5, _ => exact fun _ => by kernel_rfl
theorem ix4S (B o k : Nat) (hk : k < 4) : ∀ wx, (Instr.indexAt 67 (.pointer (some ⟨B, o, none⟩)) (.int .i64 (k : Int))).run Try.prog wx = .ok (.pointer (some ⟨B, o + k, none⟩)) wx := by
  match k, hk with
  | 0, _ => exact fun _ => by kernel_rfl
  | 1, _ => exact fun _ => by kernel_rfl
  | 2, _ => exact fun _ => by kernel_rfl
  | 3, _ => exact fun _ => by kernel_rfl
theorem zeroN24 : ∀ w, (zeroValue 90).run Try.prog w = .ok (.agg (boolRow 24 fun _ => false)) w := fun w => by kernel_rfl
theorem infoS4 : (Try.prog.info? 67).map (fun i => (i.zero, i.size, i.bytes)) = some (some (.agg (boolRow 4 fun _ => false)), 4, 4) := by kernel_rfl
theorem infoS4s : (Try.prog.info? 67).map (·.size) = some 4 := by kernel_rfl
/-- What Ahead has filled in, i events behind it. -/
def heldF (l : List Ev) (i c : Nat) : Bool := decide (c < 4 * i) && hldF l (evA l (c / 4)).go (c / 4) (c % 4)
def nowF (l : List Ev) (i c : Nat) : Bool := hldF l ((c / 4 : Nat) : Int) i (c % 4)
theorem heldF_step {l : List Ev} {i g : Nat} (hg : (evA l i).go = (g : Int)) : put4 (heldF l i) (i * 4) (fun k => nowF l i (g * 4 + k)) = heldF l (i + 1) := by
  funext c
  unfold put4 heldF nowF
  by_cases e : i * 4 ≤ c ∧ c < i * 4 + 4
  · have e1 : c / 4 = i := by omega
    rw [if_pos e, e1, hg, decide_eq_true (by omega), Bool.true_and]
    show hldF l ((((g * 4 + (c - i * 4)) / 4 : Nat)) : Int) i ((g * 4 + (c - i * 4)) % 4) = _
    rw [show (g * 4 + (c - i * 4)) / 4 = g by omega, show (g * 4 + (c - i * 4)) % 4 = c % 4 by omega]
  · rw [if_neg e]
    by_cases e2 : c < 4 * i
    · rw [decide_eq_true e2, decide_eq_true (by omega)]
    · rw [decide_eq_false e2, decide_eq_false (by omega), Bool.false_and]
theorem nowF_put {l : List Ev} {i g k : Nat} {x : Ev} {v : Bool} (hx : l[i]? = some x) (hg : x.go = (g : Int)) (hk : k < 4) (hl : lkN x = (k : Int)) (hv : ∀ f : Nat → Bool, (if tksB x then true else if x.op = 56 then false else f k) = v) : (fun b => if b = g * 4 + k then v else nowF l i b) = nowF l (i + 1) := by
  funext c
  unfold nowF
  rw [hldF_step hx]
  by_cases e0 : c = g * 4 + k
  · rw [if_pos e0, if_pos (by rw [hg]; omega)]
    unfold updH
    have e2 : c % 4 = k := by omega
    rw [e2, if_pos hl, hv]
  · rw [if_neg e0]
    by_cases e : c / 4 = g
    · rw [if_pos (by rw [hg, e])]
      unfold updH
      rw [if_neg (by rw [hl]; omega)]
    · rw [if_neg (by rw [hg]; omega)]
theorem nowF_same {l : List Ev} {i : Nat} {x : Ev} (hx : l[i]? = some x) (h : lkO x = none ∨ (tksB x = false ∧ x.op ≠ 56)) : nowF l (i + 1) = nowF l i := by
  funext c
  unfold nowF
  rw [hldF_step hx]
  split
  · unfold updH
    rcases h with h | ⟨h1, h2⟩
    · rw [if_neg (by unfold lkN; rw [h]; show ¬ (-1 : Int) = _; omega)]
    · rw [h1, if_neg h2]
      simp
  · rfl
theorem cell_keepG {w w' : World} {b o : Nat} {u : Value} (h : w.cell? ⟨b, o, none⟩ = some u) (hk : w'.heap[b]? = w.heap[b]?) : w'.cell? ⟨b, o, none⟩ = some u := by
  rw [World.cell?] at h ⊢
  simp only [hk]
  exact h
section
variable {w X X' : World} {l : List Ev} {N H i : Nat}
/-- How Ahead stands. -/
structure AhS (w X : World) (l : List Ev) (N H i : Nat) (n h : Nat → Bool) : Prop where
  n : X.heap[N]? = some (.cells (boolRow 24 n) 90)
  h : X.heap[H]? = some (.cells (boolRow (l.length * 4) h) 67)
  b : Below w.heap.size w X
  d1 : w.heap.size ≤ N
  d2 : w.heap.size ≤ H
  ne : N ≠ H
theorem AhS.later {n h : Nat → Bool} (g : AhS w X l N H i n h) (hb : Below X.heap.size X X') : AhS w X' l N H i n h := ⟨blk_onG g.n hb, blk_onG g.h hb, bthen g.b hb, g.d1, g.d2, g.ne⟩
/-- What Ahead answers. -/
def AhP (w : World) (l : List Ev) (e : Ending) (w' : World) : Prop := ∃ H, e = .returned (.slice (some ⟨H, 0, none⟩) l.length l.length) ∧ w'.heap[H]? = some (.cells (boolRow (l.length * 4) (heldF l l.length)) 67) ∧ Below w.heap.size w w'
end
section
variable {w : World} {l : List Ev} {la : Option Addr} {lc : Nat}
def StopG (p : Prop) : Prop := p
theorem stopG_in {p : Prop} (h : StopG p) : p := h
theorem stopG_out {p : Prop} (h : p) : StopG p := h
theorem at_storeG {P : Program} {ops : Array Oper} {rest : List Oper} {op : Oper} {a : Act} {w : World} {Q : Exit → Act → World → Prop} (ty : TypeId) (x y : Operand) (ho : op.op = .store ty x y) (h : StopG (wpList P ops Q (op :: rest) a w)) : wpList P ops Q (op :: rest) a w := h
theorem at_loadG {P : Program} {ops : Array Oper} {rest : List Oper} {op : Oper} {a : Act} {w : World} {Q : Exit → Act → World → Prop} (ty : TypeId) (x : Operand) (ho : op.op = .load ty x) (h : StopG (wpList P ops Q (op :: rest) a w)) : wpList P ops Q (op :: rest) a w := h
theorem at_allocG {P : Program} {ops : Array Oper} {rest : List Oper} {op : Oper} {a : Act} {w : World} {Q : Exit → Act → World → Prop} (ty : TypeId) (ho : op.op = .alloc ty) (h : StopG (wpList P ops Q (op :: rest) a w)) : wpList P ops Q (op :: rest) a w := h
set_option maxHeartbeats 8000000 in
theorem ahead_any (hl : Rows w 26 la lc (l.map Ev.cells)) (hn : l.length ≤ 256) (hr : ∀ x ∈ l, rightP x) : Calls Try.prog 26 #[.slice la l.length lc] w fun e w' => AhP w l e w' := by
  have hlH : Hid (Rows w 26 la lc (l.map Ev.cells)) := hl
  have hrH : Hid (∀ x ∈ l, rightP x) := hr
  have hnI : (l.length : Int) ≤ 256 := by omega
  have huH : Hid (Try.prog.underlying 55 = _) := Try.underlying55
  have hiH : Hid ((Try.prog.info? 55).map (·.size) = some 26) := infoE26
  have huS : Hid (Try.prog.underlying 67 = _) := Try.underlying67
  obtain ⟨iS, hiS', hzS', hsS', hbS'⟩ := info_q infoS4
  have hiS : Hid (Try.prog.info? 67 = some iS) := hiS'
  have hzS : Hid (iS.zero = some (.agg (boolRow 4 fun _ => false))) := hzS'
  have hsS : Hid (iS.size = 4) := hsS'
  have hbS : Hid (iS.bytes = 4) := hbS'
  clear hl hr hiS' hzS' hsS' hbS'
  go_enter Try.func26, Try.ntmps26
  go_upto_region 3 with (first
    | ((with_reducible refine at_allocG 90 rfl ?_); refine stopG_out ?_; refine wpList_alloc_big rfl 90 rfl zeroN24 ?_)
    | (refine wpList_mkG _ rfl _ _ 63 rfl 67 iS _ 4 Try.underlying63 hiS.out hzS.out hsS.out l.length rfl rfl (by rw [hbS.out]; omega) (by omega) ?_))
  have hA0 : Hid (AhS w ((w.alloc (.cells (boolRow 24 fun _ => false) 90)).alloc (.cells (madeCells (boolRow 4 fun _ => false) (l.length * 4)) 67)) l w.heap.size (w.heap.size + 1) 0 (nowF l 0) (heldF l 0)) := by
    have n2 := heap_alloc_new (w.alloc (.cells (boolRow 24 fun _ => false) 90)) (.cells (madeCells (boolRow 4 fun _ => false) (l.length * 4)) 67)
    rw [World.size_alloc] at n2
    refine ⟨?_, ?_, bthen (boxed _ _) (boxed _ _), Nat.le_refl _, by omega, by omega⟩
    · rw [blk_onG (heap_alloc_new w _) (boxed _ _)]
      rfl
    · rw [n2, made_br]
      rw [br_congr (g := heldF l 0) fun j _ => by unfold heldF; rw [decide_eq_false (by omega), Bool.false_and]]
  obtain ⟨H, hH⟩ : ∃ H, w.heap.size + 1 = H := ⟨_, rfl⟩
  obtain ⟨N, hN⟩ : ∃ N, w.heap.size = N := ⟨_, rfl⟩
  rw [hH, hN] at hA0
  rw [hH, hN]
  clear hH hN
  generalize (w.alloc (.cells (boolRow 24 fun _ => false) 90)).alloc (.cells (madeCells (boolRow 4 fun _ => false) (l.length * 4)) 67) = X0 at *
  go_wp2_with fail
  go_loopw [14] (fun u wr => ∃ i : Nat, i ≤ l.length ∧ u = .int .i64 (i : Int) ∧ Hid (AhS w wr l N H 0 (nowF l i) (heldF l i))) (fun u _ => l.length - (intOf u).toNat)
  case atStart => exact ⟨0, Nat.zero_le _, rfl, hA0⟩
  case round =>
    obtain ⟨i, hi, rfl, hA⟩ := hrel
    clear hA0
    by_cases hlt : i < l.length
    · have hiI : (i : Int) < l.length := by omega
      obtain ⟨x, hx, hxm⟩ := get_lt l i hlt
      have hxH : Hid (l[i]? = some x) := hx
      obtain ⟨b0, o0, hix, hbl, hrg⟩ := ev_row (hlH.out.later hA.out.b) i x hx
      have hrH' : Hid (wr.rangeAt b0 o0 x.cells) := hrg
      have hxr : Hid (rightP x) := hrH.out x hxm
      obtain ⟨g, hg, hgo'⟩ : ∃ g : Nat, g < 6 ∧ x.go = (g : Int) := ⟨x.go.toNat, by have := hxr.out.1.1; have := hxr.out.1.2.1; omega, by have := hxr.out.1.1; omega⟩
      have hgo : Hid (x.go = (g : Int)) := hgo'
      have hbx : Hid (BoxE (wr.alloc (objE x)) wr.heap.size x) := boxE_new wr x
      have hbC : Hid (¬ (wr.alloc (objE x)).heap[wr.heap.size]? = some (.cells (boolRow (l.length * 4) (heldF l i)) 67)) := fun q => by
        rw [heap_alloc_new] at q
        simp only [Option.some.injEq, Obj.cells.injEq] at q
        exact absurd q.2.1 (by decide)
      have hA1 : Hid (AhS w (wr.alloc (objE x)) l N H 0 (nowF l i) (heldF l i)) := hA.out.later (boxed _ _)
      clear hrg hA hx hxm hgo'
      go_upto_region 6 with (first
        | (refine wpList_load_mid rfl 55 _ rfl b0 o0 rfl x.cells _ hrH'.out huH.out rfl hiH.out ?_)
        | (refine wpList_store_new rfl 55 _ _ rfl rfl _ x.cells.toArray rfl (by kernel_rfl) rfl (ev_one x) ?_))
      change Code.wp _ _ _ _ (wr.alloc (objE x))
      generalize wr.alloc (objE x) = W1 at *
      generalize wr.heap.size = C at *
      clear hrH' hix
      have k0 : W1.cell? ⟨C, 0, none⟩ = some (.int .i64 (g : Int)) := by
        rw [← hgo.out]
        exact hbx.out.at 0 _ rfl
      have xg := ix6S N g hg
      have hgH : Hid (g < 6) := hg
      have xi : ∀ wx, (Instr.indexAt 63 (.slice (some ⟨H, 0, none⟩) l.length l.length) (.int .i64 (i : Int))).run Try.prog wx = .ok (.pointer (some ⟨H, i * 4, none⟩)) wx := rows_ix_g Try.underlying63 (fun wx => Try.sizeOf67 wx) H l.length l.length i hlt
      have hrow : Hid (W1.rangeAt N (g * 4) (b4 (nowF l i) (g * 4)) ∧ W1.there H (i * 4) 4) := ⟨br_range hA1.out.n (by omega), br_there hA1.out.h (by omega)⟩
      go_upto_region 7 with (first
        | ((with_reducible refine at_loadG 67 _ rfl ?_); refine stopG_out ?_; refine wpList_load_mid rfl 67 _ rfl N (g * 4) rfl (b4 (nowF l i) (g * 4)) _ hrow.out.1 huS.out rfl infoS4s ?_)
        | ((with_reducible refine at_storeG 67 _ _ rfl ?_); refine stopG_out ?_; refine wpList_store_mid rfl 67 _ _ rfl H (i * 4) (b4 (nowF l i) (g * 4)).toArray rfl rfl hrow.out.2 infoS4s (by simp [Value.oneCell']) ?_))
      have hA2 : Hid (AhS w (W1.setCells H (i * 4) (b4 (nowF l i) (g * 4)).toArray.toList) l N H 0 (nowF l i) (heldF l (i + 1)) ∧ BoxE (W1.setCells H (i * 4) (b4 (nowF l i) (g * 4)).toArray.toList) C x) := by
        have hCH : C ≠ H := fun q => by
          have h1 := hbC.out
          rw [q] at h1
          exact h1 hA1.out.h
        refine ⟨⟨(setCells_other4 hA1.out.ne _ _ _ _ _).trans hA1.out.n, ?_, ?_, hA1.out.d1, hA1.out.d2, hA1.out.ne⟩, boxE_of fun p v hp => ?_⟩
        · rw [← heldF_step (l := l) (i := i) (g := g) (by rw [evA_at hxH.out]; exact hgo.out)]
          exact br_put4 hA1.out.h (i * 4) fun k => nowF l i (g * 4 + k)
        · exact below_setCells hA1.out.d2 _ _ _ _ hA1.out.b
        · exact cell_keepG (hbx.out.at p v hp) (setCells_other4 hCH _ _ _ _ _)
      obtain ⟨W2, hW2⟩ : ∃ W2, W1.setCells H (i * 4) (b4 (nowF l i) (g * 4)).toArray.toList = W2 := ⟨_, rfl⟩
      rw [hW2] at hA2 ⊢
      clear hW2 hrow hA1 k0 xi hbx
      have hro : Hid (W2.rangeAt C 0 x.cells) := hA2.out.2.range
      have cO := lockOf_any x W2 hxr.out.1.2.2.1 hxr.out.1.2.2.2
      obtain ⟨n9, hn9⟩ : ∃ n9, (if lkO x = none then 0 else lkN x) = n9 := ⟨_, rfl⟩
      obtain ⟨b9, hb9⟩ : ∃ b9, (lkO x).isSome = b9 := ⟨_, rfl⟩
      have h9H : Hid ((if lkO x = none then 0 else lkN x) = n9 ∧ (lkO x).isSome = b9) := ⟨hn9, hb9⟩
      rw [hn9, hb9] at cO
      clear hn9 hb9
      go_upto_region 8 with (first
        | (refine wpList_load_mid rfl 55 _ rfl C 0 rfl x.cells _ hro.out huH.out rfl hiH.out ?_)
        | (go_at_call 45; (with_reducible refine cO.mono ?_); rintro e W3 ⟨rfl, hb⟩; (have hA3 : Hid (AhS w W3 l N H 0 (nowF l i) (heldF l (i + 1)) ∧ BoxE W3 C x) := ⟨hA2.out.1.later hb, hA2.out.2.later hb⟩); clear hb hA2 hro cO))
      have k3 : W3.cell? ⟨C, 3, none⟩ = some (.int .i64 x.op) := hA3.out.2.at 3 _ rfl
      have k5 : W3.cell? ⟨C, 5, none⟩ = some (.int .i64 x.vl) := hA3.out.2.at 5 _ rfl
      have k0 : W3.cell? ⟨C, 0, none⟩ = some (.int .i64 (g : Int)) := by
        rw [← hgo.out]
        exact hA3.out.2.at 0 _ rfl
      cases b9 with
      | false =>
        have hno : lkO x = none := by
          have := h9H.out.2
          cases h : lkO x with
          | none => rfl
          | some a => rw [h] at this; cases this
        have hA5 : Hid (AhS w W3 l N H 0 (nowF l (i + 1)) (heldF l (i + 1))) := by (rw [nowF_same hxH.out (.inl hno)]; exact hA3.out.1)
        clear hno
        go_wp2
        go_roundw
        case rel => exact ⟨i + 1, by omega, by go_num, hA5.out⟩
        case measure => simp [intOf]; omega
      | true =>
        have hsome : lkO x ≠ none := fun h => by
          have := h9H.out.2
          rw [h] at this; cases this
        have hn9 : n9 = lkN x := by
          rw [← h9H.out.1, if_neg hsome]
        obtain ⟨k, hk, hkn⟩ : ∃ k : Nat, k < 4 ∧ lkN x = (k : Int) := by
          rcases lk_right hxr.out with q | ⟨q1, q2⟩
          · exfalso
            cases h : lkO x with
            | none => exact hsome h
            | some a =>
              unfold lkN at q
              rw [h] at q
              obtain ⟨m1, m2⟩ := lkO_some h
              obtain ⟨p, hp⟩ := List.getElem?_of_mem m1
              have hlt : p < tN x.n := by
                have := (List.getElem?_eq_some_iff.mp hp).1
                unfold Ev.of at this
                rw [List.length_take] at this
                omega
              rw [of_at hlt] at hp
              have := (hxr.out.2.1 p hlt a hp).1.1
              have q' : a.num = -1 := q
              omega
          · exact ⟨(lkN x).toNat, by omega, by omega⟩
        have hlk : Hid (lkN x = (k : Int)) := hkn
        have hk4 : k < 4 := hk
        rw [hn9, hkn]
        have hgk : g * 4 + k < 24 := by have := hgH.out; omega
        have xk := ix4S N (g * 4) k hk
        have ck : W3.cell? ⟨N, g * 4 + k, none⟩ = some (.bool (nowF l i (g * 4 + k))) := br_cell hA3.out.1.n hgk
        have fk : W3.frozen? ⟨N, g * 4 + k, none⟩ = false := frozen_of_row _ _ _ _ _ hA3.out.1.n
        clear hsome hn9 hkn hk h9H
        cases o55 : (x.op == 55) with
        | true =>
          have hvv : Hid (∀ f : Nat → Bool, (if tksB x then true else if x.op = 56 then false else f k) = true) := fun f => by (unfold tksB; simp [o55])
          go_wp2_with (first
            | ((with_reducible refine at_storeG 4 _ _ rfl ?_); refine stopG_out ?_; refine wpList_putb rfl 4 _ _ rfl ⟨N, g * 4 + k, none⟩ rfl true rfl (by kernel_rfl) _ ck fk fun W5 hW5 => ?_; (have hA5 : Hid (AhS w W5 l N H 0 (nowF l (i + 1)) (heldF l (i + 1))) := (by rw [hW5, ← nowF_put hxH.out hgo.out hk4 hlk.out hvv.out]; exact ⟨br_put hA3.out.1.n _ _, (heap_setCell_other _ ⟨N, _, none⟩ H _ (Ne.symm hA3.out.1.ne)).trans hA3.out.1.h, hA3.out.1.b.setCell (p := ⟨N, g * 4 + k, none⟩) hA3.out.1.d1 _, hA3.out.1.d1, hA3.out.1.d2, hA3.out.1.ne⟩)); clear hW5 ck fk))
          go_roundw
          case rel => exact ⟨i + 1, by omega, by go_num, hA5.out⟩
          case measure => simp [intOf]; omega
        | false =>
          cases o57 : (x.op == 57) with
          | true =>
            have o56 : (x.op == 56) = false := by
              rw [beq_iff_eq] at o57
              rw [o57]; rfl
            cases v1 : (x.vl == 1) with
            | true =>
              have hvv : Hid (∀ f : Nat → Bool, (if tksB x then true else if x.op = 56 then false else f k) = true) := fun f => by (unfold tksB; simp [o57, v1])
              go_wp2_with (first
                | ((with_reducible refine at_storeG 4 _ _ rfl ?_); refine stopG_out ?_; refine wpList_putb rfl 4 _ _ rfl ⟨N, g * 4 + k, none⟩ rfl true rfl (by kernel_rfl) _ ck fk fun W5 hW5 => ?_; (have hA5 : Hid (AhS w W5 l N H 0 (nowF l (i + 1)) (heldF l (i + 1))) := (by rw [hW5, ← nowF_put hxH.out hgo.out hk4 hlk.out hvv.out]; exact ⟨br_put hA3.out.1.n _ _, (heap_setCell_other _ ⟨N, _, none⟩ H _ (Ne.symm hA3.out.1.ne)).trans hA3.out.1.h, hA3.out.1.b.setCell (p := ⟨N, g * 4 + k, none⟩) hA3.out.1.d1 _, hA3.out.1.d1, hA3.out.1.d2, hA3.out.1.ne⟩)); clear hW5 ck fk))
              go_roundw
              case rel => exact ⟨i + 1, by omega, by go_num, hA5.out⟩
              case measure => simp [intOf]; omega
            | false =>
              have hA5 : Hid (AhS w W3 l N H 0 (nowF l (i + 1)) (heldF l (i + 1))) := by (rw [nowF_same hxH.out (.inr ⟨by unfold tksB; rw [o55, o57, v1]; rfl, beq_eq_false_iff_ne.mp o56⟩)]; exact hA3.out.1)
              go_wp2
              go_roundw
              case rel => exact ⟨i + 1, by omega, by go_num, hA5.out⟩
              case measure => simp [intOf]; omega
          | false =>
            cases o56 : (x.op == 56) with
            | true =>
              have hvv : Hid (∀ f : Nat → Bool, (if tksB x then true else if x.op = 56 then false else f k) = false) := fun f => by (rw [beq_iff_eq] at o56; unfold tksB; rw [o55, o57]; simp [o56])
              go_wp2_with (first
                | ((with_reducible refine at_storeG 4 _ _ rfl ?_); refine stopG_out ?_; refine wpList_putb rfl 4 _ _ rfl ⟨N, g * 4 + k, none⟩ rfl false rfl (by kernel_rfl) _ ck fk fun W5 hW5 => ?_; (have hA5 : Hid (AhS w W5 l N H 0 (nowF l (i + 1)) (heldF l (i + 1))) := (by rw [hW5, ← nowF_put hxH.out hgo.out hk4 hlk.out hvv.out]; exact ⟨br_put hA3.out.1.n _ _, (heap_setCell_other _ ⟨N, _, none⟩ H _ (Ne.symm hA3.out.1.ne)).trans hA3.out.1.h, hA3.out.1.b.setCell (p := ⟨N, g * 4 + k, none⟩) hA3.out.1.d1 _, hA3.out.1.d1, hA3.out.1.d2, hA3.out.1.ne⟩)); clear hW5 ck fk))
              go_roundw
              case rel => exact ⟨i + 1, by omega, by go_num, hA5.out⟩
              case measure => simp [intOf]; omega
            | false =>
              have hA5 : Hid (AhS w W3 l N H 0 (nowF l (i + 1)) (heldF l (i + 1))) := by (rw [nowF_same hxH.out (.inr ⟨by unfold tksB; rw [o55, o57]; rfl, beq_eq_false_iff_ne.mp o56⟩)]; exact hA3.out.1)
              go_wp2
              go_roundw
              case rel => exact ⟨i + 1, by omega, by go_num, hA5.out⟩
              case measure => simp [intOf]; omega
    · have hie : i = l.length := by omega
      have hiI : ¬ (i : Int) < l.length := by omega
      go_wp2
      go_ret
      exact ⟨H, rfl, by (have := hA.out.h; rw [hie] at this; exact this), hA.out.b⟩
end
end Go.Proofs.Ytdfnmlcpimiboaa.pg
/- A set of locks as a list, and the edges: package goodlock. -/
namespace Go.Proofs.Ytdfnmlcpimiboaa.pg
open Go.ChangeShapes Go.WideShapes Go.ChangeAt Go.RowKit
set_option linter.unusedVariables false
set_option linter.unusedSimpArgs false
set_option maxRecDepth 100000
attribute [local go_sem ↓] Go.wp_at_zero Go.wp_at_succ
theorem infoNlG : (Try.prog.info? 3).map (fun i => (i.zero, i.size, i.bytes)) = some (some (.int .i64 0), 1, 8) := by kernel_rfl
theorem infoEdG : (Try.prog.info? 71).map (fun i => (i.zero, i.size, i.bytes)) = some (some (.agg #[.int .i64 0, .int .i64 0, .int .i64 0, .int .i64 0]), 4, 32) := by kernel_rfl
def setN (f : Nat → Bool) (k : Nat) : List Nat := (List.range k).filter f
theorem setN_step (f : Nat → Bool) (k : Nat) : setN f (k + 1) = if f k then setN f k ++ [k] else setN f k := by
  unfold setN
  rw [List.range_succ, List.filter_append]
  cases h : f k <;> simp [h]
theorem setN_len (f : Nat → Bool) (k : Nat) : (setN f k).length ≤ k := by
  unfold setN
  exact Nat.le_trans (List.length_filter_le _ _) (by simp)
abbrev asZ (L : List Nat) : List Int := L.map fun (j : Nat) => (j : Int)
theorem own_int1 (Z : World) (i : Int) : True := trivial
theorem bld_ed (a b c d : Int) : ∀ wx, (Instr.build 71 #[(0, .int .i64 a), (1, .int .i64 b), (2, .int .i64 c), (3, .int .i64 d)]).run Try.prog wx = .ok (.agg #[.int .i64 a, .int .i64 b, .int .i64 c, .int .i64 d]) wx := fun wx => by kernel_rfl
theorem at_buildG {P : Program} {ops : Array Oper} {rest : List Oper} {op : Oper} {a : Act} {w : World} {Q : Exit → Act → World → Prop} (ty : TypeId) (x : Array (Nat × Operand)) (ho : op.op = .build ty x) (h : StopG (wpList P ops Q (op :: rest) a w)) : wpList P ops Q (op :: rest) a w := h
theorem wpList_bldG {P : Program} {ops : Array Oper} {rest : List Oper} {o : Oper} {a : Act} {w : World} {Q : Exit → Act → World → Prop} (hgd : o.guard = none) (t : TypeId) (parts : Array (Nat × Operand)) (ho : o.op = .build t parts) (vs : Array (Nat × Value)) (hp : (parts.map fun (i, x) => (i, a.eval x)) = vs) (v : Value) (hr : ∀ w, (Instr.build t vs).run P w = .ok v w)
    (h : wpList P ops Q rest (a.put o.dst v) w) : wpList P ops Q (o :: rest) a w := wpList_plain hgd fun K hK => by
  unfold Oper.wp execOp
  simp only [ho, hp, Sem.run_bind, Sem.run_pure, Result.andThen_ok, hr]
  exact hK _ _ h
/-- What an array of four truths tells at a place. -/
theorem ix4V (f : Nat → Bool) (k : Nat) (hk : k < 4) (t : TypeId) (ht : Try.prog.underlying t = Try.prog.underlying 67) : True := trivial
section
variable {w : World}
set_option maxHeartbeats 4000000 in
theorem list_anyS (f : Nat → Bool) (w : World) : Calls Try.prog 28 #[.agg (boolRow 4 f)] w fun e w' => ∃ a c, e = .returned (.slice a (setN f 4).length c) ∧ OwnL w' w.heap.size 3 1 a c ((asZ (setN f 4)).map chCells) ∧ Below w.heap.size w w' := by
  obtain ⟨iN, hiN', hzN', hsN', hbN'⟩ := info_q infoNlG
  have hiN : Hid (Try.prog.info? 3 = some iN) := hiN'
  have hzN : Hid _ := hzN'
  have hsN : Hid _ := hsN'
  have hbN : Hid _ := hbN'
  clear hiN' hzN' hsN' hbN'
  have huS : Hid (Try.prog.underlying 67 = _) := Try.underlying67
  have hBx : Hid ((w.alloc (.cells (boolRow 4 f) 67)).heap[w.heap.size]? = some (.cells (boolRow 4 f) 67)) := heap_alloc_new _ _
  have hW : Hid (Below w.heap.size w (w.alloc (.cells (boolRow 4 f) 67))) := boxed _ _
  go_enter Try.func28, Try.ntmps28
  go_upto_region 1 with fail
  change Code.wp _ _ _ _ (w.alloc (.cells (boolRow 4 f) 67))
  generalize w.alloc (.cells (boolRow 4 f) 67) = W at *
  go_wp2_with (first
    | ((with_reducible refine at_loadG 67 _ rfl ?_); refine stopG_out ?_; refine wpList_load_row rfl 67 _ rfl w.heap.size rfl _ _ _ _ hBx.out huS.out rfl infoS4s ?_))
  go_loopw [3, 7] (fun u3 u wr => ∃ (k : Nat) (a : Option Addr) (c : Nat), k ≤ 4 ∧ u = .int .i64 (k : Int) ∧ u3 = .slice a (setN f k).length c ∧ Hid (OwnL wr w.heap.size 3 1 a c ((asZ (setN f k)).map chCells) ∧ Below w.heap.size w wr)) (fun _ u _ => 4 - (intOf u).toNat)
  case atStart => exact ⟨0, none, 0, Nat.zero_le _, rfl, rfl, own_nil_q _ _ _ _, hW.out⟩
  case round =>
    obtain ⟨k, a, c, hk, rfl, rfl, hst⟩ := hrel
    clear hBx hW
    by_cases hlt : k < 4
    · have hkI : (k : Int) < 4 := by omega
      have xk : ∀ wx, (Instr.index 67 (.agg (boolRow 4 f)) (.int .i64 (k : Int))).run Try.prog wx = .ok (.bool (f k)) wx := by
        match k, hlt with
        | 0, _ => exact fun _ => by kernel_rfl
        | 1, _ => exact fun _ => by kernel_rfl
        | 2, _ => exact fun _ => by kernel_rfl
        | 3, _ => exact fun _ => by kernel_rfl
      have hstp : Hid (setN f (k + 1) = if f k then setN f k ++ [k] else setN f k) := setN_step f k
      have hln : Hid ((setN f k).length ≤ 4) := by have := setN_len f k; show _ ≤ _; omega
      obtain ⟨b, hb⟩ : ∃ b, f k = b := ⟨_, rfl⟩
      rw [hb] at xk hstp
      clear hb
      generalize setN f k = L at *
      cases b with
      | false =>
        go_wp2
        go_roundw
        case rel => exact ⟨k + 1, a, c, by omega, by go_num, by (rw [hstp.out]; rfl), by (rw [hstp.out]; exact hst.out)⟩
        case measure => simp [intOf]; omega
      | true =>
        go_wp2_with (first
          | (refine wpList_buildSlice rfl 29 3 1 _ rfl (chCells (k : Int)).toArray iN _ Try.underlying29 hiN.out hzN.out (by rw [hsN.out]; omega) (by rw [hsN.out]; omega) (by simp only [hsN.out]; kernel_rfl) ?_)
          | (at_builtin; (refine wpList_app1 rfl (.tmp 12) (.tmp 14) 29 rfl w.heap.size 3 iN _ 1 8 Try.underlying29 hiN.out hzN.out hsN.out hbN.out rfl (by decide) a c ((asZ L).map chCells) (by rw [List.length_map, List.length_map]; rfl) hst.out.1 (chCells (k : Int)) rfl rfl (by simp [chCells, Value.oneCell']) (by rw [List.length_map, List.length_map]; have := hln.out; unfold maxLen; omega) (by rw [List.length_map, List.length_map]; have := hln.out; omega) hst.out.2.size ?_); intro va vc Z3 hgr; rw [List.length_map, List.length_map]))
        have hF : Hid (OwnL Z3 w.heap.size 3 1 va vc ((asZ (L ++ [k])).map chCells) ∧ Below w.heap.size w Z3) := by
          refine ⟨by (have := hgr.ow; unfold asZ; rw [List.map_append, List.map_append]; exact this), ?_⟩
          have := hgr.be
          rw [Nat.min_eq_left hst.out.2.size] at this
          exact hst.out.2.trans this
        go_roundw
        case rel => exact ⟨k + 1, va, vc, by omega, by go_num, by (rw [hstp.out, if_pos rfl, List.length_append, List.length_singleton]), by (rw [hstp.out, if_pos rfl]; exact hF.out)⟩
        case measure => simp [intOf]; omega
    · have hke : k = 4 := by omega
      subst hke
      go_wp2
      go_ret
      exact ⟨a, c, rfl, hst.out⟩
end
end Go.Proofs.Ytdfnmlcpimiboaa.pg
/- The edges and what is held: package goodlock. -/
namespace Go.Proofs.Ytdfnmlcpimiboaa.pg
open Go.ChangeShapes Go.WideShapes Go.ChangeAt Go.RowKit
set_option linter.unusedVariables false
set_option linter.unusedSimpArgs false
set_option maxRecDepth 100000
attribute [local go_sem ↓] Go.wp_at_zero Go.wp_at_succ
def eL (S : List Nat) (lk go : Int) (i : Nat) : List Ed := (S.filter fun (f : Nat) => ((f : Int) != lk)).map fun (f : Nat) => ⟨(f : Int), lk, go, (i : Int)⟩
theorem eL_step {S : List Nat} {j s : Nat} (h : S[j]? = some s) (lk go : Int) (i : Nat) : eL (S.take (j + 1)) lk go i = eL (S.take j) lk go i ++ (if (s : Int) = lk then [] else [⟨(s : Int), lk, go, (i : Int)⟩]) := by
  unfold eL
  rw [take_one S j s h, List.filter_append, List.map_append]
  congr 1
  by_cases e : (s : Int) = lk
  · rw [if_pos e]; simp [e]
  · rw [if_neg e]
    have : ((s : Int) != lk) = true := by rw [bne_iff_ne]; exact e
    simp [this]
theorem edgeAt_on {l : List Ev} {i : Nat} {x : Ev} (hx : l[i]? = some x) (h1 : x.op = 55) (h2 : 0 ≤ lkN x) : edgeAt l i = eL (setN (hldF l x.go i) 4) (lkN x) x.go i := by
  unfold edgeAt
  rw [evA_at hx, if_pos ⟨h1, h2⟩]
  rfl
theorem edgeAt_off {l : List Ev} {i : Nat} {x : Ev} (hx : l[i]? = some x) (h : x.op ≠ 55 ∨ lkN x < 0) : edgeAt l i = [] := by
  unfold edgeAt
  rw [evA_at hx, if_neg (by omega)]
theorem held_at {l : List Ev} {i k : Nat} {x : Ev} (hx : l[i]? = some x) (hi : i < l.length) (hk : k < 4) : heldF l l.length (i * 4 + k) = hldF l x.go i k := by
  unfold heldF
  rw [decide_eq_true (by omega), Bool.true_and, show (i * 4 + k) / 4 = i by omega, show (i * 4 + k) % 4 = k by omega, evA_at hx]
theorem ed_one (e : Ed) : (#[.int .i64 e.fr, .int .i64 e.tw, .int .i64 e.go, .int .i64 e.ev] : Array Value).all (·.oneCell') = true := by simp [Value.oneCell']
theorem lk_some {x : Ev} (hr : rightP x) (h : lkO x ≠ none) : 0 ≤ lkN x := by
  rcases lk_right hr with q | ⟨q1, q2⟩
  · exfalso
    cases h' : lkO x with
    | none => exact h h'
    | some a =>
      unfold lkN at q
      rw [h'] at q
      obtain ⟨m1, m2⟩ := lkO_some h'
      obtain ⟨p, hp⟩ := List.getElem?_of_mem m1
      have hlt : p < tN x.n := by
        have := (List.getElem?_eq_some_iff.mp hp).1
        unfold Ev.of at this
        rw [List.length_take] at this
        omega
      rw [of_at hlt] at hp
      have := (hr.2.1 p hlt a hp).1.1
      have q' : a.num = -1 := q
      omega
  · exact q1
theorem own_tagG {w : World} {lo e k : Nat} {a : Option Addr} {cap : Nat} {L : List (List Value)} (h : OwnL w lo e k a cap L) {g : Nat} (hg : g ∈ blk a) : ∃ cur, w.heap[g]? = some (.cells cur e (0, 0)) ∧ cur.size = cap * k ∧ L.length ≤ cap ∧ a = some ⟨g, 0, none⟩ := by
  rcases h.2 with ⟨q, _⟩ | ⟨g', cap', cur, q, hb, hg', h1, h2, h3, h4⟩
  · simp only [Value.slice.injEq] at q; rw [q.1] at hg; simp [blk] at hg
  · simp only [Value.slice.injEq] at q
    obtain ⟨q1, _, q3⟩ := q
    rw [q1] at hg
    simp only [blk, List.mem_singleton] at hg
    subst hg
    subst q3
    exact ⟨cur, hg', h3, h1, q1⟩
theorem own_apartG {w : World} {lo lo' e e' k k' : Nat} {a a' : Option Addr} {cap cap' : Nat} {L L' : List (List Value)} (h : OwnL w lo e k a cap L) (h' : OwnL w lo' e' k' a' cap' L') (hne : e ≠ e') {g : Nat} (hg : g ∈ blk a) : g ∉ blk a' := fun hg' => by
  obtain ⟨c, h1, _⟩ := own_tagG h hg
  obtain ⟨c', h2, _⟩ := own_tagG h' hg'
  rw [h1] at h2
  simp at h2
  exact hne h2.2
theorem int_ixG {w : World} {a : Option Addr} {cap : Nat} {S : List Nat} (h : Rows w 1 a cap ((asZ S).map chCells)) (i s : Nat) (hi : S[i]? = some s) :
    ∃ b o, (∀ wx, (Instr.indexAt 29 (.slice a S.length cap) (.int .i64 (i : Int))).run Try.prog wx = .ok (.pointer (some ⟨b, o, none⟩)) wx) ∧ b < w.heap.size ∧ w.cell? ⟨b, o, none⟩ = some (.int .i64 (s : Int)) := by
  obtain ⟨b, o, hr, hlt, hc⟩ := h.ix 29 3 Try.underlying29 (by kernel_rfl) (fun wx => Try.sizeOf3 wx) i (row := chCells (s : Int)) (by simp [hi])
  rw [List.length_map, List.length_map] at hr
  exact ⟨b, o, hr, hlt, hc 0 _ rfl⟩
theorem asZ_one (S : List Nat) : ∀ row ∈ (asZ S).map chCells, row.length = 1 := fun row hr => by
  obtain ⟨z, _, rfl⟩ := List.mem_map.mp hr
  rfl
theorem rng_blkG {w : World} {B : Nat} {cs : Array Value} {t : TypeId} (h : w.heap[B]? = some (.cells cs t (0, 0))) : w.rangeAt B 0 cs.toList := fun j v hj => by
  rw [Nat.zero_add]
  exact cell_lcG h (by simpa using hj)
section
variable {w : World} {l : List Ev} {la : Option Addr} {lc H : Nat}
/-- How edges stands. -/
structure EdS (w X : World) (E : List Ed) (a : Option Addr) (c : Nat) : Prop where
  o : OwnL X w.heap.size 71 4 a c (E.map Ed.cells)
  b : Below w.heap.size w X
theorem EdS.later {X X' : World} {E : List Ed} {a : Option Addr} {c : Nat} (g : EdS w X E a c) (hb : Below X.heap.size X X') : EdS w X' E a c := ⟨own_keep g.o fun b hbb => hb.block b (blk_lt g.o b hbb).2, bthen g.b hb⟩
theorem ed_grow {X Z : World} {E : List Ed} {e : Ed} {a va sa : Option Addr} {c vc sc lo C : Nat} {L : List (List Value)} {cs : Array Value} {o : Obj} (g : EdS w X E a c) (hgr : Grown X w.heap.size 71 4 a (E.map Ed.cells) e.cells va vc Z) (hs : OwnL X lo 3 1 sa sc L) (hC : X.heap[C]? = some (.cells cs 55 (0, 0))) (hH : X.heap[H]? = some o) (hHl : H < w.heap.size) :
    EdS w Z (E ++ [e]) va vc ∧ OwnL Z lo 3 1 sa sc L ∧ Z.heap[C]? = some (.cells cs 55 (0, 0)) ∧ Z.heap[H]? = some o := by
  have hCn : C ∉ blk a := fun q => by
    rcases g.o.2 with ⟨h1, _⟩ | ⟨g', cap', cur, h1, _, hg, _⟩
    · simp only [Value.slice.injEq] at h1
      rw [h1.1] at q
      simp [blk] at q
    · simp only [Value.slice.injEq] at h1
      rw [h1.1] at q
      simp only [blk, List.mem_singleton] at q
      rw [← q, hC] at hg
      simp only [Option.some.injEq, Obj.cells.injEq] at hg
      exact absurd hg.2.1 (by decide)
  have hHn : H ∉ blk a := fun q => by have := (blk_lt g.o H q).1; omega
  refine ⟨⟨by rw [List.map_append]; exact hgr.ow, ?_⟩, ?_, ?_, ?_⟩
  · have := hgr.be
    rw [Nat.min_eq_left g.b.size] at this
    exact g.b.trans this
  · exact own_keep hs fun b hb => hgr.kp b (blk_lt hs b hb).2 (own_apartG hs g.o (by decide) hb)
  · exact (hgr.kp C (Array.getElem?_eq_some_iff.mp hC).1 hCn).trans hC
  · exact (hgr.kp H (Array.getElem?_eq_some_iff.mp hH).1 hHn).trans hH
set_option maxHeartbeats 8000000 in
theorem edges_anyG (hl : Rows w 26 la lc (l.map Ev.cells)) (hn : l.length ≤ 256) (hr : ∀ x ∈ l, rightP x) (hH : w.heap[H]? = some (.cells (boolRow (l.length * 4) (heldF l l.length)) 67)) : Calls Try.prog 25 #[.slice la l.length lc, .slice (some ⟨H, 0, none⟩) l.length l.length] w fun e w' => ∃ a c, e = .returned (.slice a (edgesL l l.length).length c) ∧ EdS w w' (edgesL l l.length) a c := by
  have hlH : Hid (Rows w 26 la lc (l.map Ev.cells)) := hl
  have hrH : Hid (∀ x ∈ l, rightP x) := hr
  have hnI : (l.length : Int) ≤ 256 := by omega
  have huH : Hid (Try.prog.underlying 55 = _) := Try.underlying55
  have hiH : Hid ((Try.prog.info? 55).map (·.size) = some 26) := infoE26
  have huS : Hid (Try.prog.underlying 67 = _) := Try.underlying67
  have hHb : Hid (H < w.heap.size) := (Array.getElem?_eq_some_iff.mp hH).1
  obtain ⟨iE, hiE', hzE', hsE', hbE'⟩ := info_q infoEdG
  have hiE : Hid (Try.prog.info? 71 = some iE) := hiE'
  have hzE : Hid _ := hzE'
  have hsE : Hid _ := hsE'
  have hbE : Hid _ := hbE'
  have h0 : Hid (EdS w w [] none 0 ∧ w.heap[H]? = some (.cells (boolRow (l.length * 4) (heldF l l.length)) 67)) := ⟨⟨own_nil_q _ _ _ _, Below.refl _ _⟩, hH⟩
  clear hl hr hH hiE' hzE' hsE' hbE'
  go_enter Try.func25, Try.ntmps25
  go_wp2_with fail
  go_loopw [5, 14] (fun u5 u wr => ∃ i : Nat, i ≤ l.length ∧ u = .int .i64 (i : Int) ∧ ∃ (a : Option Addr) (E : List Ed) (c : Nat), u5 = .slice a E.length c ∧ Hid (EdS w wr E a c ∧ wr.heap[H]? = some (.cells (boolRow (l.length * 4) (heldF l l.length)) 67)) ∧ Hid (E = edgesL l i)) (fun _ u _ => l.length - (intOf u).toNat)
  case atStart => exact ⟨0, Nat.zero_le _, rfl, none, [], 0, rfl, h0.out, rfl⟩
  case round =>
    obtain ⟨i, hi, rfl, a, E, c, rfl, hst, hE⟩ := hrel
    clear h0
    by_cases hlt : i < l.length
    · have hiI : (i : Int) < l.length := by omega
      obtain ⟨x, hx, hxm⟩ := get_lt l i hlt
      have hxH : Hid (l[i]? = some x) := hx
      obtain ⟨b0, o0, hix, hbl, hrg⟩ := ev_row (hlH.out.later hst.out.1.b) i x hx
      have hrH' : Hid (wr.rangeAt b0 o0 x.cells) := hrg
      have hxr : Hid (rightP x) := hrH.out x hxm
      have hst1 : Hid (EdS w (wr.alloc (objE x)) E a c ∧ (wr.alloc (objE x)).heap[wr.heap.size]? = some (.cells x.cells.toArray 55) ∧ (wr.alloc (objE x)).heap[H]? = some (.cells (boolRow (l.length * 4) (heldF l l.length)) 67)) := ⟨hst.out.1.later (boxed _ _), heap_alloc_new _ _, blk_onG hst.out.2 (boxed _ _)⟩
      clear hrg hst hx hxm
      go_upto_region 5 with (first
        | (refine wpList_load_mid rfl 55 _ rfl b0 o0 rfl x.cells _ hrH'.out huH.out rfl hiH.out ?_)
        | (refine wpList_store_new rfl 55 _ _ rfl rfl _ x.cells.toArray rfl (by kernel_rfl) rfl (ev_one x) ?_))
      change Code.wp _ _ _ _ (wr.alloc (objE x))
      generalize wr.alloc (objE x) = W1 at *
      generalize wr.heap.size = C at *
      clear hrH' hix
      have hro : Hid (W1.rangeAt C 0 x.cells) := rng_blkG hst1.out.2.1
      have cO := lockOf_any x W1 hxr.out.1.2.2.1 hxr.out.1.2.2.2
      obtain ⟨n9, hn9⟩ : ∃ n9, (if lkO x = none then 0 else lkN x) = n9 := ⟨_, rfl⟩
      obtain ⟨b9, hb9⟩ : ∃ b9, (lkO x).isSome = b9 := ⟨_, rfl⟩
      have h9H : Hid ((if lkO x = none then 0 else lkN x) = n9 ∧ (lkO x).isSome = b9) := ⟨hn9, hb9⟩
      rw [hn9, hb9] at cO
      clear hn9 hb9
      go_upto_region 6 with (first
        | (refine wpList_load_mid rfl 55 _ rfl C 0 rfl x.cells _ hro.out huH.out rfl hiH.out ?_)
        | (go_at_call 45; (with_reducible refine cO.mono ?_); rintro e W3 ⟨rfl, hb⟩; (have hst3 : Hid (EdS w W3 E a c ∧ W3.heap[C]? = some (.cells x.cells.toArray 55) ∧ W3.heap[H]? = some (.cells (boolRow (l.length * 4) (heldF l l.length)) 67)) := ⟨hst1.out.1.later hb, blk_onG hst1.out.2.1 hb, blk_onG hst1.out.2.2 hb⟩); clear hb hst1 hro cO))
      have k3 : W3.cell? ⟨C, 3, none⟩ = some (.int .i64 x.op) := cell_lcG hst3.out.2.1 rfl
      cases b9 with
      | false =>
        have hno : lkO x = none := by
          have := h9H.out.2
          cases h : lkO x with
          | none => rfl
          | some a => rw [h] at this; cases this
        have hoff : Hid (edgeAt l i = []) := edgeAt_off hxH.out (.inr (by unfold lkN; rw [hno]; decide))
        clear hno
        have hE2 : Hid (E = edgesL l (i + 1)) := by (show _ = _; rw [edgesL_step, hoff.out, List.append_nil]; exact hE.out)
        go_wp2
        go_roundw
        case rel => exact ⟨i + 1, by omega, by go_num, a, E, c, rfl, ⟨hst3.out.1, hst3.out.2.2⟩, hE2.out⟩
        case measure => simp [intOf]; omega
      | true =>
        have hsome : lkO x ≠ none := fun h => by
          have := h9H.out.2
          rw [h] at this; cases this
        have hn9 : n9 = lkN x := by
          rw [← h9H.out.1, if_neg hsome]
        have hlk0 : Hid (0 ≤ lkN x) := lk_some hxr.out hsome
        rw [hn9]
        obtain ⟨k, hk⟩ : ∃ k, lkN x = k := ⟨_, rfl⟩
        have hlk : Hid (lkN x = k) := hk
        rw [hk] at hlk0 ⊢
        clear hsome hn9 h9H hk
        cases o55 : (x.op == 55) with
        | false =>
          have o5 : (x.op != 55) = true := by rw [bne, o55]; rfl
          have hoff : Hid (edgeAt l i = []) := edgeAt_off hxH.out (.inl (beq_eq_false_iff_ne.mp o55))
          have hE2 : Hid (E = edgesL l (i + 1)) := by (show _ = _; rw [edgesL_step, hoff.out, List.append_nil]; exact hE.out)
          go_wp2
          go_roundw
          case rel => exact ⟨i + 1, by omega, by go_num, a, E, c, rfl, ⟨hst3.out.1, hst3.out.2.2⟩, hE2.out⟩
          case measure => simp [intOf]; omega
        | true =>
          have o5 : (x.op != 55) = false := by rw [bne, o55]; rfl
          have hat : Hid (edgeAt l i = eL (setN (hldF l x.go i) 4) k x.go i) := by
            have := edgeAt_on hxH.out (beq_iff_eq.mp o55) (by rw [hlk.out]; exact hlk0.out)
            rw [hlk.out] at this
            exact this
          obtain ⟨f, hf⟩ : ∃ f, hldF l x.go i = f := ⟨_, rfl⟩
          rw [hf] at hat
          have hrow : Hid (W3.rangeAt H (i * 4) [.bool (f 0), .bool (f 1), .bool (f 2), .bool (f 3)]) := by
            have := br_range hst3.out.2.2 (o := i * 4) (by omega)
            unfold b4 at this
            rw [show i * 4 = i * 4 + 0 by omega] at this
            rw [held_at hxH.out hlt (k := 0) (by omega), hf] at this
            rw [show i * 4 + 0 + 1 = i * 4 + 1 by omega, show i * 4 + 0 + 2 = i * 4 + 2 by omega, show i * 4 + 0 + 3 = i * 4 + 3 by omega, held_at hxH.out hlt (k := 1) (by omega), held_at hxH.out hlt (k := 2) (by omega), held_at hxH.out hlt (k := 3) (by omega), hf] at this
            exact this
          have cL : ∀ wx, Calls Try.prog 28 #[.agg #[.bool (f 0), .bool (f 1), .bool (f 2), .bool (f 3)]] wx fun e w' => ∃ a c, e = .returned (.slice a (setN f 4).length c) ∧ OwnL w' wx.heap.size 3 1 a c ((asZ (setN f 4)).map chCells) ∧ Below wx.heap.size wx w' := fun wx => list_anyS f wx
          have hS4 : Hid ((setN f 4).length ≤ 4) := setN_len f 4
          have xi : ∀ wx, (Instr.indexAt 63 (.slice (some ⟨H, 0, none⟩) l.length l.length) (.int .i64 (i : Int))).run Try.prog wx = .ok (.pointer (some ⟨H, i * 4, none⟩)) wx := rows_ix_g Try.underlying63 (fun wx => Try.sizeOf67 wx) H l.length l.length i hlt
          generalize setN f 4 = S at *
          clear hf
          generalize f 0 = f0 at *
          generalize f 1 = f1 at *
          generalize f 2 = f2 at *
          generalize f 3 = f3 at *
          have hSI : (S.length : Int) ≤ 4 := by have := hS4.out; omega
          go_wp2_with (first
            | ((with_reducible refine at_loadG 67 _ rfl ?_); refine stopG_out ?_; refine wpList_load_mid rfl 67 _ rfl H (i * 4) rfl [.bool f0, .bool f1, .bool f2, .bool f3] _ hrow.out huS.out rfl infoS4s ?_)
            | (go_at_call 28; (with_reducible refine (cL _).mono ?_); rintro e W4 ⟨sa, sc, rfl, hsa, hb⟩; (have hI : Hid (EdS w W4 E a c ∧ OwnL W4 W3.heap.size 3 1 sa sc ((asZ S).map chCells) ∧ W4.heap[C]? = some (.cells x.cells.toArray 55) ∧ W4.heap[H]? = some (.cells (boolRow (l.length * 4) (heldF l l.length)) 67)) := ⟨hst3.out.1.later hb, hsa, blk_onG hst3.out.2.1 hb, blk_onG hst3.out.2.2 hb⟩); clear hb hsa))
          obtain ⟨lo, hlo⟩ : ∃ lo, W3.heap.size = lo := ⟨_, rfl⟩
          rw [hlo] at hI
          clear hlo hst3 hrow cL k3 xi
          go_loopw [5, 37] (fun u5 u wq => ∃ j : Nat, j ≤ S.length ∧ u = .int .i64 (j : Int) ∧ ∃ (a' : Option Addr) (E' : List Ed) (c' : Nat), u5 = .slice a' E'.length c' ∧ Hid (EdS w wq E' a' c' ∧ OwnL wq lo 3 1 sa sc ((asZ S).map chCells) ∧ wq.heap[C]? = some (.cells x.cells.toArray 55) ∧ wq.heap[H]? = some (.cells (boolRow (l.length * 4) (heldF l l.length)) 67)) ∧ Hid (E' = edgesL l i ++ eL (S.take j) k x.go i)) (fun _ u _ => S.length - (intOf u).toNat)
          case atStart => exact ⟨0, Nat.zero_le _, rfl, a, E, c, rfl, hI.out, by (show _ = _; rw [hE.out, List.take_zero]; unfold eL; simp)⟩
          case round =>
            obtain ⟨j, hj, rfl, a', E', c', rfl, hq, hE'⟩ := hrel
            clear hI hE
            by_cases hlj : j < S.length
            · have hjI : (j : Int) < S.length := by omega
              obtain ⟨s, hs⟩ : ∃ s, S[j]? = some s := ⟨_, List.getElem?_eq_getElem hlj⟩
              obtain ⟨b1, o1, x1, _, c1⟩ := int_ixG (own_rows hq.out.2.1 (asZ_one S)) j s hs
              have hst : Hid (eL (S.take (j + 1)) k x.go i = eL (S.take j) k x.go i ++ (if (s : Int) = k then [] else [⟨(s : Int), k, x.go, (i : Int)⟩])) := eL_step hs k x.go i
              have k0 : wr.cell? ⟨C, 0, none⟩ = some (.int .i64 x.go) := cell_lcG hq.out.2.2.1 rfl
              have hel : Hid (E'.length ≤ 1028) := by
                have h1 := edgesL_len l i
                have h2 : (eL (S.take j) k x.go i).length ≤ 4 := by
                  unfold eL
                  rw [List.length_map]
                  refine Nat.le_trans (List.length_filter_le _ _) ?_
                  rw [List.length_take]
                  have := hS4.out
                  omega
                show _ ≤ _
                rw [hE'.out, List.length_append]
                omega
              clear hs
              by_cases e : (s : Int) = k
              · have eb : ((s : Int) != k) = false := by rw [e]; simp
                have hE2 : Hid (E' = edgesL l i ++ eL (S.take (j + 1)) k x.go i) := by (show _ = _; rw [hst.out, if_pos e, List.append_nil]; exact hE'.out)
                clear e hst
                go_wp2
                go_roundw
                case rel => exact ⟨j + 1, by omega, by go_num, a', E', c', rfl, hq.out, hE2.out⟩
                case measure => simp [intOf]; omega
              · have eb : ((s : Int) != k) = true := by rw [bne_iff_ne]; exact e
                have hE2 : Hid (E' ++ [⟨(s : Int), k, x.go, (i : Int)⟩] = edgesL l i ++ eL (S.take (j + 1)) k x.go i) := by (show _ = _; rw [hst.out, if_neg e, ← List.append_assoc, ← hE'.out])
                clear e hst
                go_wp2_with (first
                  | ((with_reducible refine at_buildG 71 _ rfl ?_); refine stopG_out ?_; refine wpList_bldG rfl 71 _ rfl #[(0, .int .i64 (s : Int)), (1, .int .i64 k), (2, .int .i64 x.go), (3, .int .i64 (i : Int))] (by simp only [List.map_toArray, List.map_cons, List.map_nil]; rfl) _ (bld_ed _ _ _ _) ?_)
                  | (refine wpList_buildSlice rfl 23 71 1 _ rfl #[.int .i64 (s : Int), .int .i64 k, .int .i64 x.go, .int .i64 (i : Int)] iE _ Try.underlying23 hiE.out hzE.out (by rw [hsE.out]; omega) (by rw [hsE.out]; omega) (by simp only [hsE.out]; kernel_rfl) ?_)
                  | (at_builtin; (refine wpList_app1 rfl (.tmp 44) (.tmp 51) 23 rfl w.heap.size 71 iE _ 4 32 Try.underlying23 hiE.out hzE.out hsE.out hbE.out rfl (by decide) a' c' (E'.map Ed.cells) (by rw [List.length_map]; rfl) hq.out.1.o [.int .i64 (s : Int), .int .i64 k, .int .i64 x.go, .int .i64 (i : Int)] rfl rfl (by simp [Value.oneCell']) (by rw [List.length_map]; have := hel.out; unfold maxLen; omega) (by rw [List.length_map]; have := hel.out; omega) hq.out.1.b.size ?_); intro va vc Z3 hgr; rw [List.length_map]))
                have hF : Hid (EdS w Z3 (E' ++ [⟨(s : Int), k, x.go, (i : Int)⟩]) va vc ∧ OwnL Z3 lo 3 1 sa sc ((asZ S).map chCells) ∧ Z3.heap[C]? = some (.cells x.cells.toArray 55) ∧ Z3.heap[H]? = some (.cells (boolRow (l.length * 4) (heldF l l.length)) 67)) := ed_grow hq.out.1 hgr hq.out.2.1 hq.out.2.2.1 hq.out.2.2.2 hHb.out
                clear hgr
                go_roundw
                case rel => exact ⟨j + 1, by omega, by go_num, va, E' ++ [(⟨(s : Int), k, x.go, (i : Int)⟩ : Ed)], vc, by rw [List.length_append, List.length_singleton], hF.out, hE2.out⟩
                case measure => simp [intOf]; omega
            · have hje : j = S.length := by omega
              have hjI : ¬ (j : Int) < S.length := by omega
              have hE2 : Hid (E' = edgesL l (i + 1)) := by
                show _ = _
                rw [hE'.out, edgesL_step, hat.out, hje, List.take_length]
              go_wp2
              go_roundw
              case rel => exact ⟨i + 1, by omega, by go_num, a', E', c', rfl, ⟨hq.out.1, hq.out.2.2.2⟩, hE2.out⟩
              case measure => simp [intOf]; omega
    · have hie : i = l.length := by omega
      have hiI : ¬ (i : Int) < l.length := by omega
      rw [hie] at hE
      have hEe := hE.out
      subst hEe
      go_wp2
      go_ret
      exact ⟨a, c, rfl, hst.out.1⟩
end
end Go.Proofs.Ytdfnmlcpimiboaa.pg
