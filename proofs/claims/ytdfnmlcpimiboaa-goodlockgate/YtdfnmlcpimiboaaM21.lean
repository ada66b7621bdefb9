/- Takings compared: package goodlock. -/
import Derived.Test.YtdfnmlcpimiboaaM20
import Derived.ChangeKeysEq
namespace Go.Proofs.Ytdfnmlcpimiboaa.pg
open Go.ChangeShapes Go.WideShapes Go.ChangeAt Go.RowKit
set_option linter.unusedVariables false
set_option linter.unusedSimpArgs false
set_option maxRecDepth 100000
attribute [local go_sem ↓] Go.wp_at_zero Go.wp_at_succ
/-- A taking: whose it is, what is held. -/
structure Tk where
  by_ : Int
  h0 : Bool
  h1 : Bool
  h2 : Bool
  h3 : Bool
deriving DecidableEq
abbrev Tk.cells (x : Tk) : List Value := [.int .i64 x.by_, .bool x.h0, .bool x.h1, .bool x.h2, .bool x.h3]
abbrev Tk.val (x : Tk) : Value := .agg #[.int .i64 x.by_, .bool x.h0, .bool x.h1, .bool x.h2, .bool x.h3]
abbrev objTk (x : Tk) : Obj := .cells #[.int .i64 x.by_, .bool x.h0, .bool x.h1, .bool x.h2, .bool x.h3] 97
def eqS4 (a0 a1 a2 a3 b0 b1 b2 b3 : Bool) : Bool := a0 == b0 && a1 == b1 && a2 == b2 && a3 == b3
theorem run_equalS (d : Nat) (a0 a1 a2 a3 b0 b1 b2 b3 : Bool) (w : World) : (Op.equalIn (d + 2) 67 (.agg #[.bool a0, .bool a1, .bool a2, .bool a3]) (.agg #[.bool b0, .bool b1, .bool b2, .bool b3])).run Try.prog w = .ok (eqS4 a0 a1 a2 a3 b0 b1 b2 b3) w := by
  have uB := Try.underlying4
  have aB := Try.isAgg4
  have zB := Try.sizeOf4
  obtain ⟨i, hi⟩ : ∃ i, Try.prog.info? 4 = some i := Option.isSome_iff_exists.mp (by kernel_rfl)
  have hc : Try.prog.cellsOf 4 = 1 := by kernel_rfl
  rw [run_equalIn_array (P := Try.prog) w (d + 1) _ _ Try.underlying67 hi, hc]
  simp only [show List.range 4 = [0, 1, 2, 3] from rfl, Op.eqItems]
  go_simp
  cases a0 <;> cases b0 <;> cases a1 <;> cases b1 <;> cases a2 <;> cases b2 <;> cases a3 <;> cases b3 <;> simp [eqS4]
def eqTk (x y : Tk) : Bool := x.by_ == y.by_ && eqS4 x.h0 x.h1 x.h2 x.h3 y.h0 y.h1 y.h2 y.h3
theorem eqTk_iff (x y : Tk) : eqTk x y = true ↔ x = y := by
  cases x; cases y; simp [eqTk, eqS4, Bool.and_eq_true, beq_iff_eq, and_assoc]
theorem run_eqTk (x y : Tk) (w : World) : (binOp .eql 97 x.val y.val).run Try.prog w = .ok (.bool (eqTk x y)) w := by
  have uB := Try.underlying3
  have aB := Try.isAgg3
  have zB := Try.sizeOf3
  have uS := Try.underlying67
  have aS := Try.isAgg67
  have zS := Try.sizeOf67
  have hS : Try.prog.underlying 97 = some (.struct (Try.prog.fieldsOf 97)) := by kernel_rfl
  have hp : Try.prog.stoodInHeld 97 = false := by kernel_rfl
  have hq := fun wx => run_equalS 9997 x.h0 x.h1 x.h2 x.h3 y.h0 y.h1 y.h2 y.h3 wx
  rw [run_eql_struct, show (10000 : Nat) = 9999 + 1 from rfl, run_equalIn_agg w 9999 97 _ _ hS hp]
  simp only [Program.fieldsOf, Try.underlying97]
  go_simp
  by_cases h0 : x.by_ = y.by_ <;> simp [eqTk, h0, hq]
  cases eqS4 x.h0 x.h1 x.h2 x.h3 y.h0 y.h1 y.h2 y.h3 <;> rfl
def BoxTk (w : World) (B : Nat) (x : Tk) : Prop := w.cell? ⟨B, 0, none⟩ = some (.int .i64 x.by_) ∧ w.cell? ⟨B, 1, none⟩ = some (.bool x.h0) ∧ w.cell? ⟨B, 2, none⟩ = some (.bool x.h1) ∧ w.cell? ⟨B, 3, none⟩ = some (.bool x.h2) ∧ w.cell? ⟨B, 4, none⟩ = some (.bool x.h3)
theorem BoxTk.later {w w' : World} {B : Nat} {x : Tk} (h : BoxTk w B x) (hb : Below w.heap.size w w') : BoxTk w' B x := ⟨cell_later hb h.1, cell_later hb h.2.1, cell_later hb h.2.2.1, cell_later hb h.2.2.2.1, cell_later hb h.2.2.2.2⟩
theorem boxTk_new (w : World) (x : Tk) : BoxTk (w.alloc (objTk x)) w.heap.size x := by
  refine ⟨?_, ?_, ?_, ?_, ?_⟩ <;> exact World.cell?_alloc_at _ _ _ _ rfl
theorem tk_ix {w : World} {a : Option Addr} {cap : Nat} {l : List Tk} (h : Rows w 5 a cap (l.map Tk.cells)) (i : Nat) (x : Tk) (hi : l[i]? = some x) :
    ∃ b o, (∀ wx, (Instr.indexAt 91 (.slice a l.length cap) (.int .i64 (i : Int))).run Try.prog wx = .ok (.pointer (some ⟨b, o, none⟩)) wx) ∧ b < w.heap.size ∧ w.cell? ⟨b, o, none⟩ = some (.int .i64 x.by_) ∧ w.cell? ⟨b, o + 1, none⟩ = some (.bool x.h0) ∧ w.cell? ⟨b, o + 2, none⟩ = some (.bool x.h1) ∧ w.cell? ⟨b, o + 3, none⟩ = some (.bool x.h2) ∧ w.cell? ⟨b, o + 4, none⟩ = some (.bool x.h3) := by
  obtain ⟨b, o, hr, hlt, hc⟩ := h.ix 91 97 Try.underlying91 (by kernel_rfl) (fun wx => Try.sizeOf97 wx) i (row := x.cells) (by simp [hi])
  rw [List.length_map] at hr
  exact ⟨b, o, hr, hlt, hc 0 _ rfl, hc 1 _ rfl, hc 2 _ rfl, hc 3 _ rfl, hc 4 _ rfl⟩
set_option maxHeartbeats 1000000 in
theorem indexTk_any (l : List Tk) (a : Option Addr) (c : Nat) (v : Tk) (w : World) (hl : Rows w 5 a c (l.map Tk.cells)) : Calls Try.prog 61 #[.slice a l.length c, v.val] w fun e w' => ∃ r : Int, e = .returned (.int .i64 r) ∧ (0 ≤ r ↔ v ∈ l) ∧ Below w.heap.size w w' := by
  have hlI := rows_len hl
  have hlH : Hid (Rows w 5 a c (l.map Tk.cells)) := hl
  have hb := boxed w (objTk v)
  have bA := boxTk_new w v
  clear hl
  go_enter Try.func61, Try.ntmps61
  go_wp2_with fail
  generalize w.alloc (objTk v) = W at *
  obtain ⟨k0, k1, k2, k3, k4⟩ := bA
  have hbH : Hid (Below w.heap.size w W) := hb
  clear hb
  go_loopw [8] (fun u wr => ∃ k n : Nat, k ≤ l.length ∧ u = .int .i64 k ∧ wr = W.drewN n ∧ Hid (∀ x ∈ l.take k, x ≠ v)) (fun u _ => l.length - (intOf u).toNat)
  case atStart => exact ⟨0, 0, Nat.zero_le _, rfl, rfl, fun s hs => by simp at hs⟩
  case round =>
    obtain ⟨k, n, hk, rfl, rfl, hno⟩ := hrel
    by_cases hlt : k < l.length
    · obtain ⟨y, hy, hym⟩ := get_lt l k hlt
      obtain ⟨b1, o1, hix1, hbl1, m0, m1, m2, m3, m4⟩ := tk_ix (hlH.out.later hbH.out) k y hy
      have hkI : (k : Int) < l.length := by omega
      have heq := fun wx => run_eqTk v y wx
      by_cases e : v = y
      · rw [(eqTk_iff v y).mpr e] at heq
        have hin : Hid (v ∈ l) := e ▸ hym
        clear e
        go_wp2
        refine wp_region_quiet_lit (by kernel_rfl) (by kernel_rfl) ?_
        repeat (go_big_quiet_step (fail))
        refine wpQuiet_nil ?_
        intro _ hw'
        obtain ⟨nq, hw''⟩ := hw'
        subst hw''
        go_wp2
        go_ret
        exact ⟨_, rfl, ⟨fun _ => hin.out, fun _ => by omega⟩, bthen hbH.out (below_drewN (below_drewN (Below.refl _ _) n) nq)⟩
      · rw [Bool.eq_false_iff.mpr fun q => e ((eqTk_iff v y).mp q)] at heq
        have eH : Hid (∀ x ∈ l.take (k + 1), x ≠ v) := fun z hz => by
          rw [take_one l k y hy, List.mem_append, List.mem_singleton] at hz
          rcases hz with hz | rfl
          · exact hno.out z hz
          · exact fun q => e q.symm
        clear e
        go_wp2
        refine wp_region_quiet_lit (by kernel_rfl) (by kernel_rfl) ?_
        repeat (go_big_quiet_step (fail))
        refine wpQuiet_nil ?_
        intro _ hw'
        obtain ⟨nq, hw''⟩ := hw'
        subst hw''
        go_wp2
        go_roundw
        case rel => exact ⟨k + 1, n + nq, by omega, by go_num, rfl, eH⟩
        case measure => simp [intOf]; omega
    · have hk2 : k = l.length := by omega
      subst hk2
      rw [List.take_length] at hno
      go_wp2
      go_ret
      exact ⟨_, rfl, ⟨fun q => absurd q (by omega), fun q => absurd rfl (hno.out v q)⟩, bthen hbH.out (below_drewN (Below.refl _ _) _)⟩
theorem containsTk_any (l : List Tk) (a : Option Addr) (c : Nat) (v : Tk) (w : World) (hl : Rows w 5 a c (l.map Tk.cells)) (R : Bool) (hR : Hid (R = true ↔ v ∈ l)) : Calls Try.prog 47 #[.slice a l.length c, v.val] w fun e w' => e = .returned (.bool R) ∧ Below w.heap.size w w' := by
  have c1 : Calls Try.prog 61 #[.slice a l.length c, v.val] (w.alloc (objTk v)) _ := indexTk_any l a c v _ (hl.later (boxed _ _))
  clear hl
  go_enter Try.func47, Try.ntmps47
  go_wp2_with (go_at_call 61; (with_reducible refine c1.mono ?_); rintro e w1 ⟨r, rfl, hr, hb1⟩; (have hrH : Hid (0 ≤ r ↔ v ∈ l) := hr); clear hr)
  go_ret
  exact ⟨ret_b (by rw [Bool.eq_iff_iff, decide_eq_true_iff]; exact hrH.out.trans hR.out.symm), bthen (boxed _ _) hb1⟩
end Go.Proofs.Ytdfnmlcpimiboaa.pg
/- unlike, Meet, apart: package goodlock. -/
namespace Go.Proofs.Ytdfnmlcpimiboaa.pg
open Go.ChangeShapes Go.WideShapes Go.ChangeAt Go.RowKit
set_option linter.unusedVariables false
set_option linter.unusedSimpArgs false
set_option maxRecDepth 100000
attribute [local go_sem ↓] Go.wp_at_zero Go.wp_at_succ
theorem unlike_any (x y : Tk) (w : World) : Calls Try.prog 53 #[x.val, y.val] w fun e w' => e = .returned (.bool (x.by_ != y.by_)) ∧ Below w.heap.size w w' := by
  have hb := boxed2 w (objTk x) (objTk y)
  have bA := (boxTk_new w x).later (boxed (w.alloc (objTk x)) (objTk y))
  have bB := boxTk_new (w.alloc (objTk x)) y
  rw [World.size_alloc] at bB
  have hbH : Hid (Below w.heap.size w _) := hb
  go_enter Try.func53, Try.ntmps53
  go_wp2_with fail
  generalize (w.alloc (objTk x)).alloc (objTk y) = W at *
  generalize w.heap.size + 1 = B0 at *
  obtain ⟨k0, _⟩ := bA
  obtain ⟨m0, _⟩ := bB
  clear hb
  go_wp2
  go_ret
  exact ⟨rfl, hbH.out⟩
end Go.Proofs.Ytdfnmlcpimiboaa.pg
/- Meet and apart: package goodlock. -/
namespace Go.Proofs.Ytdfnmlcpimiboaa.pg
open Go.ChangeShapes Go.WideShapes Go.ChangeAt Go.RowKit
set_option linter.unusedVariables false
set_option linter.unusedSimpArgs false
set_option maxRecDepth 100000
attribute [local go_sem ↓] Go.wp_at_zero Go.wp_at_succ
theorem zeroS4 : ∀ w, (zeroValue 67).run Try.prog w = .ok (.agg (boolRow 4 fun _ => false)) w := fun w => by kernel_rfl
theorem results_s4 {fn : Func} {p : Tmp} (h : fn.results = #[.cell p 67]) (tmps : Array Value) (w : World) (B : Nat) (f : Nat → Bool) (hp : tmps.getD p undef = .pointer (some ⟨B, 0, none⟩)) (hB : w.heap[B]? = some (.cells (boolRow 4 f) 67)) :
    (results fn tmps).run Try.prog w = .ok (.agg (boolRow 4 f)) w := by
  have hp' : tmps[p]?.getD undef = .pointer (some ⟨B, 0, none⟩) := by simpa using hp
  simp [results, h, hp', asAddr, run_loadVar_row w B _ 67 _ _ _ hB Try.underlying67 rfl (by rw [br_len]; kernel_rfl)]
def mtF (f g : Nat → Bool) (i k : Nat) : Bool := if k < i then f k && g k else f k
theorem mtF_zero (f g : Nat → Bool) : mtF f g 0 = f := by
  funext k
  unfold mtF
  rw [if_neg (Nat.not_lt_zero k)]
theorem mtF_at (f g : Nat → Bool) (i : Nat) : mtF f g i i = f i := by
  unfold mtF
  rw [if_neg (Nat.lt_irrefl i)]
theorem mtF_put (f g : Nat → Bool) (i : Nat) (v : Bool) (hv : v = (f i && g i)) : (fun b => if b = i then v else mtF f g i b) = mtF f g (i + 1) := by
  funext k
  unfold mtF
  by_cases e : k = i
  · rw [if_pos e, if_pos (by omega), e, hv]
  · rw [if_neg e]
    by_cases h : k < i
    · rw [if_pos h, if_pos (by omega)]
    · rw [if_neg h, if_neg (by omega)]
theorem mtF_four (f g : Nat → Bool) : boolRow 4 (mtF f g 4) = boolRow 4 fun k => f k && g k := br_congr fun j hj => by
  unfold mtF
  rw [if_pos hj]
section
variable {w X X' : World} {B0 B1 B4 : Nat} {f g : Nat → Bool}
/-- How Meet stands. -/
structure MtS (w X : World) (B0 B4 : Nat) (f : Nat → Bool) : Prop where
  r : X.heap[B4]? = some (.cells (boolRow 4 fun _ => false) 67)
  o : X.heap[B0]? = some (.cells (boolRow 4 f) 67)
  b : Below w.heap.size w X
  d1 : w.heap.size ≤ B4
  d2 : w.heap.size ≤ B0
  ne : B4 ≠ B0
theorem MtS.later (h : MtS w X B0 B4 f) (hb : Below X.heap.size X X') : MtS w X' B0 B4 f := ⟨blk_onG h.r hb, blk_onG h.o hb, bthen h.b hb, h.d1, h.d2, h.ne⟩
theorem MtS.put (h : MtS w X B0 B4 f) (k : Nat) (v : Bool) : MtS w (X.setCell ⟨B0, k, none⟩ (.bool v)) B0 B4 (fun b => if b = k then v else f b) :=
  ⟨(heap_setCell_other X ⟨B0, k, none⟩ B4 _ h.ne).trans h.r, br_put h.o k v, h.b.setCell (p := ⟨B0, k, none⟩) h.d2 _, h.d1, h.d2, h.ne⟩
set_option maxHeartbeats 4000000 in
theorem meet_anyS (f g : Nat → Bool) (w : World) : Calls Try.prog 54 #[.agg (boolRow 4 f), .agg (boolRow 4 g)] w fun e w' => e = .returned (.agg (boolRow 4 fun k => f k && g k)) ∧ Below w.heap.size w w' := by
  have huS : Hid (Try.prog.underlying 67 = _) := Try.underlying67
  have hA0 : Hid (MtS w (((w.alloc (.cells (boolRow 4 f) 67)).alloc (.cells (boolRow 4 g) 67)).alloc (.cells (boolRow 4 fun _ => false) 67)) w.heap.size (w.heap.size + 2) (mtF f g 0) ∧ (((w.alloc (.cells (boolRow 4 f) 67)).alloc (.cells (boolRow 4 g) 67)).alloc (.cells (boolRow 4 fun _ => false) 67)).heap[w.heap.size + 1]? = some (.cells (boolRow 4 g) 67)) := by
    have n1 := heap_alloc_new (w.alloc (.cells (boolRow 4 f) 67)) (.cells (boolRow 4 g) 67)
    have n2 := heap_alloc_new ((w.alloc (.cells (boolRow 4 f) 67)).alloc (.cells (boolRow 4 g) 67)) (.cells (boolRow 4 fun _ => false) 67)
    rw [World.size_alloc, World.size_alloc] at n2
    rw [World.size_alloc] at n1
    refine ⟨⟨n2, ?_, bthen (bthen (boxed _ _) (boxed _ _)) (boxed _ _), by omega, Nat.le_refl _, by omega⟩, blk_onG n1 (boxed _ _)⟩
    rw [mtF_zero]
    exact blk_onG (blk_onG (heap_alloc_new _ _) (boxed _ _)) (boxed _ _)
  go_enter Try.func54, Try.ntmps54
  go_upto_region 1 with (first
    | ((with_reducible refine at_allocG 67 rfl ?_); refine stopG_out ?_; refine wpList_alloc_big rfl 67 rfl zeroS4 ?_))
  simp only [Act.put, List.getElem_toArray, List.getElem_cons_succ, List.getElem_cons_zero, List.setIfInBounds_toArray, List.set_cons_zero, List.set_cons_succ, World.size_alloc]
  change Code.wp _ _ _ _ (((w.alloc (.cells (boolRow 4 f) 67)).alloc (.cells (boolRow 4 g) 67)).alloc (.cells (boolRow 4 fun _ => false) 67))
  obtain ⟨B4, hB4⟩ : ∃ D, w.heap.size + 2 = D := ⟨_, rfl⟩
  obtain ⟨B1, hB1⟩ : ∃ D, w.heap.size + 1 = D := ⟨_, rfl⟩
  obtain ⟨B0, hB0⟩ : ∃ D, w.heap.size = D := ⟨_, rfl⟩
  simp only [show w.heap.size + 1 + 1 = w.heap.size + 2 from rfl] at *
  rw [hB4, hB1] at hA0
  rw [hB4, hB1]
  rw [hB0] at hA0 ⊢
  clear hB4 hB1
  generalize ((w.alloc (.cells (boolRow 4 f) 67)).alloc (.cells (boolRow 4 g) 67)).alloc (.cells (boolRow 4 fun _ => false) 67) = X0 at *
  go_wp2_with (first
    | ((with_reducible refine at_loadG 67 _ rfl ?_); refine stopG_out ?_; refine wpList_load_row rfl 67 _ rfl B1 rfl _ _ _ _ hA0.out.2 huS.out rfl (by rw [br_len]; exact infoS4s) ?_))
  go_loopw [8] (fun u wr => ∃ j : Nat, j ≤ 4 ∧ u = .int .i64 (j : Int) ∧ Hid (MtS w wr B0 B4 (mtF f g j))) (fun u _ => 4 - (intOf u).toNat)
  case atStart => exact ⟨0, Nat.zero_le _, rfl, hA0.out.1⟩
  case round =>
    obtain ⟨j, hj, rfl, hA⟩ := hrel
    clear hA0
    by_cases hlt : j < 4
    · have hjI : (j : Int) < 4 := by omega
      have xk : ∀ wx, (Instr.index 67 (.agg (boolRow 4 g)) (.int .i64 (j : Int))).run Try.prog wx = .ok (.bool (g j)) wx := by
        match j, hlt with
        | 0, _ => exact fun _ => by kernel_rfl
        | 1, _ => exact fun _ => by kernel_rfl
        | 2, _ => exact fun _ => by kernel_rfl
        | 3, _ => exact fun _ => by kernel_rfl
      have x4 := ix4S B0 0 j hlt
      rw [Nat.zero_add] at x4
      have ck : wr.cell? ⟨B0, j, none⟩ = some (.bool (f j)) := by
        have := br_cell hA.out.o hlt
        rw [mtF_at] at this
        exact this
      have fk : wr.frozen? ⟨B0, j, none⟩ = false := frozen_of_row _ _ _ _ _ hA.out.o
      obtain ⟨b, hb⟩ : ∃ b, f j = b := ⟨_, rfl⟩
      obtain ⟨c, hc⟩ : ∃ c, g j = c := ⟨_, rfl⟩
      have hbc : Hid ((b && c) = (f j && g j)) := by (show _ = _; rw [hb, hc])
      rw [hb] at ck
      rw [hc] at xk
      clear hb hc
      cases b with
      | false =>
        go_wp2_with (first
          | ((with_reducible refine at_storeG 4 _ _ rfl ?_); refine stopG_out ?_; refine wpList_putb rfl 4 _ _ rfl ⟨B0, j, none⟩ rfl false rfl (by kernel_rfl) _ ck fk fun W5 hW5 => ?_; (have hA5 : Hid (MtS w W5 B0 B4 (mtF f g (j + 1))) := (by rw [hW5, ← mtF_put f g j false hbc.out]; exact hA.out.put j false)); clear hW5 ck fk))
        go_roundw
        case rel => exact ⟨j + 1, by omega, by go_num, hA5.out⟩
        case measure => simp [intOf]; omega
      | true =>
        go_wp2_with (first
          | ((with_reducible refine at_storeG 4 _ _ rfl ?_); refine stopG_out ?_; refine wpList_putb rfl 4 _ _ rfl ⟨B0, j, none⟩ rfl c rfl (by kernel_rfl) _ ck fk fun W5 hW5 => ?_; (have hA5 : Hid (MtS w W5 B0 B4 (mtF f g (j + 1))) := (by rw [hW5, ← mtF_put f g j c hbc.out]; exact hA.out.put j c)); clear hW5 ck fk))
        go_roundw
        case rel => exact ⟨j + 1, by omega, by go_num, hA5.out⟩
        case measure => simp [intOf]; omega
    · have hje : j = 4 := by omega
      subst hje
      have hA9 : Hid (MtS w wr B0 B4 fun k => mtF f g 4 k) := hA
      clear hA
      go_wp2_with (first
        | ((with_reducible refine at_loadG 67 _ rfl ?_); refine stopG_out ?_; refine wpList_load_row rfl 67 _ rfl B0 rfl _ _ _ _ hA9.out.o huS.out rfl (by rw [br_len]; exact infoS4s) ?_)
        | ((with_reducible refine at_storeG 67 _ _ rfl ?_); refine stopG_out ?_; refine wpList_store_row rfl 67 _ _ rfl B4 (boolRow 4 (mtF f g 4)) rfl rfl _ _ hA9.out.r (by rw [br_len]; exact infoS4s) (by rw [br_len, br_len]) (by simp [boolRow, Value.oneCell']) ?_))
      refine bodyPost_ret (results_s4 Try.results54 _ _ B4 (mtF f g 4) rfl (setRow_heap _ _ _ _ _ _ hA9.out.r)) rfl ⟨by rw [mtF_four], ?_⟩
      exact below_setRow hA9.out.b hA9.out.d1 _
end
theorem run_eqS (a0 a1 a2 a3 b0 b1 b2 b3 : Bool) (w : World) : (binOp .eql 67 (.agg #[.bool a0, .bool a1, .bool a2, .bool a3]) (.agg #[.bool b0, .bool b1, .bool b2, .bool b3])).run Try.prog w = .ok (.bool (eqS4 a0 a1 a2 a3 b0 b1 b2 b3)) w := by
  rw [run_eql_struct, show (10000 : Nat) = 9998 + 2 from rfl, run_equalS]
  rfl
theorem guard_eqS (a0 a1 a2 a3 b0 b1 b2 b3 : Bool) (p q : Operand) (w : World) : ((do
    eqGuard .eql 67 p q (.agg #[.bool a0, .bool a1, .bool a2, .bool a3]) (.agg #[.bool b0, .bool b1, .bool b2, .bool b3])
    binOp .eql 67 (.agg #[.bool a0, .bool a1, .bool a2, .bool a3]) (.agg #[.bool b0, .bool b1, .bool b2, .bool b3])) : Sem Value).run Try.prog w = .ok (.bool (eqS4 a0 a1 a2 a3 b0 b1 b2 b3)) w := by
  have hm : Try.prog.eqGuardType Try.prog.depth 67 = false := by kernel_rfl
  simp only [Sem.run_bind, run_eqGuard_agg (P := Try.prog) w .eql 67 p q _ _ hm, Result.andThen_ok]
  exact run_eqS a0 a1 a2 a3 b0 b1 b2 b3 w
def apB (x y : Tk) : Bool := x.by_ != y.by_ && eqS4 (x.h0 && y.h0) (x.h1 && y.h1) (x.h2 && y.h2) (x.h3 && y.h3) false false false false
def hvF (x : Tk) (k : Nat) : Bool := match k with | 0 => x.h0 | 1 => x.h1 | 2 => x.h2 | _ => x.h3
theorem rng_of_tk {w : World} {B : Nat} {x : Tk} (h : BoxTk w B x) : w.rangeAt B 0 x.cells := fun j v hj => by
  rw [Nat.zero_add]
  match j, hj with
  | 0, hj => cases hj; exact h.1
  | 1, hj => cases hj; exact h.2.1
  | 2, hj => cases hj; exact h.2.2.1
  | 3, hj => cases hj; exact h.2.2.2.1
  | 4, hj => cases hj; exact h.2.2.2.2
theorem rng_of_held {w : World} {B : Nat} {x : Tk} (h : BoxTk w B x) : w.rangeAt B 1 [.bool x.h0, .bool x.h1, .bool x.h2, .bool x.h3] := fun j v hj => by
  match j, hj with
  | 0, hj => cases hj; exact h.2.1
  | 1, hj => cases hj; exact h.2.2.1
  | 2, hj => cases hj; exact h.2.2.2.1
  | 3, hj => cases hj; exact h.2.2.2.2
theorem infoTk5 : (Try.prog.info? 97).map (·.size) = some 5 := by kernel_rfl
set_option maxHeartbeats 4000000 in
theorem apart_any (x y : Tk) (w : World) : Calls Try.prog 38 #[x.val, y.val] w fun e w' => e = .returned (.bool (apB x y)) ∧ Below w.heap.size w w' := by
  have hb := boxed2 w (objTk x) (objTk y)
  have bA := (boxTk_new w x).later (boxed (w.alloc (objTk x)) (objTk y))
  have bB := boxTk_new (w.alloc (objTk x)) y
  rw [World.size_alloc] at bB
  have hbH : Hid (Below w.heap.size w _ ∧ BoxTk _ _ x ∧ BoxTk _ _ y) := ⟨hb, bA, bB⟩
  have huS : Hid (Try.prog.underlying 67 = _) := Try.underlying67
  have huT : Hid (Try.prog.underlying 97 = _) := Try.underlying97
  have cU : ∀ wx, Calls Try.prog 53 #[x.val, y.val] wx _ := fun wx => unlike_any x y wx
  have cM : ∀ wx, Calls Try.prog 54 #[.agg #[.bool x.h0, .bool x.h1, .bool x.h2, .bool x.h3], .agg #[.bool y.h0, .bool y.h1, .bool y.h2, .bool y.h3]] wx fun e w' => e = .returned (.agg #[.bool (x.h0 && y.h0), .bool (x.h1 && y.h1), .bool (x.h2 && y.h2), .bool (x.h3 && y.h3)]) ∧ Below wx.heap.size wx w' := fun wx => meet_anyS (hvF x) (hvF y) wx
  have hbl : Hid (∀ wx, (Instr.build 67 #[]).run Try.prog wx = .ok (.agg #[.bool false, .bool false, .bool false, .bool false]) wx) := fun wx => by kernel_rfl
  clear hb bA bB
  go_enter Try.func38, Try.ntmps38
  go_upto_region 1 with fail
  generalize (w.alloc (objTk x)).alloc (objTk y) = W at *
  generalize w.heap.size + 1 = C0 at *
  have hU : Hid (apB x y = (x.by_ != y.by_ && eqS4 (x.h0 && y.h0) (x.h1 && y.h1) (x.h2 && y.h2) (x.h3 && y.h3) false false false false)) := rfl
  cases hne : (x.by_ != y.by_) with
  | false =>
    rw [hne] at cU hU
    clear hne
    go_wp2_with (first
      | ((with_reducible refine at_loadG 97 _ rfl ?_); refine stopG_out ?_; refine wpList_load_mid rfl 97 _ rfl w.heap.size 0 rfl x.cells _ (rng_of_tk hbH.out.2.1) huT.out rfl infoTk5 ?_)
      | ((with_reducible refine at_loadG 97 _ rfl ?_); refine stopG_out ?_; refine wpList_load_mid rfl 97 _ rfl C0 0 rfl y.cells _ (rng_of_tk hbH.out.2.2) huT.out rfl infoTk5 ?_)
      | (go_at_call 53; (with_reducible refine (cU _).mono ?_); rintro e w4 ⟨rfl, hb4⟩; (have hB4 : Hid (Below w.heap.size w w4) := bthen hbH.out.1 hb4); clear hb4 cU))
    go_ret
    exact ⟨by (rw [hU.out, Bool.false_and]; rfl), hB4.out⟩
  | true =>
    rw [hne] at cU hU
    clear hne
    go_wp2_with (first
      | ((with_reducible refine at_loadG 97 _ rfl ?_); refine stopG_out ?_; refine wpList_load_mid rfl 97 _ rfl w.heap.size 0 rfl x.cells _ (rng_of_tk hbH.out.2.1) huT.out rfl infoTk5 ?_)
      | ((with_reducible refine at_loadG 97 _ rfl ?_); refine stopG_out ?_; refine wpList_load_mid rfl 97 _ rfl C0 0 rfl y.cells _ (rng_of_tk hbH.out.2.2) huT.out rfl infoTk5 ?_)
      | (go_at_call 53; (with_reducible refine (cU _).mono ?_); rintro e w4 ⟨rfl, hb4⟩; (have hB4 : Hid (Below w.heap.size w w4 ∧ BoxTk w4 w.heap.size x ∧ BoxTk w4 C0 y) := ⟨bthen hbH.out.1 hb4, hbH.out.2.1.later hb4, hbH.out.2.2.later hb4⟩); (obtain ⟨p0, p1, p2, p3, p4⟩ := hB4.out.2.1); (obtain ⟨q0, q1, q2, q3, q4⟩ := hB4.out.2.2); clear hb4 cU p0 q0)
      | (go_at_call 54; (with_reducible refine (cM _).mono ?_); rintro e w5 ⟨rfl, hb5⟩; (have hB5 : Hid (Below w.heap.size w w5) := bthen hB4.out.1 hb5); (have hbq := hbl.out w5); (have hqq : (Op.equalIn 10000 67 (.agg #[.bool (x.h0 && y.h0), .bool (x.h1 && y.h1), .bool (x.h2 && y.h2), .bool (x.h3 && y.h3)]) (.agg #[.bool false, .bool false, .bool false, .bool false])).run Try.prog w5 = _ := run_equalS 9998 (x.h0 && y.h0) (x.h1 && y.h1) (x.h2 && y.h2) (x.h3 && y.h3) false false false false w5); clear hb5 cM))

    go_ret
    exact ⟨by (rw [hU.out, Bool.true_and]; rfl), hB5.out⟩
end Go.Proofs.Ytdfnmlcpimiboaa.pg
