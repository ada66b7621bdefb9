/- Edges and Held of package goodlock. -/
import Derived.Test.YtdfnmlcpimiboaaM19
import Derived.Test.YtdfnmlcpimiboaaM15
namespace Go.Proofs.Ytdfnmlcpimiboaa.pg
open Go.ChangeShapes Go.WideShapes Go.ChangeAt Go.RowKit
set_option linter.unusedVariables false
set_option linter.unusedSimpArgs false
set_option maxRecDepth 100000
attribute [local go_sem ↓] Go.wp_at_zero Go.wp_at_succ
/-- What Edges and Held tell, by what Check tells. -/
def edgR (l : List Ev) (c : Int) : List Ed × Int := if c = 0 then (edgesL l l.length, 0) else ([], c)
def hldR (l : List Ev) (i c : Int) : List Nat × Int := if c = 0 then (if 0 ≤ i ∧ i < l.length then (setN (hldF l (evA l i.toNat).go i.toNat) 4, 0) else ([], 1)) else ([], c)
theorem rows_nilG (w : World) (k : Nat) : Rows w k none 0 [] := ⟨Nat.le_refl _, by decide, fun _ => ⟨rfl, rfl⟩, .inl rfl⟩
theorem ed_len (E : List Ed) : ∀ row ∈ E.map Ed.cells, row.length = 4 := fun row hr => by
  obtain ⟨z, _, rfl⟩ := List.mem_map.mp hr
  rfl
theorem check_zero {l : List Ev} (hc : checkP l 0) : l.length ≤ 256 ∧ ∀ x ∈ l, rightP x := by
  rcases hc with ⟨_, q⟩ | ⟨_, _, q⟩ | ⟨h1, h2, _⟩
  · omega
  · omega
  · exact ⟨h1, h2⟩
section
variable {w : World} {l : List Ev} {la : Option Addr} {lc : Nat}
set_option maxHeartbeats 4000000 in
theorem gEdges_any (hl : Rows w 26 la lc (l.map Ev.cells)) (c : Int) (hc : checkP l c) : Calls Try.prog 8 #[.slice la l.length lc] w fun e w' => ∃ a cap, e = .returned (.tuple #[.slice a (edgR l c).1.length cap, .int .i64 (edgR l c).2]) ∧ Rows w' 4 a cap ((edgR l c).1.map Ed.cells) ∧ Below w.heap.size w w' := by
  have cC := check_any l la lc w hl c hc
  by_cases h0 : c = 0
  · subst h0
    obtain ⟨hn, hr⟩ := check_zero hc
    have cA : ∀ wx, Below w.heap.size w wx → Calls Try.prog 26 #[.slice la l.length lc] wx _ := fun wx q => ahead_any (hl.later q) hn hr
    have cE : ∀ (wx : World) (H : Nat), Below w.heap.size w wx → wx.heap[H]? = some (.cells (boolRow (l.length * 4) (heldF l l.length)) 67) → Calls Try.prog 25 #[.slice la l.length lc, .slice (some ⟨H, 0, none⟩) l.length l.length] wx _ := fun wx H q hH => edges_anyG (hl.later q) hn hr hH
    have hR : edgR l 0 = (edgesL l l.length, 0) := rfl
    rw [hR]
    generalize edgesL l l.length = E at *
    clear hl hc hn hr hR
    go_enter Try.func8, Try.ntmps8
    go_wp2_with (first
      | (go_at_call 24; (with_reducible refine cC.mono ?_); rintro e w1 ⟨rfl, hb⟩; (have hB1 : Hid (Below w.heap.size w w1) := hb); clear hb cC)
      | (go_at_call 26; (with_reducible refine (cA _ hB1.out).mono ?_); rintro e w2 ⟨H, rfl, hH, hb⟩; (have hB2 : Hid (Below w.heap.size w w2 ∧ w2.heap[H]? = some (.cells (boolRow (l.length * 4) (heldF l l.length)) 67)) := ⟨bthen hB1.out hb, hH⟩); clear hb hH cA)
      | (go_at_call 25; (with_reducible refine (cE _ _ hB2.out.1 hB2.out.2).mono ?_); rintro e w3 ⟨a, cap, rfl, hE⟩; (have hB3 : Hid (Below w.heap.size w w3 ∧ Rows w3 4 a cap (E.map Ed.cells)) := ⟨bthen hB2.out.1 hE.b, own_rows hE.o (ed_len E)⟩); clear hE cE))
    go_ret2
    exact ⟨a, cap, rfl, hB3.out.2, hB3.out.1⟩
  · have hcb : (c != 0) = true := by rw [bne_iff_ne]; exact h0
    have hR : edgR l c = ([], c) := by unfold edgR; rw [if_neg h0]
    rw [hR]
    clear hl hc h0 hR
    go_enter Try.func8, Try.ntmps8
    go_wp2_with (first
      | (go_at_call 24; (with_reducible refine cC.mono ?_); rintro e w1 ⟨rfl, hb⟩; (have hB1 : Hid (Below w.heap.size w w1) := hb); clear hb cC))
    go_ret2
    exact ⟨none, 0, rfl, rows_nilG _ _, hB1.out⟩
set_option maxHeartbeats 4000000 in
theorem gHeld_any (hl : Rows w 26 la lc (l.map Ev.cells)) (i c : Int) (hc : checkP l c) : Calls Try.prog 10 #[.slice la l.length lc, .int .i64 i] w fun e w' => ∃ a cap, e = .returned (.tuple #[.slice a (hldR l i c).1.length cap, .int .i64 (hldR l i c).2]) ∧ Rows w' 1 a cap ((asZ (hldR l i c).1).map chCells) ∧ Below w.heap.size w w' := by
  have cC := check_any l la lc w hl c hc
  by_cases h0 : c = 0
  · subst h0
    by_cases hi : 0 ≤ i ∧ i < l.length
    · obtain ⟨hn, hr⟩ := check_zero hc
      have cA : ∀ wx, Below w.heap.size w wx → Calls Try.prog 26 #[.slice la l.length lc] wx _ := fun wx q => ahead_any (hl.later q) hn hr
      obtain ⟨n, rfl⟩ : ∃ n : Nat, i = (n : Int) := ⟨i.toNat, by omega⟩
      have hlt : n < l.length := by omega
      obtain ⟨x, hx, _⟩ := get_lt l n hlt
      have hxH : Hid (l[n]? = some x) := hx
      obtain ⟨f, hf⟩ : ∃ f, hldF l x.go n = f := ⟨_, rfl⟩
      have hR : hldR l (n : Int) 0 = (setN f 4, 0) := by
        unfold hldR
        rw [if_pos rfl, if_pos hi, Int.toNat_natCast, evA_at hx, hf]
      rw [hR]
      have hrow : Hid (∀ (wx : World) (H : Nat), wx.heap[H]? = some (.cells (boolRow (l.length * 4) (heldF l l.length)) 67) → wx.rangeAt H (n * 4) [.bool (f 0), .bool (f 1), .bool (f 2), .bool (f 3)]) := fun wx H hH => by
        have := br_range hH (o := n * 4) (by omega)
        unfold b4 at this
        rw [show n * 4 = n * 4 + 0 by omega] at this
        rw [held_at hxH.out hlt (k := 0) (by omega), hf] at this
        rw [show n * 4 + 0 + 1 = n * 4 + 1 by omega, show n * 4 + 0 + 2 = n * 4 + 2 by omega, show n * 4 + 0 + 3 = n * 4 + 3 by omega, held_at hxH.out hlt (k := 1) (by omega), held_at hxH.out hlt (k := 2) (by omega), held_at hxH.out hlt (k := 3) (by omega), hf] at this
        exact this
      have cL : ∀ wx, Calls Try.prog 28 #[.agg #[.bool (f 0), .bool (f 1), .bool (f 2), .bool (f 3)]] wx fun e w' => ∃ a c, e = .returned (.slice a (setN f 4).length c) ∧ OwnL w' wx.heap.size 3 1 a c ((asZ (setN f 4)).map chCells) ∧ Below wx.heap.size wx w' := fun wx => list_anyS f wx
      have xi : Hid (∀ H wx, (Instr.indexAt 63 (.slice (some ⟨H, 0, none⟩) l.length l.length) (.int .i64 (n : Int))).run Try.prog wx = .ok (.pointer (some ⟨H, n * 4, none⟩)) wx) := fun H => rows_ix_g Try.underlying63 (fun wx => Try.sizeOf67 wx) H l.length l.length n hlt
      have huS : Hid (Try.prog.underlying 67 = _) := Try.underlying67
      generalize setN f 4 = S at *
      generalize f 0 = f0 at *
      generalize f 1 = f1 at *
      generalize f 2 = f2 at *
      generalize f 3 = f3 at *
      have hi1 : ¬ (n : Int) < 0 := by omega
      have hi2 : ¬ (l.length : Int) ≤ n := by omega
      clear hl hc hn hr hR hf hx hi hxH
      go_enter Try.func10, Try.ntmps10
      go_wp2_with (first
        | (go_at_call 24; (with_reducible refine cC.mono ?_); rintro e w1 ⟨rfl, hb⟩; (have hB1 : Hid (Below w.heap.size w w1) := hb); clear hb cC)
        | (go_at_call 26; (with_reducible refine (cA _ hB1.out).mono ?_); rintro e w2 ⟨H, rfl, hH, hb⟩; (have hB2 : Hid (Below w.heap.size w w2 ∧ w2.rangeAt H (n * 4) [.bool f0, .bool f1, .bool f2, .bool f3]) := ⟨bthen hB1.out hb, hrow.out _ _ hH⟩); (have xj := xi.out H); clear hb hH cA)
        | ((with_reducible refine at_loadG 67 _ rfl ?_); refine stopG_out ?_; refine wpList_load_mid rfl 67 _ rfl H (n * 4) rfl [.bool f0, .bool f1, .bool f2, .bool f3] _ hB2.out.2 huS.out rfl infoS4s ?_)
        | (go_at_call 28; (with_reducible refine (cL _).mono ?_); rintro e w4 ⟨sa, sc, rfl, hsa, hb⟩; (have hB4 : Hid (Below w.heap.size w w4 ∧ Rows w4 1 sa sc ((asZ S).map chCells)) := ⟨bthen hB2.out.1 hb, own_rows hsa (asZ_one S)⟩); clear hb hsa))
      go_ret2
      exact ⟨sa, sc, rfl, hB4.out.2, hB4.out.1⟩
    · have hR : hldR l i 0 = ([], 1) := by unfold hldR; rw [if_pos rfl, if_neg hi]
      rw [hR]
      have hlI : (l.length : Int) ≤ 9223372036854775807 := rows_len hl
      clear hl hc hR
      by_cases hi1 : i < 0
      · clear hi
        go_enter Try.func10, Try.ntmps10
        go_wp2_with (first
          | (go_at_call 24; (with_reducible refine cC.mono ?_); rintro e w1 ⟨rfl, hb⟩; (have hB1 : Hid (Below w.heap.size w w1) := hb); clear hb cC))
        go_ret2
        exact ⟨none, 0, rfl, rows_nilG _ _, hB1.out⟩
      · have hi2 : (l.length : Int) ≤ i := by omega
        clear hi
        go_enter Try.func10, Try.ntmps10
        go_wp2_with (first
          | (go_at_call 24; (with_reducible refine cC.mono ?_); rintro e w1 ⟨rfl, hb⟩; (have hB1 : Hid (Below w.heap.size w w1) := hb); clear hb cC))
        go_ret2
        exact ⟨none, 0, rfl, rows_nilG _ _, hB1.out⟩
  · have hcb : (c != 0) = true := by rw [bne_iff_ne]; exact h0
    have hR : hldR l i c = ([], c) := by unfold hldR; rw [if_neg h0]
    rw [hR]
    clear hl hc h0 hR
    go_enter Try.func10, Try.ntmps10
    go_wp2_with (first
      | (go_at_call 24; (with_reducible refine cC.mono ?_); rintro e w1 ⟨rfl, hb⟩; (have hB1 : Hid (Below w.heap.size w w1) := hb); clear hb cC))
    go_ret2
    exact ⟨none, 0, rfl, rows_nilG _ _, hB1.out⟩
end
end Go.Proofs.Ytdfnmlcpimiboaa.pg
/- What is held ahead of an event, in the document's own words. -/
namespace Go.Proofs.Ytdfnmlcpimiboaa.pg
open Go.ChangeShapes Go.WideShapes Go.ChangeAt Go.RowKit
set_option linter.unusedVariables false
set_option linter.unusedSimpArgs false
set_option maxRecDepth 100000
attribute [local go_sem ↓] Go.wp_at_zero Go.wp_at_succ
theorem reg_skipG {P : Program} {ops : Array Oper} {Q : Exit → Act → World → Prop} {S : World → Prop} {fuel : Nat} {listed : Array Bool} {a : Act} {w : World} {i : Nat} {o : Oper} (ho : ops[i]? = some o) (hs : Region.noSelect ops = true) (hf : Region.free .any ops listed i = true) (hr : (Region.ready .any ops listed).contains i = true)
    (hQ : ∀ c v a w, Q (.panic c) (a.put o.dst v) w → Q (.panic c) a w) (hw : Region.wanted o (yielded ops a.tmps) = false) (hSw : S w)
    (h : wpAnyH P .any ops Q S fuel (listed.setIfInBounds i true) (a.put o.dst undef) w) : wpAnyH P .any ops Q S (fuel + 1) listed a w :=
  wpAnyH_take ho hs hf hr (fun c a w => hQ c _ a w) (.inr ⟨hw, rfl⟩) hSw h
theorem zeroB4 : ∀ w, (zeroValue 66).run Try.prog w = .ok (.agg (boolRow 4 fun _ => false)) w := fun w => by kernel_rfl
theorem infoB4 : (Try.prog.info? 66).map (·.size) = some 4 := by kernel_rfl
theorem ix4B (B k : Nat) (hk : k < 4) : ∀ wx, (Instr.indexAt 66 (.pointer (some ⟨B, 0, none⟩)) (.int .i64 (k : Int))).run Try.prog wx = .ok (.pointer (some ⟨B, k, none⟩)) wx := by
  match k, hk with
  | 0, _ => exact fun _ => by kernel_rfl
  | 1, _ => exact fun _ => by kernel_rfl
  | 2, _ => exact fun _ => by kernel_rfl
  | 3, _ => exact fun _ => by kernel_rfl
theorem results_b4 {fn : Func} {p : Tmp} (h : fn.results = #[.cell p 66]) (tmps : Array Value) (w : World) (B : Nat) (f : Nat → Bool) (hp : tmps.getD p undef = .pointer (some ⟨B, 0, none⟩)) (hB : w.heap[B]? = some (.cells (boolRow 4 f) 66)) :
    (results fn tmps).run Try.prog w = .ok (.agg (boolRow 4 f)) w := by
  have hp' : tmps[p]?.getD undef = .pointer (some ⟨B, 0, none⟩) := by simpa using hp
  simp [results, h, hp', asAddr, run_loadVar_row w B _ 66 _ _ _ hB Try.underlying66 rfl (by rw [br_len]; kernel_rfl)]
theorem updH_put {f : Nat → Bool} {x : Ev} {k : Nat} {v : Bool} (hk : lkN x = (k : Int)) (hv : (if tksB x then true else if x.op = 56 then false else f k) = v) : (fun b => if b = k then v else f b) = updH f x := by
  funext b
  unfold updH
  by_cases e : b = k
  · rw [if_pos e, e, if_pos hk, hv]
  · rw [if_neg e, if_neg (by rw [hk]; omega)]
theorem updH_same {f : Nat → Bool} {x : Ev} (h : lkN x < 0 ∨ (tksB x = false ∧ x.op ≠ 56)) : updH f x = f := by
  funext b
  unfold updH
  rcases h with h | ⟨h1, h2⟩
  · rw [if_neg (by omega)]
  · rw [h1, if_neg h2]
    simp
section
variable {w X X' : World} {D4 D5 : Nat} {f : Nat → Bool}
/-- How the document's held stands. -/
structure HdS (w X : World) (D4 D5 : Nat) (f : Nat → Bool) : Prop where
  r : X.heap[D4]? = some (.cells (boolRow 4 fun _ => false) 66)
  o : X.heap[D5]? = some (.cells (boolRow 4 f) 66)
  b : Below w.heap.size w X
  d1 : w.heap.size ≤ D4
  d2 : w.heap.size ≤ D5
  ne : D4 ≠ D5
theorem HdS.later (g : HdS w X D4 D5 f) (hb : Below X.heap.size X X') : HdS w X' D4 D5 f := ⟨blk_onG g.r hb, blk_onG g.o hb, bthen g.b hb, g.d1, g.d2, g.ne⟩
theorem HdS.put (g : HdS w X D4 D5 f) (k : Nat) (v : Bool) : HdS w (X.setCell ⟨D5, k, none⟩ (.bool v)) D4 D5 (fun b => if b = k then v else f b) :=
  ⟨(heap_setCell_other X ⟨D5, k, none⟩ D4 _ g.ne).trans g.r, br_put g.o k v, g.b.setCell (p := ⟨D5, k, none⟩) g.d2 _, g.d1, g.d2, g.ne⟩
end
theorem range_blkG {wx wy : World} {b o : Nat} {cs : List Value} (h : wx.rangeAt b o cs) (e : wy.heap[b]? = wx.heap[b]?) : wy.rangeAt b o cs := fun j v hj => cell_keepG (h j v hj) e
/-- The events lie below what is made later. -/
theorem evs_below {w : World} {l : List Ev} {la : Option Addr} {lc b o i : Nat} {x : Ev} (hl : Rows w 26 la lc (l.map Ev.cells)) (hix : ∀ wx, (Instr.indexAt 22 (.slice la l.length lc) (.int .i64 (i : Int))).run Try.prog wx = .ok (.pointer (some ⟨b, o, none⟩)) wx) (hx : l[i]? = some x) : b < w.heap.size := by
  obtain ⟨b', o', hix', hb', _⟩ := ev_row hl i x hx
  have e := hix w
  rw [hix' w] at e
  simp only [Result.ok.injEq, Value.pointer.injEq, Option.some.injEq, Addr.mk.injEq, and_true] at e
  omega
section
variable {w : World} {l : List Ev} {la : Option Addr} {lc : Nat}
set_option maxHeartbeats 8000000 in
theorem rheld_any (hl : Rows w 26 la lc (l.map Ev.cells)) (hn : l.length ≤ 256) (hr : ∀ x ∈ l, rightP x) {i : Nat} {x : Ev} (hx : l[i]? = some x) : Calls Try.prog 29 #[.slice la l.length lc, .int .i64 (i : Int)] w fun e w' => e = .returned (.agg (boolRow 4 (hldF l x.go i))) ∧ Below w.heap.size w w' := by
  have hlH : Hid (Rows w 26 la lc (l.map Ev.cells)) := hl
  have hrH : Hid (∀ x ∈ l, rightP x) := hr
  have hnI : (l.length : Int) ≤ 256 := by omega
  have hil : i < l.length := (List.getElem?_eq_some_iff.mp hx).1
  have hiI : (i : Int) < 256 := by omega
  have huH : Hid (Try.prog.underlying 55 = _) := Try.underlying55
  have hiH : Hid ((Try.prog.info? 55).map (·.size) = some 26) := infoE26
  have huB : Hid (Try.prog.underlying 66 = _) := Try.underlying66
  obtain ⟨b1, o1, hix1, hbl1, hrg1⟩ := ev_row hl i x hx
  have hxr : Hid (w.rangeAt b1 o1 x.cells ∧ b1 < w.heap.size) := ⟨hrg1, hbl1⟩
  have hilH : Hid (i < l.length) := hil
  have hA0 : Hid (HdS w ((w.alloc (.cells (boolRow 4 fun _ => false) 66)).alloc (.cells (boolRow 4 fun _ => false) 66)) w.heap.size (w.heap.size + 1) (hldF l x.go 0)) := by
    have n2 := heap_alloc_new (w.alloc (.cells (boolRow 4 fun _ => false) 66)) (.cells (boolRow 4 fun _ => false) 66)
    rw [World.size_alloc] at n2
    exact ⟨blk_onG (heap_alloc_new _ _) (boxed _ _), n2, bthen (boxed _ _) (boxed _ _), Nat.le_refl _, by omega, by omega⟩
  clear hl hr hrg1 hbl1 hx hil
  go_enter Try.func29, Try.ntmps29
  go_upto_region 2 with (first
    | ((with_reducible refine at_allocG 66 rfl ?_); refine stopG_out ?_; refine wpList_alloc_big rfl 66 rfl zeroB4 ?_))
  simp only [Act.put, List.getElem_toArray, List.getElem_cons_succ, List.getElem_cons_zero, List.setIfInBounds_toArray, List.set_cons_zero, List.set_cons_succ, World.size_alloc]
  obtain ⟨D5, hD5⟩ : ∃ D, w.heap.size + 1 = D := ⟨_, rfl⟩
  obtain ⟨D4, hD4⟩ : ∃ D, w.heap.size = D := ⟨_, rfl⟩
  rw [hD5, hD4] at hA0
  rw [hD5, hD4]
  clear hD5 hD4
  generalize (w.alloc (.cells (boolRow 4 fun _ => false) 66)).alloc (.cells (boolRow 4 fun _ => false) 66) = X0 at *
  go_wp2_with fail
  go_loopw [6] (fun u wr => ∃ j : Nat, j ≤ i ∧ u = .int .i64 (j : Int) ∧ Hid (HdS w wr D4 D5 (hldF l x.go j))) (fun u _ => i - (intOf u).toNat)
  case atStart => exact ⟨0, Nat.zero_le _, rfl, hA0⟩
  case round =>
    obtain ⟨j, hj, rfl, hA⟩ := hrel
    clear hA0
    by_cases hlt : j < i
    · have hjI : (j : Int) < i := by omega
      obtain ⟨y, hy, hym⟩ := get_lt l j (by have := hilH.out; omega)
      obtain ⟨b0, o0, hix, hbl, hrg⟩ := ev_row (hlH.out.later hA.out.b) j y hy
      have hrH' : Hid (wr.rangeAt b0 o0 y.cells) := hrg
      have hyp : Hid (rightP y) := hrH.out y hym
      have hstp : Hid (hldF l x.go (j + 1) = if y.go = x.go then updH (hldF l x.go j) y else hldF l x.go j) := hldF_step hy
      have hbl' : Hid (b0 < wr.heap.size ∧ b0 ≠ D5) := ⟨hbl, fun q => by
        have := evs_below hlH.out hix hy
        have := hA.out.d2
        omega⟩
      have cO := fun wx => rlock_any y wx hyp.out.1.2.2.1 hyp.out.1.2.2.2
      clear hrg hbl hy hym
      go_upto_region 6 with (first
        | (refine wpList_load_mid rfl 55 _ rfl b0 o0 rfl y.cells _ hrH'.out huH.out rfl hiH.out ?_)
        | (go_at_call 46; (with_reducible refine (cO _).mono ?_); rintro e W3 ⟨rfl, hb⟩; (have hA3 : Hid (HdS w W3 D4 D5 (hldF l x.go j)) := hA.out.later hb); (have hyr : Hid (W3.rangeAt b0 o0 y.cells ∧ b0 ≠ D5) := ⟨range_blkG hrH'.out (hb.block _ hbl'.out.1), hbl'.out.2⟩); (have hxr3 : Hid (W3.rangeAt b1 o1 x.cells) := range_blkG hxr.out.1 (hA3.out.b.block _ hxr.out.2)); (have hlt3 : Hid (b0 < W3.heap.size ∧ b1 < W3.heap.size) := ⟨Nat.lt_of_lt_of_le hbl'.out.1 hb.size, Nat.lt_of_lt_of_le hxr.out.2 hA3.out.b.size⟩); clear hb hA hrH' hbl' cO))
      have hS : Hid (Below W3.heap.size W3 W3.drew) := bey_drew W3
      have hRd : Hid (∀ w', Below W3.heap.size W3 w' → w'.rangeAt b0 o0 y.cells ∧ w'.rangeAt b1 o1 x.cells) := fun w' z => ⟨range_blkG hyr.out.1 (z.block _ hlt3.out.1), range_blkG hxr3.out (z.block _ hlt3.out.2)⟩
      refine wp_region_noPanic ?_
      refine wp_region_held_drew (S := fun w' => Below W3.heap.size W3 w') (by kernel_rfl) hS.out (fun _ => ?_)
      refine reg_move (i := 0) rfl (by kernel_rfl) (by kernel_rfl) (by kernel_rfl) (fun _ _ _ _ h => h) rfl (.slice la l.length lc) (fun _ => rfl) hS.out ?_
      simp only [Act.put, List.getElem_toArray, List.getElem_cons_succ, List.getElem_cons_zero, List.setIfInBounds_toArray, List.set_cons_zero, List.set_cons_succ]
      refine reg_move (i := 1) rfl (by kernel_rfl) (by kernel_rfl) (by kernel_rfl) (fun _ _ _ _ h => h) rfl (.int .i64 (j : Int)) (fun _ => rfl) hS.out ?_
      simp only [Act.put, List.getElem_toArray, List.getElem_cons_succ, List.getElem_cons_zero, List.setIfInBounds_toArray, List.set_cons_zero, List.set_cons_succ]
      refine reg_move (i := 2) rfl (by kernel_rfl) (by kernel_rfl) (by kernel_rfl) (fun _ _ _ _ h => h) rfl (.pointer (some ⟨b0, o0, none⟩)) (fun wx => by unfold execOp; exact run_value_of (hix wx)) hS.out ?_
      simp only [Act.put, List.getElem_toArray, List.getElem_cons_succ, List.getElem_cons_zero, List.setIfInBounds_toArray, List.set_cons_zero, List.set_cons_succ]
      refine reg_move (i := 3) rfl (by kernel_rfl) (by kernel_rfl) (by kernel_rfl) (fun _ _ _ _ h => h) rfl (.pointer (some ⟨b0, o0 + 0, none⟩)) (fun _ => rfl) hS.out ?_
      simp only [Act.put, List.getElem_toArray, List.getElem_cons_succ, List.getElem_cons_zero, List.setIfInBounds_toArray, List.set_cons_zero, List.set_cons_succ]
      refine reg_load1 (i := 4) rfl (by kernel_rfl) (by kernel_rfl) (by kernel_rfl) (fun _ _ _ _ h => h) rfl 3 _ rfl ⟨b0, o0 + 0, none⟩ rfl _ Try.underlying3 rfl (.int .i64 y.go) (fun w' z => (hRd.out w' z).1 0 _ rfl) hS.out ?_
      simp only [Act.put, List.getElem_toArray, List.getElem_cons_succ, List.getElem_cons_zero, List.setIfInBounds_toArray, List.set_cons_zero, List.set_cons_succ]
      refine reg_move (i := 5) rfl (by kernel_rfl) (by kernel_rfl) (by kernel_rfl) (fun _ _ _ _ h => h) rfl (.slice la l.length lc) (fun _ => rfl) hS.out ?_
      simp only [Act.put, List.getElem_toArray, List.getElem_cons_succ, List.getElem_cons_zero, List.setIfInBounds_toArray, List.set_cons_zero, List.set_cons_succ]
      refine reg_move (i := 6) rfl (by kernel_rfl) (by kernel_rfl) (by kernel_rfl) (fun _ _ _ _ h => h) rfl (.int .i64 (i : Int)) (fun _ => rfl) hS.out ?_
      simp only [Act.put, List.getElem_toArray, List.getElem_cons_succ, List.getElem_cons_zero, List.setIfInBounds_toArray, List.set_cons_zero, List.set_cons_succ]
      refine reg_move (i := 7) rfl (by kernel_rfl) (by kernel_rfl) (by kernel_rfl) (fun _ _ _ _ h => h) rfl (.pointer (some ⟨b1, o1, none⟩)) (fun wx => by unfold execOp; exact run_value_of (hix1 wx)) hS.out ?_
      simp only [Act.put, List.getElem_toArray, List.getElem_cons_succ, List.getElem_cons_zero, List.setIfInBounds_toArray, List.set_cons_zero, List.set_cons_succ]
      refine reg_move (i := 8) rfl (by kernel_rfl) (by kernel_rfl) (by kernel_rfl) (fun _ _ _ _ h => h) rfl (.pointer (some ⟨b1, o1 + 0, none⟩)) (fun _ => rfl) hS.out ?_
      simp only [Act.put, List.getElem_toArray, List.getElem_cons_succ, List.getElem_cons_zero, List.setIfInBounds_toArray, List.set_cons_zero, List.set_cons_succ]
      refine reg_load1 (i := 9) rfl (by kernel_rfl) (by kernel_rfl) (by kernel_rfl) (fun _ _ _ _ h => h) rfl 3 _ rfl ⟨b1, o1 + 0, none⟩ rfl _ Try.underlying3 rfl (.int .i64 x.go) (fun w' z => (hRd.out w' z).2 0 _ rfl) hS.out ?_
      simp only [Act.put, List.getElem_toArray, List.getElem_cons_succ, List.getElem_cons_zero, List.setIfInBounds_toArray, List.set_cons_zero, List.set_cons_succ]
      refine reg_move (i := 10) rfl (by kernel_rfl) (by kernel_rfl) (by kernel_rfl) (fun _ _ _ _ h => h) rfl (.bool (y.go != x.go)) (fun _ => rfl) hS.out ?_
      simp only [Act.put, List.getElem_toArray, List.getElem_cons_succ, List.getElem_cons_zero, List.setIfInBounds_toArray, List.set_cons_zero, List.set_cons_succ]
      cases hne : (y.go != x.go) with
      | true =>
        refine reg_move (i := 11) rfl (by kernel_rfl) (by kernel_rfl) (by kernel_rfl) (fun _ _ _ _ h => h) rfl (.bool true) (fun _ => rfl) hS.out ?_
        simp only [Act.put, List.getElem_toArray, List.getElem_cons_succ, List.getElem_cons_zero, List.setIfInBounds_toArray, List.set_cons_zero, List.set_cons_succ]
        refine reg_skipG (i := 12) rfl (by kernel_rfl) (by kernel_rfl) (by kernel_rfl) (fun _ _ _ _ h => h) rfl hS.out ?_
        simp only [Act.put, List.getElem_toArray, List.getElem_cons_succ, List.getElem_cons_zero, List.setIfInBounds_toArray, List.set_cons_zero, List.set_cons_succ]
        refine reg_skipG (i := 13) rfl (by kernel_rfl) (by kernel_rfl) (by kernel_rfl) (fun _ _ _ _ h => h) rfl hS.out ?_
        simp only [Act.put, List.getElem_toArray, List.getElem_cons_succ, List.getElem_cons_zero, List.setIfInBounds_toArray, List.set_cons_zero, List.set_cons_succ]
        refine reg_move (i := 14) rfl (by kernel_rfl) (by kernel_rfl) (by kernel_rfl) (fun _ _ _ _ h => h) rfl (.bool true) (fun _ => rfl) hS.out ?_
        simp only [Act.put, List.getElem_toArray, List.getElem_cons_succ, List.getElem_cons_zero, List.setIfInBounds_toArray, List.set_cons_zero, List.set_cons_succ]
        refine wpAnyH_done (by kernel_rfl) (NoPanic.normal ?_) _
        have hA5 : Hid (HdS w W3.drew D4 D5 (hldF l x.go (j + 1))) := by
          rw [hstp.out, if_neg (by rw [bne_iff_ne] at hne; exact hne)]
          exact hA3.out.later hS.out
        clear hRd hS hA3
        go_wp2
        go_roundw
        case rel => exact ⟨j + 1, by omega, by go_num, hA5.out⟩
        case measure => simp [intOf]; omega
      | false =>
        refine reg_move (i := 11) rfl (by kernel_rfl) (by kernel_rfl) (by kernel_rfl) (fun _ _ _ _ h => h) rfl (.bool false) (fun _ => rfl) hS.out ?_
        simp only [Act.put, List.getElem_toArray, List.getElem_cons_succ, List.getElem_cons_zero, List.setIfInBounds_toArray, List.set_cons_zero, List.set_cons_succ]
        refine reg_move (i := 12) rfl (by kernel_rfl) (by kernel_rfl) (by kernel_rfl) (fun _ _ _ _ h => h) rfl (.int .i64 (lkN y)) (fun _ => rfl) hS.out ?_
        simp only [Act.put, List.getElem_toArray, List.getElem_cons_succ, List.getElem_cons_zero, List.setIfInBounds_toArray, List.set_cons_zero, List.set_cons_succ]
        refine reg_move (i := 13) rfl (by kernel_rfl) (by kernel_rfl) (by kernel_rfl) (fun _ _ _ _ h => h) rfl (.bool (decide (lkN y < 0))) (fun _ => rfl) hS.out ?_
        simp only [Act.put, List.getElem_toArray, List.getElem_cons_succ, List.getElem_cons_zero, List.setIfInBounds_toArray, List.set_cons_zero, List.set_cons_succ]
        refine reg_move (i := 14) rfl (by kernel_rfl) (by kernel_rfl) (by kernel_rfl) (fun _ _ _ _ h => h) rfl (.bool (decide (lkN y < 0))) (fun _ => rfl) hS.out ?_
        simp only [Act.put, List.getElem_toArray, List.getElem_cons_succ, List.getElem_cons_zero, List.setIfInBounds_toArray, List.set_cons_zero, List.set_cons_succ]
        refine wpAnyH_done (by kernel_rfl) (NoPanic.normal ?_) _
        have hgo : y.go = x.go := by
          rw [bne_eq_false_iff_eq] at hne
          exact hne
        rw [if_pos hgo] at hstp
        have hA4 : Hid (HdS w W3.drew D4 D5 (hldF l x.go j)) := hA3.out.later hS.out
        have hyr4 : Hid (W3.drew.rangeAt b0 o0 y.cells ∧ b0 ≠ D5) := ⟨(hRd.out _ hS.out).1, hyr.out.2⟩
        clear hRd hS hA3 hyr hxr3 hlt3 hne hgo
        have hA3 := hA4
        have hyr := hyr4
        clear hA4 hyr4
        generalize W3.drew = W4 at *
        by_cases hl0 : lkN y < 0
        · have hlb : decide (lkN y < 0) = true := decide_eq_true hl0
          have hA5 : Hid (HdS w W4 D4 D5 (hldF l x.go (j + 1))) := by
            rw [hstp.out, updH_same (.inl hl0)]
            exact hA3.out
          rw [hlb]
          go_wp2
          go_roundw
          case rel => exact ⟨j + 1, by omega, by go_num, hA5.out⟩
          case measure => simp [intOf]; omega
        · have hlb : decide (lkN y < 0) = false := decide_eq_false hl0
          rw [hlb]
          obtain ⟨k, hk4, hkn⟩ : ∃ k : Nat, k < 4 ∧ lkN y = (k : Int) := by
            rcases lk_right hyp.out with q | ⟨q1, q2⟩
            · omega
            · exact ⟨(lkN y).toNat, by omega, by omega⟩
          have hkk : Hid (lkN y = (k : Int)) := hkn
          rw [hkn]
          have xk := ix4B D5 k hk4
          have ck : W4.cell? ⟨D5, k, none⟩ = some (.bool (hldF l x.go j k)) := br_cell hA3.out.o hk4
          have fk : W4.frozen? ⟨D5, k, none⟩ = false := frozen_of_row _ _ _ _ _ hA3.out.o
          have k3 : W4.cell? ⟨b0, o0 + 3, none⟩ = some (.int .i64 y.op) := hyr.out.1 3 _ rfl
          have k5 : W4.cell? ⟨b0, o0 + 5, none⟩ = some (.int .i64 y.vl) := hyr.out.1 5 _ rfl
          clear hl0 hlb hkn
          cases o55 : (y.op == 55) with
          | true =>
            have o56 : (y.op == 56) = false := by (have := beq_iff_eq.mp o55; rw [this]; rfl)
            have hvv : Hid ((if tksB y then true else if y.op = 56 then false else hldF l x.go j k) = true) := by (show _ = _; unfold tksB; simp [o55])
            go_wp2_with (first
              | ((with_reducible refine at_storeG 4 _ _ rfl ?_); refine stopG_out ?_; refine wpList_putb rfl 4 _ _ rfl ⟨D5, k, none⟩ rfl true rfl (by kernel_rfl) _ ck fk fun W5 hW5 => ?_; (have hA5 : Hid (HdS w W5 D4 D5 (hldF l x.go (j + 1))) := (by rw [hW5, hstp.out, ← updH_put hkk.out hvv.out]; exact hA3.out.put k _)); (have e0 : W5.cell? ⟨b0, o0 + 3, none⟩ = some (.int .i64 y.op) := range_blkG hyr.out.1 (by rw [hW5]; exact heap_setCell_other _ ⟨D5, k, none⟩ b0 _ hyr.out.2) 3 _ rfl); clear hW5 ck fk k3 k5))
            go_roundw
            case rel => exact ⟨j + 1, by omega, by go_num, hA5.out⟩
            case measure => simp [intOf]; omega
          | false =>
            cases o57 : (y.op == 57) with
            | true =>
              have o56 : (y.op == 56) = false := by (have := beq_iff_eq.mp o57; rw [this]; rfl)
              cases v1 : (y.vl == 1) with
              | true =>
                have hvv : Hid ((if tksB y then true else if y.op = 56 then false else hldF l x.go j k) = true) := by (show _ = _; unfold tksB; simp [o57, v1])
                go_wp2_with (first
                  | ((with_reducible refine at_storeG 4 _ _ rfl ?_); refine stopG_out ?_; refine wpList_putb rfl 4 _ _ rfl ⟨D5, k, none⟩ rfl true rfl (by kernel_rfl) _ ck fk fun W5 hW5 => ?_; (have hA5 : Hid (HdS w W5 D4 D5 (hldF l x.go (j + 1))) := (by rw [hW5, hstp.out, ← updH_put hkk.out hvv.out]; exact hA3.out.put k _)); (have e0 : W5.cell? ⟨b0, o0 + 3, none⟩ = some (.int .i64 y.op) := range_blkG hyr.out.1 (by rw [hW5]; exact heap_setCell_other _ ⟨D5, k, none⟩ b0 _ hyr.out.2) 3 _ rfl); clear hW5 ck fk k3 k5))
                go_roundw
                case rel => exact ⟨j + 1, by omega, by go_num, hA5.out⟩
                case measure => simp [intOf]; omega
              | false =>
                have hA5 : Hid (HdS w W4 D4 D5 (hldF l x.go (j + 1))) := by
                  rw [hstp.out, updH_same (.inr ⟨by unfold tksB; rw [o55, o57, v1]; rfl, beq_eq_false_iff_ne.mp o56⟩)]
                  exact hA3.out
                go_wp2
                go_roundw
                case rel => exact ⟨j + 1, by omega, by go_num, hA5.out⟩
                case measure => simp [intOf]; omega
            | false =>
              cases o56 : (y.op == 56) with
              | true =>
                have hvv : Hid ((if tksB y then true else if y.op = 56 then false else hldF l x.go j k) = false) := by (show _ = _; rw [beq_iff_eq] at o56; unfold tksB; rw [o55, o57]; simp [o56])
                go_wp2_with (first
                  | ((with_reducible refine at_storeG 4 _ _ rfl ?_); refine stopG_out ?_; refine wpList_putb rfl 4 _ _ rfl ⟨D5, k, none⟩ rfl false rfl (by kernel_rfl) _ ck fk fun W5 hW5 => ?_; (have hA5 : Hid (HdS w W5 D4 D5 (hldF l x.go (j + 1))) := (by rw [hW5, hstp.out, ← updH_put hkk.out hvv.out]; exact hA3.out.put k _)); (have e0 : W5.cell? ⟨b0, o0 + 3, none⟩ = some (.int .i64 y.op) := range_blkG hyr.out.1 (by rw [hW5]; exact heap_setCell_other _ ⟨D5, k, none⟩ b0 _ hyr.out.2) 3 _ rfl); clear hW5 ck fk k3 k5))
                go_roundw
                case rel => exact ⟨j + 1, by omega, by go_num, hA5.out⟩
                case measure => simp [intOf]; omega
              | false =>
                have hA5 : Hid (HdS w W4 D4 D5 (hldF l x.go (j + 1))) := by
                  rw [hstp.out, updH_same (.inr ⟨by unfold tksB; rw [o55, o57]; rfl, beq_eq_false_iff_ne.mp o56⟩)]
                  exact hA3.out
                go_wp2
                go_roundw
                case rel => exact ⟨j + 1, by omega, by go_num, hA5.out⟩
                case measure => simp [intOf]; omega
    · have hje : j = i := by omega
      have hjI : ¬ (j : Int) < i := by omega
      have hA9 : Hid (HdS w wr D4 D5 (hldF l x.go i)) := by (rw [← hje]; exact hA.out)
      clear hA
      go_wp2_with (first
        | ((with_reducible refine at_loadG 66 _ rfl ?_); refine stopG_out ?_; refine wpList_load_row rfl 66 _ rfl D5 rfl _ _ _ _ hA9.out.o huB.out rfl (by rw [br_len]; exact infoB4) ?_)
        | ((with_reducible refine at_storeG 66 _ _ rfl ?_); refine stopG_out ?_; refine wpList_store_row rfl 66 _ _ rfl D4 (boolRow 4 (hldF l x.go i)) rfl rfl _ _ hA9.out.r (by rw [br_len]; exact infoB4) (by rw [br_len, br_len]) (by simp [boolRow, Value.oneCell']) ?_))
      exact bodyPost_ret (results_b4 Try.results29 _ _ D4 (hldF l x.go i) rfl (setRow_heap _ _ _ _ _ _ hA9.out.r)) rfl ⟨rfl, below_setRow hA9.out.b hA9.out.d1 _⟩
end
end Go.Proofs.Ytdfnmlcpimiboaa.pg
/- Edges and Held, in the document's own words. -/
namespace Go.Proofs.Ytdfnmlcpimiboaa.pg
open Go.ChangeShapes Go.WideShapes Go.ChangeAt Go.RowKit
set_option linter.unusedVariables false
set_option linter.unusedSimpArgs false
set_option maxRecDepth 100000
attribute [local go_sem ↓] Go.wp_at_zero Go.wp_at_succ
theorem ix4R (f : Nat → Bool) (k : Nat) (hk : k < 4) : ∀ wx, (Instr.index 66 (.agg (boolRow 4 f)) (.int .i64 (k : Int))).run Try.prog wx = .ok (.bool (f k)) wx := by
  match k, hk with
  | 0, _ => exact fun _ => by kernel_rfl
  | 1, _ => exact fun _ => by kernel_rfl
  | 2, _ => exact fun _ => by kernel_rfl
  | 3, _ => exact fun _ => by kernel_rfl
theorem eL_nat {f : Nat → Bool} (j : Nat) (lk go : Int) (i : Nat) : eL (setN f (j + 1)) lk go i = eL (setN f j) lk go i ++ (if f j = true ∧ (j : Int) ≠ lk then [⟨(j : Int), lk, go, (i : Int)⟩] else []) := by
  rw [setN_step]
  cases hf : f j with
  | false => rw [if_neg (by simp), if_neg (by simp), List.append_nil]
  | true =>
    rw [if_pos rfl]
    unfold eL
    rw [List.filter_append, List.map_append]
    congr 1
    by_cases e : (j : Int) = lk
    · rw [if_neg (by rintro ⟨_, q⟩; exact q e)]; simp [e]
    · rw [if_pos ⟨rfl, e⟩]
      have : ((j : Int) != lk) = true := by rw [bne_iff_ne]; exact e
      simp [this]
section
variable {w : World} {l : List Ev} {la : Option Addr} {lc : Nat}
set_option maxHeartbeats 8000000 in
theorem rHeld_any (hl : Rows w 26 la lc (l.map Ev.cells)) (i c : Int) (hc : checkP l c) : Calls Try.prog 11 #[.slice la l.length lc, .int .i64 i] w fun e w' => ∃ a cap, e = .returned (.tuple #[.slice a (hldR l i c).1.length cap, .int .i64 (hldR l i c).2]) ∧ Rows w' 1 a cap ((asZ (hldR l i c).1).map chCells) ∧ Below w.heap.size w w' := by
  have cC := rcheck_any l la lc w hl c hc
  by_cases h0 : c = 0
  · subst h0
    by_cases hi : 0 ≤ i ∧ i < l.length
    · obtain ⟨hn, hr⟩ := check_zero hc
      obtain ⟨n, rfl⟩ : ∃ n : Nat, i = (n : Int) := ⟨i.toNat, by omega⟩
      have hlt : n < l.length := by omega
      obtain ⟨x, hx, _⟩ := get_lt l n hlt
      have hR : hldR l (n : Int) 0 = (setN (hldF l x.go n) 4, 0) := by
        unfold hldR
        rw [if_pos rfl, if_pos hi, Int.toNat_natCast, evA_at hx]
      have cH : ∀ wx, Below w.heap.size w wx → Calls Try.prog 29 #[.slice la l.length lc, .int .i64 (n : Int)] wx _ := fun wx q => rheld_any (hl.later q) hn hr hx
      rw [hR]
      generalize hldF l x.go n = f at *
      obtain ⟨iN, hiN', hzN', hsN', hbN'⟩ := info_q infoNlG
      have hiN : Hid (Try.prog.info? 3 = some iN) := hiN'
      have hzN : Hid _ := hzN'
      have hsN : Hid _ := hsN'
      have hbN : Hid _ := hbN'
      clear hiN' hzN' hsN' hbN'
      have hi1 : ¬ (n : Int) < 0 := by omega
      have hi2 : ¬ (l.length : Int) ≤ n := by omega
      clear hl hc hn hr hR hx hi
      go_enter Try.func11, Try.ntmps11
      go_wp2_with (first
        | (go_at_call 21; (with_reducible refine cC.mono ?_); rintro e w1 ⟨rfl, hb⟩; (have hB1 : Hid (Below w.heap.size w w1) := hb); clear hb cC)
        | (go_at_call 29; (with_reducible refine (cH _ hB1.out).mono ?_); rintro e w2 ⟨rfl, hb⟩; (have hB2 : Hid (Below w.heap.size w w2) := bthen hB1.out hb); clear hb cH))
      go_loopw [7, 26] (fun u7 u wr => ∃ (k : Nat) (a : Option Addr) (c : Nat), k ≤ 4 ∧ u = .int .i64 (k : Int) ∧ u7 = .slice a (setN f k).length c ∧ Hid (OwnL wr w.heap.size 3 1 a c ((asZ (setN f k)).map chCells) ∧ Below w.heap.size w wr)) (fun _ u _ => 4 - (intOf u).toNat)
      case atStart => exact ⟨0, none, 0, Nat.zero_le _, rfl, rfl, own_nil_q _ _ _ _, hB2.out⟩
      case round =>
        obtain ⟨k, a, c, hk, rfl, rfl, hst⟩ := hrel
        by_cases hlt : k < 4
        · have hkI : (k : Int) < 4 := by omega
          have xk := ix4R f k hlt
          have hstp : Hid (setN f (k + 1) = if f k then setN f k ++ [k] else setN f k) := setN_step f k
          have hln : Hid ((setN f k).length ≤ 4) := by have := setN_len f k; show _ ≤ _; omega
          obtain ⟨b, hb⟩ : ∃ b, f k = b := ⟨_, rfl⟩
          rw [hb] at xk hstp
          clear hb
          generalize setN f k = L at *
          cases b with
          | false =>
            go_wp2
            go_roundw
            case rel => exact ⟨k + 1, a, c, by omega, by go_num, by (rw [hstp.out]; rfl), by (rw [hstp.out]; exact hst.out)⟩
            case measure => simp [intOf]; omega
          | true =>
            go_wp2_with (first
              | (refine wpList_buildSlice rfl 29 3 1 _ rfl (chCells (k : Int)).toArray iN _ Try.underlying29 hiN.out hzN.out (by rw [hsN.out]; omega) (by rw [hsN.out]; omega) (by simp only [hsN.out]; kernel_rfl) ?_)
              | (at_builtin; (refine wpList_app1 rfl (.tmp 31) (.tmp 33) 29 rfl w.heap.size 3 iN _ 1 8 Try.underlying29 hiN.out hzN.out hsN.out hbN.out rfl (by decide) a c ((asZ L).map chCells) (by rw [List.length_map, List.length_map]; rfl) hst.out.1 (chCells (k : Int)) rfl rfl (by simp [chCells, Value.oneCell']) (by rw [List.length_map, List.length_map]; have := hln.out; unfold maxLen; omega) (by rw [List.length_map, List.length_map]; have := hln.out; omega) hst.out.2.size ?_); intro va vc Z3 hgr; rw [List.length_map, List.length_map]))
            have hF : Hid (OwnL Z3 w.heap.size 3 1 va vc ((asZ (L ++ [k])).map chCells) ∧ Below w.heap.size w Z3) := by
              refine ⟨by (have := hgr.ow; unfold asZ; rw [List.map_append, List.map_append]; exact this), ?_⟩
              have := hgr.be
              rw [Nat.min_eq_left hst.out.2.size] at this
              exact hst.out.2.trans this
            go_roundw
            case rel => exact ⟨k + 1, va, vc, by omega, by go_num, by (rw [hstp.out, if_pos rfl, List.length_append, List.length_singleton]), by (rw [hstp.out, if_pos rfl]; exact hF.out)⟩
            case measure => simp [intOf]; omega
        · have hke : k = 4 := by omega
          subst hke
          go_wp2
          go_ret2
          exact ⟨a, c, rfl, own_rows hst.out.1 (asZ_one _), hst.out.2⟩
    · have hR : hldR l i 0 = ([], 1) := by unfold hldR; rw [if_pos rfl, if_neg hi]
      rw [hR]
      have hlI : (l.length : Int) ≤ 9223372036854775807 := rows_len hl
      clear hl hc hR
      by_cases hi1 : i < 0
      · clear hi
        go_enter Try.func11, Try.ntmps11
        go_wp2_with (first
          | (go_at_call 21; (with_reducible refine cC.mono ?_); rintro e w1 ⟨rfl, hb⟩; (have hB1 : Hid (Below w.heap.size w w1) := hb); clear hb cC))
        go_ret2
        exact ⟨none, 0, rfl, rows_nilG _ _, hB1.out⟩
      · have hi2 : (l.length : Int) ≤ i := by omega
        clear hi
        go_enter Try.func11, Try.ntmps11
        go_wp2_with (first
          | (go_at_call 21; (with_reducible refine cC.mono ?_); rintro e w1 ⟨rfl, hb⟩; (have hB1 : Hid (Below w.heap.size w w1) := hb); clear hb cC))
        go_ret2
        exact ⟨none, 0, rfl, rows_nilG _ _, hB1.out⟩
  · have hcb : (c != 0) = true := by rw [bne_iff_ne]; exact h0
    have hR : hldR l i c = ([], c) := by unfold hldR; rw [if_neg h0]
    rw [hR]
    clear hl hc h0 hR
    go_enter Try.func11, Try.ntmps11
    go_wp2_with (first
      | (go_at_call 21; (with_reducible refine cC.mono ?_); rintro e w1 ⟨rfl, hb⟩; (have hB1 : Hid (Below w.heap.size w w1) := hb); clear hb cC))
    go_ret2
    exact ⟨none, 0, rfl, rows_nilG _ _, hB1.out⟩
set_option maxHeartbeats 8000000 in
theorem redges_anyG (hl : Rows w 26 la lc (l.map Ev.cells)) (hn : l.length ≤ 256) (hr : ∀ x ∈ l, rightP x) : Calls Try.prog 27 #[.slice la l.length lc] w fun e w' => ∃ a c, e = .returned (.slice a (edgesL l l.length).length c) ∧ EdS w w' (edgesL l l.length) a c := by
  have hlH : Hid (Rows w 26 la lc (l.map Ev.cells)) := hl
  have hrH : Hid (∀ x ∈ l, rightP x) := hr
  have hnH : Hid (l.length ≤ 256) := hn
  have hnI : (l.length : Int) ≤ 256 := by omega
  have huH : Hid (Try.prog.underlying 55 = _) := Try.underlying55
  have hiH : Hid ((Try.prog.info? 55).map (·.size) = some 26) := infoE26
  obtain ⟨iE, hiE', hzE', hsE', hbE'⟩ := info_q infoEdG
  have hiE : Hid (Try.prog.info? 71 = some iE) := hiE'
  have hzE : Hid _ := hzE'
  have hsE : Hid _ := hsE'
  have hbE : Hid _ := hbE'
  have h0 : Hid (EdS w w [] none 0) := ⟨own_nil_q _ _ _ _, Below.refl _ _⟩
  clear hl hr hiE' hzE' hsE' hbE'
  go_enter Try.func27, Try.ntmps27
  go_wp2_with fail
  go_loopw [3, 10] (fun u3 u wr => ∃ i : Nat, i ≤ l.length ∧ u = .int .i64 (i : Int) ∧ ∃ (a : Option Addr) (E : List Ed) (c : Nat), u3 = .slice a E.length c ∧ Hid (EdS w wr E a c) ∧ Hid (E = edgesL l i)) (fun _ u _ => l.length - (intOf u).toNat)
  case atStart => exact ⟨0, Nat.zero_le _, rfl, none, [], 0, rfl, h0.out, rfl⟩
  case round =>
    obtain ⟨i, hi, rfl, a, E, c, rfl, hst, hE⟩ := hrel
    clear h0
    by_cases hlt : i < l.length
    · have hiI : (i : Int) < l.length := by omega
      obtain ⟨x, hx, hxm⟩ := get_lt l i hlt
      have hxH : Hid (l[i]? = some x) := hx
      obtain ⟨b0, o0, hix, hbl, hrg⟩ := ev_row (hlH.out.later hst.out.b) i x hx
      have hrH' : Hid (wr.rangeAt b0 o0 x.cells ∧ b0 < wr.heap.size) := ⟨hrg, hbl⟩
      have hxr : Hid (rightP x) := hrH.out x hxm
      have cO := fun wx => rlock_any x wx hxr.out.1.2.2.1 hxr.out.1.2.2.2
      clear hrg hbl hx hxm
      go_upto_region 6 with (first
        | (refine wpList_load_mid rfl 55 _ rfl b0 o0 rfl x.cells _ hrH'.out.1 huH.out rfl hiH.out ?_)
        | (go_at_call 46; (with_reducible refine (cO _).mono ?_); rintro e W3 ⟨rfl, hb⟩; (have hst3 : Hid (EdS w W3 E a c) := hst.out.later hb); (have k3 : W3.cell? ⟨b0, o0 + 3, none⟩ = some (.int .i64 x.op) := (range_blkG hrH'.out.1 (hb.block _ hrH'.out.2)) 3 _ rfl); clear hb hst hrH' cO))
      cases o55 : (x.op == 55) with
      | false =>
        have o5 : (x.op != 55) = true := by rw [bne, o55]; rfl
        have hoff : Hid (edgeAt l i = []) := edgeAt_off hxH.out (.inl (beq_eq_false_iff_ne.mp o55))
        have hE2 : Hid (E = edgesL l (i + 1)) := by (show _ = _; rw [edgesL_step, hoff.out, List.append_nil]; exact hE.out)
        go_wp2
        go_roundw
        case rel => exact ⟨i + 1, by omega, by go_num, a, E, c, rfl, hst3.out, hE2.out⟩
        case measure => simp [intOf]; omega
      | true =>
        have o5 : (x.op != 55) = false := by rw [bne, o55]; rfl
        by_cases hl0 : lkN x < 0
        · have hoff : Hid (edgeAt l i = []) := edgeAt_off hxH.out (.inr hl0)
          obtain ⟨k, hk⟩ : ∃ k, lkN x = k := ⟨_, rfl⟩
          rw [hk] at hl0 ⊢
          clear hk
          have hE2 : Hid (E = edgesL l (i + 1)) := by (show _ = _; rw [edgesL_step, hoff.out, List.append_nil]; exact hE.out)
          go_wp2
          go_roundw
          case rel => exact ⟨i + 1, by omega, by go_num, a, E, c, rfl, hst3.out, hE2.out⟩
          case measure => simp [intOf]; omega
        · have hat : Hid (edgeAt l i = eL (setN (hldF l x.go i) 4) (lkN x) x.go i) := edgeAt_on hxH.out (beq_iff_eq.mp o55) (by omega)
          have cH : ∀ wx, Below w.heap.size w wx → Calls Try.prog 29 #[.slice la l.length lc, .int .i64 (i : Int)] wx _ := fun wx q => rheld_any (hlH.out.later q) hnH.out hrH.out hxH.out
          obtain ⟨f, hf⟩ : ∃ f, hldF l x.go i = f := ⟨_, rfl⟩
          obtain ⟨k, hk⟩ : ∃ k, lkN x = k := ⟨_, rfl⟩
          rw [hk] at hl0 hat ⊢
          rw [hf] at hat cH
          clear hk hf
          go_wp2_with (first
            | (go_at_call 29; (with_reducible refine (cH _ hst3.out.b).mono ?_); rintro e W4 ⟨rfl, hb⟩; (have hI : Hid (EdS w W4 E a c) := hst3.out.later hb); clear hb cH))
          clear hst3 k3 hix
          go_loopw [3, 31] (fun u3 u wq => ∃ j : Nat, j ≤ 4 ∧ u = .int .i64 (j : Int) ∧ ∃ (a' : Option Addr) (E' : List Ed) (c' : Nat), u3 = .slice a' E'.length c' ∧ Hid (EdS w wq E' a' c') ∧ Hid (E' = edgesL l i ++ eL (setN f j) k x.go i)) (fun _ u _ => 4 - (intOf u).toNat)
          case atStart => exact ⟨0, Nat.zero_le _, rfl, a, E, c, rfl, hI.out, by (show _ = _; rw [hE.out]; unfold eL setN; simp)⟩
          case round =>
            obtain ⟨j, hj, rfl, a', E', c', rfl, hq, hE'⟩ := hrel
            clear hI hE
            by_cases hlj : j < 4
            · have hjI : (j : Int) < 4 := by omega
              have xk := ix4R f j hlj
              have hst : Hid (eL (setN f (j + 1)) k x.go i = eL (setN f j) k x.go i ++ (if f j = true ∧ (j : Int) ≠ k then [⟨(j : Int), k, x.go, (i : Int)⟩] else [])) := eL_nat j k x.go i
              have hel : Hid (E'.length ≤ 1028) := by
                have h1 := edgesL_len l i
                have h2 : (eL (setN f j) k x.go i).length ≤ 4 := by
                  unfold eL
                  rw [List.length_map]
                  refine Nat.le_trans (List.length_filter_le _ _) ?_
                  have := setN_len f j
                  omega
                show _ ≤ _
                rw [hE'.out, List.length_append]
                omega
              obtain ⟨b2, o2, hix2, _, hrg2⟩ := ev_row (hlH.out.later hq.out.b) i x hxH.out
              have k0 : wr.cell? ⟨b2, o2, none⟩ = some (.int .i64 x.go) := hrg2 0 _ rfl
              clear hrg2
              obtain ⟨b, hb⟩ : ∃ b, f j = b := ⟨_, rfl⟩
              rw [hb] at xk hst
              clear hb
              cases b with
              | false =>
                have hE2 : Hid (E' = edgesL l i ++ eL (setN f (j + 1)) k x.go i) := by (show _ = _; rw [hst.out, if_neg (by simp), List.append_nil]; exact hE'.out)
                clear hst
                go_wp2
                go_roundw
                case rel => exact ⟨j + 1, by omega, by go_num, a', E', c', rfl, hq.out, hE2.out⟩
                case measure => simp [intOf]; omega
              | true =>
                by_cases e : (j : Int) = k
                · have eb : ((j : Int) != k) = false := by rw [e]; simp
                  have hE2 : Hid (E' = edgesL l i ++ eL (setN f (j + 1)) k x.go i) := by (show _ = _; rw [hst.out, if_neg (fun z => z.2 e), List.append_nil]; exact hE'.out)
                  clear e hst
                  go_wp2
                  go_roundw
                  case rel => exact ⟨j + 1, by omega, by go_num, a', E', c', rfl, hq.out, hE2.out⟩
                  case measure => simp [intOf]; omega
                · have eb : ((j : Int) != k) = true := by rw [bne_iff_ne]; exact e
                  have hE2 : Hid (E' ++ [⟨(j : Int), k, x.go, (i : Int)⟩] = edgesL l i ++ eL (setN f (j + 1)) k x.go i) := by (show _ = _; rw [hst.out, if_pos ⟨rfl, e⟩, ← List.append_assoc, ← hE'.out])
                  clear e hst
                  go_wp2_with (first
                    | ((with_reducible refine at_buildG 71 _ rfl ?_); refine stopG_out ?_; refine wpList_bldG rfl 71 _ rfl #[(0, .int .i64 (j : Int)), (1, .int .i64 k), (2, .int .i64 x.go), (3, .int .i64 (i : Int))] (by simp only [List.map_toArray, List.map_cons, List.map_nil]; rfl) _ (bld_ed _ _ _ _) ?_)
                    | (refine wpList_buildSlice rfl 23 71 1 _ rfl #[.int .i64 (j : Int), .int .i64 k, .int .i64 x.go, .int .i64 (i : Int)] iE _ Try.underlying23 hiE.out hzE.out (by rw [hsE.out]; omega) (by rw [hsE.out]; omega) (by simp only [hsE.out]; kernel_rfl) ?_)
                    | (at_builtin; (refine wpList_app1 rfl (.tmp 41) (.tmp 51) 23 rfl w.heap.size 71 iE _ 4 32 Try.underlying23 hiE.out hzE.out hsE.out hbE.out rfl (by decide) a' c' (E'.map Ed.cells) (by rw [List.length_map]; rfl) hq.out.o [.int .i64 (j : Int), .int .i64 k, .int .i64 x.go, .int .i64 (i : Int)] rfl rfl (by simp [Value.oneCell']) (by rw [List.length_map]; have := hel.out; unfold maxLen; omega) (by rw [List.length_map]; have := hel.out; omega) hq.out.b.size ?_); intro va vc Z3 hgr; rw [List.length_map]))
                  have hF : Hid (EdS w Z3 (E' ++ [(⟨(j : Int), k, x.go, (i : Int)⟩ : Ed)]) va vc) := ⟨by rw [List.map_append]; exact hgr.ow, by
                    have := hgr.be
                    rw [Nat.min_eq_left hq.out.b.size] at this
                    exact hq.out.b.trans this⟩
                  clear hgr
                  go_roundw
                  case rel => exact ⟨j + 1, by omega, by go_num, va, E' ++ [(⟨(j : Int), k, x.go, (i : Int)⟩ : Ed)], vc, by rw [List.length_append, List.length_singleton], hF.out, hE2.out⟩
                  case measure => simp [intOf]; omega
            · have hje : j = 4 := by omega
              subst hje
              have hE2 : Hid (E' = edgesL l (i + 1)) := by
                show _ = _
                rw [hE'.out, edgesL_step, hat.out]
              go_wp2
              go_roundw
              case rel => exact ⟨i + 1, by omega, by go_num, a', E', c', rfl, hq.out, hE2.out⟩
              case measure => simp [intOf]; omega
    · have hie : i = l.length := by omega
      have hiI : ¬ (i : Int) < l.length := by omega
      rw [hie] at hE
      have hEe := hE.out
      subst hEe
      go_wp2
      go_ret
      exact ⟨a, c, rfl, hst.out⟩
set_option maxHeartbeats 4000000 in
theorem rEdges_any (hl : Rows w 26 la lc (l.map Ev.cells)) (c : Int) (hc : checkP l c) : Calls Try.prog 9 #[.slice la l.length lc] w fun e w' => ∃ a cap, e = .returned (.tuple #[.slice a (edgR l c).1.length cap, .int .i64 (edgR l c).2]) ∧ Rows w' 4 a cap ((edgR l c).1.map Ed.cells) ∧ Below w.heap.size w w' := by
  have cC := rcheck_any l la lc w hl c hc
  by_cases h0 : c = 0
  · subst h0
    obtain ⟨hn, hr⟩ := check_zero hc
    have cE : ∀ (wx : World), Below w.heap.size w wx → Calls Try.prog 27 #[.slice la l.length lc] wx _ := fun wx q => redges_anyG (hl.later q) hn hr
    have hR : edgR l 0 = (edgesL l l.length, 0) := rfl
    rw [hR]
    generalize edgesL l l.length = E at *
    clear hl hc hn hr hR
    go_enter Try.func9, Try.ntmps9
    go_wp2_with (first
      | (go_at_call 21; (with_reducible refine cC.mono ?_); rintro e w1 ⟨rfl, hb⟩; (have hB1 : Hid (Below w.heap.size w w1) := hb); clear hb cC)
      | (go_at_call 27; (with_reducible refine (cE _ hB1.out).mono ?_); rintro e w3 ⟨a, cap, rfl, hE⟩; (have hB3 : Hid (Below w.heap.size w w3 ∧ Rows w3 4 a cap (E.map Ed.cells)) := ⟨bthen hB1.out hE.b, own_rows hE.o (ed_len E)⟩); clear hE cE))
    go_ret2
    exact ⟨a, cap, rfl, hB3.out.2, hB3.out.1⟩
  · have hcb : (c != 0) = true := by rw [bne_iff_ne]; exact h0
    have hR : edgR l c = ([], c) := by unfold edgR; rw [if_neg h0]
    rw [hR]
    clear hl hc h0 hR
    go_enter Try.func9, Try.ntmps9
    go_wp2_with (first
      | (go_at_call 21; (with_reducible refine cC.mono ?_); rintro e w1 ⟨rfl, hb⟩; (have hB1 : Hid (Below w.heap.size w w1) := hb); clear hb cC))
    go_ret2
    exact ⟨none, 0, rfl, rows_nilG _ _, hB1.out⟩
end
end Go.Proofs.Ytdfnmlcpimiboaa.pg
