/- A new list of a given length, its elements of one cell each. -/
import Derived.Test.YtafefnkgdnmjbaaGreatDoorM4
import Derived.Laws.OwnMore
import Derived.Laws.MakeOwn
import Derived.OwnWalk
import Derived.Test.YtafefnkgdnmjbaaGreatDoorM15
namespace Go.Proofs.YtafefnkgdnmjbaaGreatDoor.pg
open Go.ChangeShapes Go.WideShapes Go.ChangeAt Go.RowKit
set_option linter.unusedVariables false
theorem wpList_mk {P : Program} (w : World) {ops : Array Oper} {rest : List Oper} {o : Oper} {a : Act} {Q : Exit → Act → World → Prop}
    (hg : o.guard = none) (l c : Operand) (t : TypeId) (hop : o.op = Op.makeSlice t l c)
    (e : TypeId) (i : TypeInfo) (z : Value) (h1 : P.underlying t = some (.slice e)) (h2 : P.info? e = some i) (h3 : i.zero = some z) (hz : z.cells = #[z]) (h4 : i.size = 1)
    (n : Nat) (hl : a.eval l = .int .i64 (n : Int)) (hc : a.eval c = .int .i64 (n : Int)) (b2 : i.bytes * n ≤ 281474976710656) (b3 : n ≤ 9223372036854775807)
    (hK : ∀ w', w'.heap[w.heap.size]? = some (.cells (List.replicate n z).toArray e (0, 0)) → Below w.heap.size w w' → w'.heap.size = w.heap.size + 1 → wpList P ops Q rest (a.put o.dst (.slice (some ⟨w.heap.size, 0, none⟩) n n)) w') :
    wpList P ops Q (o :: rest) a w := by
  refine wpList_plain hg fun K hK' => ?_
  have b2' : (i.bytes : Int) * (n : Int) ≤ 281474976710656 := by
    have h : ((i.bytes * n : Nat) : Int) ≤ 281474976710656 := by omega
    rwa [Int.natCast_mul] at h
  have hrun := run_make (P := P) w t e i z h1 h2 h3 .i64 .i64 (n : Int) (n : Int) (by omega) (by omega) b2' (by omega)
  rw [hz, h4, Nat.mul_one, Int.toNat_natCast] at hrun
  unfold Oper.wp
  simp [execOp, hop, hl, hc, hrun, Result.andThen]
  refine hK' _ _ (hK _ ?_ ((Below.refl _ w).alloc (Nat.le_refl _) _) (by simp))
  rw [heap_new_q]
  congr 2
  apply Array.ext'
  rw [toList_madeCells_one]
end Go.Proofs.YtafefnkgdnmjbaaGreatDoor.pg
/- Whether events are a trace, by the document's own; the events that touch an object. -/
namespace Go.Proofs.YtafefnkgdnmjbaaGreatDoor.pg
open Go.ChangeShapes Go.WideShapes Go.ChangeAt Go.RowKit
set_option linter.unusedVariables false
set_option linter.unusedSimpArgs false
set_option maxRecDepth 100000
attribute [local go_sem ↓] Go.wp_at_zero Go.wp_at_succ
set_option maxHeartbeats 1000000 in
theorem rcheck_any (l : List Ev) (la : Option Addr) (lc : Nat) (w : World) (hl : Rows w 26 la lc (l.map Ev.cells)) (c : Int) (hc : Hid (checkP l c)) : Calls Tryz.prog 10 #[.slice la l.length lc] w fun e w' => e = .returned (.int .i64 c) ∧ Below w.heap.size w w' := by
  have hlI := rows_len hl
  have hlH : Hid (Rows w 26 la lc (l.map Ev.cells)) := hl
  clear hl
  by_cases hlong : 256 < l.length
  · have hcc : c = 2 := by rcases hc.out with ⟨_, q⟩ | ⟨q, _⟩ | ⟨q, _⟩ <;> omega
    have hI : (256 : Int) < l.length := by omega
    subst hcc
    go_enter Tryz.func10, Tryz.ntmps10
    go_wp2
    go_ret
    exact ⟨rfl, Below.refl _ _⟩
  · have hI : ¬ (256 : Int) < l.length := by omega
    have huH : Hid (Tryz.prog.underlying 69 = _) := Tryz.underlying69
    have hiH : Hid ((Tryz.prog.info? 69).map (·.size) = some 26) := infoE26
    go_enter Tryz.func10, Tryz.ntmps10
    go_wp2
    go_loopw [3] (fun u wr => ∃ k : Nat, k ≤ l.length ∧ u = .int .i64 k ∧ Below w.heap.size w wr ∧ Hid (∀ x ∈ l.take k, rightP x)) (fun u _ => l.length - (intOf u).toNat)
    case atStart => exact ⟨0, Nat.zero_le _, rfl, Below.refl _ _, fun x hx => by simp at hx⟩
    case round =>
      obtain ⟨k, hk, rfl, hb2, hok⟩ := hrel
      by_cases hlt : k < l.length
      · obtain ⟨x, hx, hxm⟩ := get_lt l k hlt
        obtain ⟨b0, o0, hix, hbl, hrg⟩ := ev_row (hlH.out.later hb2) k x hx
        have hrH : Hid (wr.rangeAt b0 o0 x.cells) := hrg
        have hkI : (k : Int) < l.length := by omega
        clear hrg
        by_cases e : rightP x
        · have c1 : ∀ wx, Calls Tryz.prog 40 #[.agg x.cells.toArray] wx _ := fun wx => rright_any x wx true ⟨fun _ => e, fun _ => rfl⟩
          have hok2 : Hid (∀ x ∈ l.take (k + 1), rightP x) := fun z hz => by
            rw [take_one l k x hx, List.mem_append, List.mem_singleton] at hz
            rcases hz with hz | rfl
            · exact hok.out z hz
            · exact e
          clear e
          go_wp2_with (first
            | (refine wpList_load_mid rfl 69 _ rfl b0 o0 rfl x.cells _ hrH.out huH.out rfl hiH.out ?_)
            | (go_at_call 40; (with_reducible refine (c1 _).mono ?_); rintro e w1 ⟨rfl, hb1⟩))
          go_roundw
          case rel => exact ⟨k + 1, by omega, by go_num, bthen hb2 hb1, hok2⟩
          case measure => simp [intOf]; omega
        · have c1 : ∀ wx, Calls Tryz.prog 40 #[.agg x.cells.toArray] wx _ := fun wx => rright_any x wx false ⟨(fun q => by cases q), fun q => absurd q e⟩
          have hcc : Hid (c = 7) := by
            rcases hc.out with ⟨q, _⟩ | ⟨_, _, q⟩ | ⟨_, q, _⟩
            · omega
            · exact q
            · exact absurd (q x hxm) e
          clear e
          go_wp2_with (first
            | (refine wpList_load_mid rfl 69 _ rfl b0 o0 rfl x.cells _ hrH.out huH.out rfl hiH.out ?_)
            | (go_at_call 40; (with_reducible refine (c1 _).mono ?_); rintro e w1 ⟨rfl, hb1⟩))
          go_ret
          exact ⟨by rw [hcc.out]; rfl, bthen hb2 hb1⟩
      · have hk2 : k = l.length := by omega
        subst hk2
        rw [List.take_length] at hok
        have hcc : Hid (c = 0) := by
          rcases hc.out with ⟨q, _⟩ | ⟨_, ⟨x, hx, q⟩, _⟩ | ⟨_, _, q⟩
          · omega
          · exact absurd (hok.out x hx) q
          · exact q
        go_wp2
        go_ret
        exact ⟨by rw [hcc.out]; rfl, hb2⟩
/-- Whether an event touches an object. -/
def tch (x : Ev) (k n : Int) : Bool := x.of.any fun a => a.kind == k && a.num == n
/-- The places of the first j events that touch an object. -/
def usersTo (l : List Ev) (k n : Int) : Nat → List Int
  | 0 => []
  | j + 1 => usersTo l k n j ++ (match l[j]? with | some x => if tch x k n then [(j : Int)] else [] | none => [])
theorem users_len (l : List Ev) (k n : Int) (j : Nat) : (usersTo l k n j).length ≤ j := by
  induction j with
  | zero => exact Nat.le_refl _
  | succ j ih =>
    unfold usersTo
    rw [List.length_append]
    have : (match l[j]? with | some x => if tch x k n then [(j : Int)] else [] | none => []).length ≤ 1 := by
      split
      · split <;> simp
      · simp
    omega
theorem users_yes {l : List Ev} {k n : Int} {j : Nat} {x : Ev} (hx : l[j]? = some x) (h : tch x k n = true) : usersTo l k n (j + 1) = usersTo l k n j ++ [(j : Int)] := by
  conv => lhs; unfold usersTo
  rw [hx]; simp [h]
theorem users_no {l : List Ev} {k n : Int} {j : Nat} {x : Ev} (hx : l[j]? = some x) (h : tch x k n = false) : usersTo l k n (j + 1) = usersTo l k n j := by
  conv => lhs; unfold usersTo
  rw [hx]; simp [h]
theorem infoN_u : (Tryz.prog.info? 3).map (fun i => (i.zero, i.size, i.bytes)) = some (some (.int .i64 0), 1, 8) := by kernel_rfl
theorem one1u (x : Int) : ∀ u ∈ chCells x, u.oneCell' = true := by intro u hu; simp [chCells] at hu; subst hu; rfl
theorem len1u (l : List Int) : ∀ row ∈ l.map chCells, row.length = 1 := by intro r hr; simp only [List.mem_map] at hr; obtain ⟨x, _, rfl⟩ := hr; rfl
/-- How far Users has come. -/
structure USt (w : World) (l : List Ev) (kd nm : Int) (j : Nat) (va : Option Addr) (vc : Nat) (wr : World) : Prop where
  be : Below w.heap.size w wr
  ow : OwnL wr w.heap.size 3 1 va vc ((usersTo l kd nm j).map chCells)
theorem USt.later {w : World} {l : List Ev} {kd nm : Int} {j : Nat} {va : Option Addr} {vc : Nat} {wr w' : World} (h : USt w l kd nm j va vc wr) (hb : Below wr.heap.size wr w') : USt w l kd nm j va vc w' :=
  ⟨bthen h.be hb, own_keep h.ow fun b hb' => hb.block b (blk_lt h.ow b hb').2⟩
/-- One goes ahead of another one by the order of accesses, and so on. -/
theorem bef_trans {a b c : Acc} (h1 : bef a b = true) (h2 : bef b c = true) : bef a c = true := by
  simp only [bef, decide_eq_true_eq] at *
  omega
theorem bef_far {l : List Acc} {N : Nat} (h : ∀ i, i < N → okA l i) (hl : N ≤ l.length) : ∀ (d i : Nat) (a b : Acc), i + d + 1 < N → l[i]? = some a → l[i + d + 1]? = some b → bef a b = true
  | 0, i, a, b, hi, ha, hb => (h (i + 0 + 1) hi b hb).2 (by omega) a (by simpa using ha)
  | d + 1, i, a, b, hi, ha, hb => by
    obtain ⟨c, hc, _⟩ := get_lt l (i + d + 1) (by omega)
    have h1 := bef_far h hl d i a c (by omega) ha hc
    have h2 := (h (i + (d + 1) + 1) hi b hb).2 (by omega) c (by rw [show i + (d + 1) + 1 - 1 = i + d + 1 by omega]; exact hc)
    exact bef_trans h1 h2
theorem right_uniq {x : Ev} (hx : rightP x) {i j : Nat} {a b : Acc} (hij : i < j) (ha : x.of[i]? = some a) (hb : x.of[j]? = some b) (h1 : a.kind = b.kind) (h2 : a.num = b.num) : False := by
  have hj := (List.getElem?_eq_some_iff.mp hb).1
  rw [Ev.of_len] at hj
  have h6 := tN_le x.n
  rw [of_at (by omega)] at ha
  rw [of_at hj] at hb
  have := bef_far hx.2.1 (show tN x.n ≤ x.list.length from h6) (j - i - 1) i a b (by omega) ha (by rw [show i + (j - i - 1) + 1 = j by omega]; exact hb)
  simp only [bef, decide_eq_true_eq] at this
  omega
/-- How far the document's own has come within an event. -/
structure RUSt (w wr : World) (x : Ev) (ta : Option Addr) (tc : Nat) (l : List Ev) (kd nm : Int) (j m : Nat) (F : Bool) (va : Option Addr) (vc : Nat) (wq : World) : Prop where
  be : Below w.heap.size w wq
  ow : OwnL wq w.heap.size 3 1 va vc ((usersTo l kd nm j ++ if F then [(j : Int)] else []).map chCells)
  ot : OwnL wq wr.heap.size 66 3 ta tc (x.of.map Acc.cells)
  lt : F = false → ∀ b ∈ blk va, b < wr.heap.size
  fd : F = true ↔ ∃ a ∈ x.of.take m, (a.kind == kd && a.num == nm) = true
end Go.Proofs.YtafefnkgdnmjbaaGreatDoor.pg
/- look of package order. -/
namespace Go.Proofs.YtafefnkgdnmjbaaGreatDoor.pg
open Go.ChangeShapes Go.WideShapes Go.ChangeAt Go.RowKit Go.Shelf
set_option linter.unusedVariables false
set_option linter.unusedSimpArgs false
set_option maxRecDepth 100000
attribute [local go_sem ↓] Go.wp_at_zero Go.wp_at_succ
def evf (l : List Ev) (i : Nat) : Ev := l.getD i ev0
theorem evf_at {l : List Ev} {i : Nat} (h : i < l.length) : l[i]? = some (evf l i) := by
  unfold evf
  rw [List.getD_eq_getElem?_getD, List.getElem?_eq_getElem h]
  rfl
theorem rows_take {w : World} {k : Nat} {a : Option Addr} {cap : Nat} {L : List (List Value)} (h : Rows w k a cap L) (n : Nat) : Rows w k a cap (L.take n) := by
  obtain ⟨h1, h2, h3, h4⟩ := h
  refine ⟨by rw [List.length_take]; omega, h2, fun q => ⟨by rw [(h3 q).1]; simp, (h3 q).2⟩, ?_⟩
  rcases h4 with rfl | ⟨b, off, ha, hlt, hc⟩
  · left; simp
  · refine .inr ⟨b, off, ha, hlt, fun i row hi => hc i row ?_⟩
    rw [List.getElem?_take] at hi
    split at hi
    · exact hi
    · cases hi
theorem ck_row {w : World} {lo : Nat} {a : Option Addr} {cap : Nat} {C : List Ck} (h : OwnL w lo 114 6 a cap (C.map Ck.cells)) (i : Nat) (x : Ck) (hi : C[i]? = some x) :
    ∃ b o, (∀ wx, (Instr.indexAt 104 (.slice a C.length cap) (.int .i64 (i : Int))).run Tryz.prog wx = .ok (.pointer (some ⟨b, o, none⟩)) wx) ∧ b ∈ blk a ∧ w.rangeAt b o x.cells := by
  have hr : Rows w 6 a cap (C.map Ck.cells) := own_rows h fun row hm => by rw [List.mem_map] at hm; obtain ⟨y, _, rfl⟩ := hm; rfl
  obtain ⟨b0, off, ha, hlt, hc⟩ := hr.row (i := i) (row := x.cells) (by simp [hi])
  obtain ⟨b, o, h1, h2, h3⟩ := hr.ix 104 114 Tryz.underlying104 (by kernel_rfl) (fun wx => Tryz.sizeOf114 wx) i (row := x.cells) (by simp [hi])
  rw [List.length_map] at h1
  refine ⟨b, o, h1, ?_, h3⟩
  have hil : i < C.length := (List.getElem?_eq_some_iff.mp hi).1
  have : b = b0 := by
    have h5 := h1 w
    subst ha
    have u := Tryz.underlying104
    have z := Tryz.sizeOf114
    have q1 : (i : Int) < C.length := by omega
    have q2 : ¬ (i : Int) < 0 := by omega
    simp [Instr.indexAt, run_underlying u, asIntOf, go_sem, z, q1, q2, hil] at h5
    exact h5.1.symm
  rw [this, ha]
  simp [blk]
/-- How far look has come. -/
structure LSt (w : World) (l : List Ev) (la : Option Addr) (lc R j : Nat) (ca : Option Addr) (cc : Nat) (da : Option Addr) (dc : Nat) (wr : World) : Prop where
  rl : wr.heap[R]? = some (objR la l.length lc ca j cc da (rel (evf l) j).2.length dc)
  ck : OwnL wr w.heap.size 114 6 ca cc ((rel (evf l) j).1.map Ck.cells)
  ed : OwnL wr w.heap.size 71 2 da dc ((rel (evf l) j).2.map edg)
  n1 : ∀ b ∈ blk ca, b ≠ R ∧ b ∉ blk da ∧ w.heap.size < b
  n2 : ∀ b ∈ blk da, b ≠ R ∧ w.heap.size < b
  be : Below w.heap.size w wr
  rs : ∃ o : Array Value, o.size = 3 ∧ wr.heap[w.heap.size]? = some (.cells o 138)
  hR : w.heap.size < R
theorem add_look (w : World) (l : List Ev) (la : Option Addr) (lc R j : Nat) (ca : Option Addr) (cc : Nat) (da : Option Addr) (dc : Nat) (wr : World) (hl : Rows w 26 la lc (l.map Ev.cells)) (h : LSt w l la lc R j ca cc da dc wr) (hlen : l.length ≤ 256) (hrt : ∀ x ∈ l, rightP x) (hj : j < l.length) :
    Calls Tryz.prog 112 #[.pointer (some ⟨R, 0, none⟩), .int .i64 (j : Int)] wr fun e w' => (∃ v, e = .returned v) ∧ ∃ ca' cc' da' dc', LSt w l la lc R (j + 1) ca' cc' da' dc' w' := by
  have hRw : R < wr.heap.size := (Array.getElem?_eq_some_iff.mp h.rl).1
  have hlR := h.hR
  have rl := rel_len (evf l) j
  have go6 : ∀ i, i < l.length → 0 ≤ (evf l i).go ∧ (evf l i).go < 6 := fun i hi => by
    have := (hrt _ (List.mem_of_getElem? (evf_at hi))).1
    exact ⟨this.1, this.2.1⟩
  have cki : ∀ i, i < j → (rel (evf l) j).1[i]? = some (ckf (evf l) j i) := fun i hi => by
    unfold ckf
    rw [List.getD_eq_getElem?_getD, List.getElem?_eq_getElem (by omega)]
    rfl
  have up : ∀ i, i < j → (ckf (evf l) j i).upto j := fun i hi => rel_upto (evf l) j (fun i hi => by have := go6 i (by omega); omega) _ (List.mem_of_getElem? (cki i hi))
  have hcap : l.length ≤ lc ∧ lc ≤ 9223372036854775807 := ⟨by have := hl.1; rwa [List.length_map] at this, hl.2.1⟩
  have hgood : Ctx.Good { w := wr, n₀ := w.heap.size, R := R, ea := la, en := l.length, ec := lc, ca := ca, cn := j, cc := cc, da := da, j := j } := ⟨hRw, by show w.heap.size ≤ R; omega, fun b hb => ⟨(blk_lt h.ed b hb).2, (blk_lt h.ed b hb).1⟩, fun q => (h.n2 R q).1 rfl, fun b hb => ⟨(blk_lt h.ck b hb).2, (h.n1 b hb).1, (h.n1 b hb).2.1⟩⟩
  have hlies : Ctx.Lies { w := wr, n₀ := w.heap.size, R := R, ea := la, en := l.length, ec := lc, ca := ca, cn := j, cc := cc, da := da, j := j } (evf l) (ckf (evf l) j) := by
    refine ⟨fun i hi => ?_, ?_, fun i hi => ?_, fun i hi => go6 i (by have : i ≤ j := hi; omega), fun i hi => upto_ok (up i hi) (by show (j : Int) ≤ 1073741824; omega)⟩
    · have h2 := rows_take hl j
      rw [← List.map_take] at h2
      obtain ⟨b, o, q1, q2, q3⟩ := ev_row h2 i (evf l i) (by rw [List.getElem?_take, if_pos hi]; exact evf_at (by have : i < j := hi; omega))
      rw [List.length_take, Nat.min_eq_left (by omega)] at q1
      exact ⟨b, o, q1, q2, range_block q3 (h.be.block b q2)⟩
    · obtain ⟨b, o, q1, q2, q3⟩ := ev_row hl j (evf l j) (evf_at hj)
      exact ⟨b, o, q1, q2, range_block q3 (h.be.block b q2)⟩
    · have q := ck_row h.ck i _ (cki i hi)
      rw [rl] at q
      exact q
  refine (add_any _ hgood (evf l) (ckf (evf l) j) (rel (evf l) j).2 dc (by show j < 256; omega) hj hcap.1 hcap.2 h.rl h.ed hlies (by have := rel_edges (evf l) j (by omega); omega) (rel (evf l) j).1 rl.symm (by omega) h.ck (tk (told (evf l) (ckf (evf l) j) j (dn j j)).1 (evf l j).go.toNat) ?_).mono ?_
  · have g := go6 j hj
    have := tick_is (g := (evf l j).go.toNat) (told_upto (evf l) (ckf (evf l) j) j j (by omega) up j (dn j j) (dn_len (Nat.le_refl _))) (by omega) (by omega)
    rw [Int.toNat_of_nonneg g.1] at this
    exact this
  · rintro e w' ⟨hv, ca', cc', da', dc', a1, a2, a3, a4, a5, a6, a7⟩
    have hz := h.be.size
    obtain ⟨o, ho, hrs⟩ := h.rs
    have hlt : w.heap.size < wr.heap.size := (Array.getElem?_eq_some_iff.mp hrs).1
    refine ⟨hv, ca', cc', da', dc', ⟨?_, a2, a3, ?_, ?_, h.be.trans a7, ⟨o, ho, ?_⟩, h.hR⟩⟩
    · rw [List.length_append, List.length_singleton, rl] at a1
      exact a1
    · intro b hb
      obtain ⟨q1, q2⟩ := a4 b hb
      rcases q1 with q1 | q1
      · exact ⟨(h.n1 b q1).1, q2, (h.n1 b q1).2.2⟩
      · have q1' : wr.heap.size ≤ b := q1
        exact ⟨by omega, q2, by omega⟩
    · intro b hb
      rcases a5 b hb with q1 | q1
      · exact h.n2 b q1
      · have q1' : wr.heap.size ≤ b := q1
        exact ⟨by omega, by omega⟩
    · rw [a6 w.heap.size hlt (by show w.heap.size ≠ R; omega) (fun q => by have := (h.n1 _ q).2.2; omega) (fun q => by have := (h.n2 _ q).2; omega)]
      exact hrs
end Go.Proofs.YtafefnkgdnmjbaaGreatDoor.pg
