/- The reader of package code in memory: a select, a list of them. -/
import Derived.Test.YtonkcnaijcpfdaaGreatDoorM18
import Derived.Test.YtonkcnaijcpfdaaGreatDoorM12
namespace Go.Proofs.YtonkcnaijcpfdaaGreatDoor.pg
open Go.ChangeShapes Go.WideShapes Go.ChangeAt Go.RowKit
set_option linter.unusedVariables false
set_option linter.unusedSimpArgs false
set_option maxRecDepth 100000
theorem tag_own {w : World} {lo e k : Nat} {a : Option Addr} {cap : Nat} {L : List (List Value)} (h : OwnL w lo e k a cap L) {b : Nat} (hb : b ∈ blk a) : ∃ cur, w.heap[b]? = some (Obj.cells cur e (0, 0)) := by
  rcases h.2 with ⟨q, _⟩ | ⟨g', cap', cur, q, _, hg', _⟩
  · simp only [Value.slice.injEq] at q; rw [q.1] at hb; simp [blk] at hb
  · simp only [Value.slice.injEq] at q
    rw [q.1] at hb
    simp only [blk, List.mem_singleton] at hb
    subst hb
    exact ⟨cur, hg'⟩
theorem own_mono {w : World} {lo lo' e k : Nat} {a : Option Addr} {cap : Nat} {L : List (List Value)} (h : OwnL w lo e k a cap L) (hl : lo' ≤ lo) : OwnL w lo' e k a cap L :=
  ⟨h.1, h.2.imp_right fun ⟨g, cap', cur, q, hb, hr⟩ => ⟨g, cap', cur, q, Nat.le_trans hl hb, hr⟩⟩
/-- What a select owns that was read. -/
def MSel.own (w : World) (lo : Nat) (s : MSel) : Prop := OwnL w lo 101 4 s.at_ s.cap (s.cases.map Cas.cells)
theorem MSel.own.keep {w w' : World} {lo : Nat} {s : MSel} (h : s.own w lo) (hk : ∀ b ∈ blk s.at_, w'.heap[b]? = w.heap[b]?) : s.own w' lo := own_keep h hk
theorem MSel.own.mono {w : World} {lo lo' : Nat} {s : MSel} (h : s.own w lo) (hl : lo' ≤ lo) : s.own w lo' := own_mono h hl
theorem MSel.own.tag {w : World} {lo : Nat} {s : MSel} (h : s.own w lo) (b : Nat) (hb : b ∈ blk s.at_) : ∃ cur t, w.heap[b]? = some (Obj.cells cur t (0, 0)) ∧ t ≠ 59 ∧ lo ≤ b := by
  obtain ⟨cur, hc⟩ := tag_own h hb
  exact ⟨cur, _, hc, by decide, (blk_lt h b hb).1⟩
abbrev objS0 : Obj := .cells #[.slice none 0 0, .int .i64 0] 59
theorem rdSel_eq (f : Nat → Nat) (n : Nat) (s : RS) : rdSel f n s = (⟨(rdList f n 4 (rdCas f n) s).1, (rdNum f n (rdList f n 4 (rdCas f n) s).2).1 - 1⟩, (rdNum f n (rdList f n 4 (rdCas f n) s).2).2) := rfl
section
variable {w w' : World} {r q bc n : Nat} {ba : Option Addr} {f : Nat → Nat} {s : RS}
set_option maxHeartbeats 4000000 in
theorem choice_r (h : RdS w r q ba bc n f s) : Calls Tryz.prog 98 #[.pointer (some ⟨r, 0, none⟩)] w fun e w' => ∃ m : MSel, e = .returned m.val ∧ m.sel = (rdSel f n s).1 ∧ m.own w' w.heap.size ∧ RdS w' r q ba bc n f (rdSel f n s).2 ∧ Fr r q w w' := by
  have a0 := two_first w objS0 objS0
  have a1 := two_second w objS0 objS0
  have hz := two_size w objS0 objS0
  have far0 := h.far _ (Nat.le_refl _)
  have far1 : w.heap.size + 1 ≠ r ∧ w.heap.size + 1 ≠ q ∧ w.heap.size + 1 ∉ blk ba := h.far _ (Nat.le_succ _)
  have hF0 : Fr r q w ((w.alloc objS0).alloc objS0) := Fr.of (boxed2 w _ _)
  have h0 := h.later (boxed2 w objS0 objS0)
  have c1 : Calls Tryz.prog 118 #[.pointer (some ⟨r, 0, none⟩), .int .u64 4, .func (.func 119) #[.pointer (some ⟨r, 0, none⟩)] #[]] ((w.alloc objS0).alloc objS0) _ := list_Case h0 4 (by decide) (by decide)
  have c2 : ∀ wx, RdS wx r q ba bc n f (rdList f n 4 (rdCas f n) s).2 → Calls Tryz.prog 66 #[.pointer (some ⟨r, 0, none⟩)] wx _ := fun wx hx => number_r hx
  have g2 := rdNum_range h.row.2.1 (n := n) (rdList f n 4 (rdCas f n) s).2
  rw [rdSel_eq]
  generalize (rdNum f n (rdList f n 4 (rdCas f n) s).2).1 = x2 at *
  generalize (rdNum f n (rdList f n 4 (rdCas f n) s).2).2 = t2 at *
  generalize (rdList f n 4 (rdCas f n) s).1 = l at *
  generalize (rdList f n 4 (rdCas f n) s).2 = t1 at *
  obtain ⟨g2a, g2b⟩ := g2
  have hzH : Hid _ := hz
  have hltr : Hid (r < w.heap.size) := h.ltr
  have hltq : Hid (q < w.heap.size) := h.ltq
  clear h h0 hz
  go_enter Tryz.func98, Tryz.ntmps98
  go_wp2_with (first
    | (go_at_call 118; (with_reducible refine c1.mono ?_); rintro e w1 ⟨a, cap, rfl, hO, h1, f1⟩;
        (have b1X := f1.held a1 far1); (have b1Y := f1.held a0 far0); (have b10 := whole_cell b1X 0 _ rfl); (have b11 := whole_cell b1X 1 _ rfl); (have bz1 := fun o => whole_frozen b1X o); (have bl1 := (Array.getElem?_eq_some_iff.mp b1X).1);
        (have B11 : Hid ((w1.setCell ⟨w.heap.size + 1, 0, none⟩ (.slice a l.length cap)).heap[w.heap.size + 1]? = some (.cells #[.slice a l.length cap, .int .i64 0] 59 (0, 0))) := set_to b1X 0 (.slice a l.length cap) rfl);
        (have B10 : Hid ((w1.setCell ⟨w.heap.size + 1, 0, none⟩ (.slice a l.length cap)).heap[w.heap.size]? = some objS0) := (heap_setCell_other _ _ _ _ (by show w.heap.size ≠ w.heap.size + 1; omega)).trans b1Y);
        (have h1s : Hid (RdS (w1.setCell ⟨w.heap.size + 1, 0, none⟩ (.slice a l.length cap)) r q ba bc n f t1) := h1.setN far1 0 _);
        (have f1s : Hid (Fr r q w (w1.setCell ⟨w.heap.size + 1, 0, none⟩ (.slice a l.length cap))) := (hF0.trans f1).setN (Nat.le_succ _) 0 _);
        (have O1 : Hid (OwnL (w1.setCell ⟨w.heap.size + 1, 0, none⟩ (.slice a l.length cap)) (w.heap.size + 1 + 1) 101 4 a cap (l.map Cas.cells)) := by
          rw [hzH.out] at hO
          exact own_keep hO fun b hb => heap_setCell_other _ _ _ _ (by have := (blk_lt hO b hb).1; show b ≠ w.heap.size + 1; omega));
        clear b1X b1Y h1 f1 hO)
    | (go_at_call 66; (with_reducible refine (c2 _ h1s.out).mono ?_); rintro e w2 ⟨rfl, h2, f2⟩; clear b10 b11 bz1 bl1;
        (have b2X := f2.held B11.out far1); (have b2Y := f2.held B10.out far0); (have b20 := whole_cell b2X 0 _ rfl); (have b21 := whole_cell b2X 1 _ rfl); (have bz2 := fun o => whole_frozen b2X o); (have bl2 := (Array.getElem?_eq_some_iff.mp b2X).1);
        (have e0 := whole_cell b2Y 0 _ rfl); (have e1 := whole_cell b2Y 1 _ rfl); (have ez := fun o => whole_frozen b2Y o); (have el := (Array.getElem?_eq_some_iff.mp b2Y).1)))
  refine bodyPost_ret (v := MSel.val ⟨a, cap, l, x2 - 1⟩) ?_ rfl ⟨⟨a, cap, l, x2 - 1⟩, rfl, rfl, ?_, ?_, ?_⟩
  · simp [results, Tryz.results98, go_sem, b20, b21, e0, e1]
  · have hB := blk_lt O1.out
    exact own_mono (own_keep O1.out fun b hb => by
      have hb1 := (hB b hb).1
      have hb2 := (hB b hb).2
      have q1 := hb1
      exact (heap_setCell_other _ _ _ _ (by show b ≠ w.heap.size; omega)).trans ((heap_setCell_other _ _ _ _ (by show b ≠ w.heap.size; omega)).trans ((heap_setCell_other _ _ _ _ (by show b ≠ w.heap.size + 1; omega)).trans (f2.block b hb2 (by have := hltr.out; omega) (by have := hltq.out; omega))))) (by omega)
  · exact ((h2.setN far1 1 _).setN far0 0 _).setN far0 1 _
  · exact (((f1s.out.trans f2).setN (Nat.le_succ _) 1 _).setN (Nat.le_refl _) 0 _).setN (Nat.le_refl _) 1 _
set_option maxHeartbeats 4000000 in
theorem list_Select (h : RdS w r q ba bc n f s) (m : Int) (hm0 : 0 ≤ m) (hm : m ≤ 1000) :
    Calls Tryz.prog 97 #[.pointer (some ⟨r, 0, none⟩), .int .u64 m, .func (.func 98) #[.pointer (some ⟨r, 0, none⟩)] #[]] w fun e w' => ∃ a cap, ∃ l : List MSel, e = .returned (.slice a l.length cap) ∧ l.map MSel.sel = (rdList f n m (rdSel f n) s).1 ∧ OwnL w' w.heap.size 59 2 a cap (l.map MSel.cells) ∧ (∀ x ∈ l, MSel.own w' w.heap.size x) ∧ RdS w' r q ba bc n f (rdList f n m (rdSel f n) s).2 ∧ Fr r q w w' := by
  have c1 : Calls Tryz.prog 93 #[.pointer (some ⟨r, 0, none⟩), .int .u64 m] w _ := count_r h m hm0 hm
  obtain ⟨i5, hi5, hz5, hs5, hb5⟩ := info_of infoS
  have hrg := rdCnt_range h.row.2.1 m hm0 s (n := n)
  obtain ⟨N, hN⟩ : ∃ N : Nat, (rdCnt f n m s).1 = N := ⟨_, (Int.toNat_of_nonneg hrg.1).symm⟩
  obtain ⟨s0, hs0⟩ : ∃ s0, (rdCnt f n m s).2 = s0 := ⟨_, rfl⟩
  have hL : rdList f n m (rdSel f n) s = rdMany (rdSel f n) N s0 := by unfold rdList; rw [hN, hs0]; rfl
  have hNm : N ≤ 1000 := by omega
  rw [hL]
  rw [hN, hs0] at c1
  have hltr := h.ltr
  have hltq := h.ltq
  have hlb : Hid (∀ b ∈ blk ba, b < w.heap.size) := fun b hb => (h.bl b hb).2.2
  clear h hL hN hs0 hrg
  go_enter Tryz.func97, Tryz.ntmps97
  go_wp2_with (go_at_call 93; (with_reducible refine c1.mono ?_); rintro e w1 ⟨rfl, h1, f1⟩)
  go_loopw [7, 11] (fun u v wr => ∃ (j : Nat) (va : Option Addr) (vc : Nat) (l : List MSel), j ≤ N ∧ u = .slice va j vc ∧ v = .int .i64 j ∧ Hid (l.map MSel.sel = (rdMany (rdSel f n) j s0).1) ∧ OwnL wr w.heap.size 59 2 va vc (l.map MSel.cells) ∧ Hid (∀ x ∈ l, MSel.own wr w.heap.size x) ∧ RdS wr r q ba bc n f (rdMany (rdSel f n) j s0).2 ∧ Fr r q w wr) (fun _ v _ => N - (intOf v).toNat)
  case atStart => exact ⟨0, none, 0, [], Nat.zero_le _, rfl, rfl, rfl, own_nil _ _ _ _, fun x hx => absurd hx (by simp), h1, f1⟩
  case round =>
    clear h1 f1 c1
    obtain ⟨j, va, vc, l, hj, rfl, rfl, hl, ow, ho, h1, f1⟩ := hrel
    have hlen : Hid (l.length = j) := by have := congrArg List.length hl.out; rw [List.length_map, many_len] at this; exact this
    by_cases hlt : j < N
    · have hjI : (j : Int) < N := by omega
      have c2 : Calls Tryz.prog 98 #[.pointer (some ⟨r, 0, none⟩)] wr _ := choice_r h1
      have hM : Hid (rdMany (rdSel f n) (j + 1) s0 = ((rdMany (rdSel f n) j s0).1 ++ [((rdSel f n) (rdMany (rdSel f n) j s0).2).1], ((rdSel f n) (rdMany (rdSel f n) j s0).2).2)) := rfl
      generalize ((rdSel f n) (rdMany (rdSel f n) j s0).2).1 = y at *
      generalize ((rdSel f n) (rdMany (rdSel f n) j s0).2).2 = t at *
      generalize (rdMany (rdSel f n) j s0).1 = l0 at *
      clear h1
      go_wp2_with (first
        | (go_at_call 98; (with_reducible refine c2.mono ?_); rintro e w2 ⟨x, rfl, hx, hox, h2, f2⟩;
            (have hxH : Hid (MSel.sel x = y) := hx); clear hx;
            (have hoxH : Hid (MSel.own w2 wr.heap.size x) := hox); clear hox;
            (have f12 : Fr r q w w2 := f1.trans f2);
            (have ow2 : Hid (OwnL (w2.alloc (objS x)) w.heap.size 59 2 va vc (l.map MSel.cells)) := own_keep ow fun b hb => by
              have hbb := blk_lt ow b hb
              exact ((boxed _ _).block b (Nat.lt_of_lt_of_le hbb.2 f2.size)).trans (f2.block b hbb.2 (by omega) (by omega)));
            (have hrow : Hid (Rows (w2.alloc (objS x)) 2 (some ⟨w2.heap.size, 0, none⟩) 1 [MSel.cells x]) := rows_one (heap_alloc_new w2 _) rfl);
            (have hbs : Hid (w.heap.size ≤ (w2.alloc (objS x)).heap.size) := by have := f12.size; simp only [Hid, World.size_alloc]; omega))
        | (at_builtin; (refine wpList_app rfl (.tmp 13) (.tmp 16) 54 rfl w.heap.size 59 i5 _ 2 32 Tryz.underlying54 hi5 hz5 hs5 hb5 rfl (by decide) va vc (l.map MSel.cells) (by rw [List.length_map, hlen.out]; rfl) ow2.out (some ⟨w2.heap.size, 0, none⟩) 1 [MSel.cells x] rfl hrow.out (len2s [x]) (one2s [x]) (by have := hlen.out; unfold maxLen; simp only [List.length_map, List.length_singleton]; omega) (by have := hlen.out; simp only [List.length_map, List.length_singleton]; omega) hbs.out ?_); intro va' vc' w3 ho3 hk3 hB3 hbl3; simp only [List.length_append, List.length_map, List.length_singleton] at ⊢))
      go_roundw
      case rel =>
        have hva : ∀ b, b < w.heap.size → b ∉ blk va := fun b hb hm => by have := (blk_lt ow b hm).1; omega
        have hsz : w2.heap.size + 1 ≤ w3.heap.size := by have := hB3.size; rw [World.size_alloc] at this; exact this
        have k3 : ∀ b, b < w2.heap.size → b ∉ blk va → w3.heap[b]? = w2.heap[b]? := fun b hb hm => (hk3 b (by rw [World.size_alloc]; omega) hm).trans ((boxed _ _).block b hb)
        have h3 : RdS w3 r q ba bc n f t := h2.keep (fun b hh => by
          have : b < w.heap.size := by rcases hh with e | e | e; exact e ▸ hltr; exact e ▸ hltq; exact hlb.out b e
          exact k3 b (by have := f12.size; omega) (hva b this)) (by omega)
        have f3 : Fr r q w w3 := ⟨hB3.os.trans f12.os, hB3.tape.trans f12.tape, hB3.output.trans f12.output, by have := f12.size; omega, fun b hb a1 a2 => (k3 b (by have := f12.size; omega) (hva b hb)).trans (f12.block b hb a1 a2)⟩
        have ow2' : OwnL w2 w.heap.size 59 2 va vc (l.map MSel.cells) := own_keep ow fun b hb => by
          have hbb := blk_lt ow b hb
          exact f2.block b hbb.2 (by omega) (by omega)
        have o2 : ∀ z ∈ l ++ [x], MSel.own w2 w.heap.size z := fun z hz => by
          rcases List.mem_append.mp hz with hz | hz
          · exact (ho.out z hz).keep fun b hb => by
              obtain ⟨cur, t, hc, _, hlo⟩ := (ho.out z hz).tag b hb
              exact f2.block b (Array.getElem?_eq_some_iff.mp hc).1 (by omega) (by omega)
          · rw [List.mem_singleton] at hz
            rw [hz]
            exact hoxH.out.mono f1.size
        have o3 : ∀ z ∈ l ++ [x], MSel.own w3 w.heap.size z := fun z hz => (o2 z hz).keep fun b hb => by
          obtain ⟨cur, t, hc, hne, hlo⟩ := (o2 z hz).tag b hb
          exact k3 b (Array.getElem?_eq_some_iff.mp hc).1 (fun hm => by obtain ⟨cur', hc'⟩ := tag_own ow2' hm; rw [hc] at hc'; simp only [Option.some.injEq, Obj.cells.injEq] at hc'; exact hne hc'.2.1)
        exact ⟨j + 1, va', vc', l ++ [x], by omega, by rw [hlen.out], by go_num, by show _ = _; rw [hM.out, List.map_append, hl.out]; simp [hxH.out], by rw [List.map_append]; exact ho3, o3, by rw [hM.out]; exact h3, f3⟩
      case measure => simp [intOf]; omega
    · have hj2 : j = N := by omega
      subst hj2
      go_wp2
      go_ret
      exact ⟨va, vc, l, by rw [hlen.out]; rfl, hl.out, ow, ho.out, h1, f1⟩
end
end Go.Proofs.YtonkcnaijcpfdaaGreatDoor.pg
/- The reader of package code in memory: an instruction. -/
namespace Go.Proofs.YtonkcnaijcpfdaaGreatDoor.pg
open Go.ChangeShapes Go.WideShapes Go.ChangeAt Go.RowKit
set_option linter.unusedVariables false
set_option linter.unusedSimpArgs false
set_option maxRecDepth 100000
theorem opnd_a4 (B x : Nat) (hx : x < 4) : ∀ wx, (Instr.indexAt 153 (.pointer (some ⟨B, 0, none⟩)) (.int .i64 (x : Int))).run Tryz.prog wx = .ok (.pointer (some ⟨B, x, none⟩)) wx := by
  intro wx
  rw [run_indexAt_array _ _ _ _ _ (show Tryz.prog.underlying 153 = some (.array (Tryz.prog.arrayLen 153) (Tryz.prog.elem 153)) by kernel_rfl)]
  rw [show Tryz.prog.arrayLen 153 = 4 by kernel_rfl, show Tryz.prog.elem 153 = 2 by kernel_rfl, if_pos (by omega), Tryz.sizeOf2 wx]
  show Result.ok (Value.pointer (some ((⟨B, 0, none⟩ : Addr).add ((x : Int).toNat * 1)))) wx = _
  rw [add_none]
  simp
/-- The first k operands, and the reader behind them. -/
def rdOps (f : Nat → Nat) (n : Nat) (op : Int) (s : RS) : Nat → (Nat → Int) × RS
  | 0 => (fun _ => 0, s)
  | k + 1 => ((fun j => if j = k then (rdOp f n (lt op k) (rdOps f n op s k).2).1 else (rdOps f n op s k).1 j), (rdOp f n (lt op k) (rdOps f n op s k).2).2)
theorem rdOps_zero (f : Nat → Nat) (n : Nat) (op : Int) (s : RS) (k j : Nat) (h : k ≤ j) : (rdOps f n op s k).1 j = 0 := by
  induction k with
  | zero => rfl
  | succ k ih => show (if j = k then _ else _) = (0 : Int); rw [if_neg (by omega)]; exact ih (by omega)
theorem rdIns_bad {f : Nat → Nat} {n : Nat} {s : RS} (h : formOf (rdNum f n s).1 = []) : rdIns f n s = (⟨0, 0, 0, 0, 0⟩, (rdNum f n s).2.fail 33) := by unfold rdIns; simp only [if_pos h]
theorem rdIns_ok {f : Nat → Nat} {n : Nat} {s : RS} (h : ¬ formOf (rdNum f n s).1 = []) : rdIns f n s = (⟨(rdNum f n s).1, (rdOps f n (rdNum f n s).1 (rdNum f n s).2 4).1 0, (rdOps f n (rdNum f n s).1 (rdNum f n s).2 4).1 1, (rdOps f n (rdNum f n s).1 (rdNum f n s).2 4).1 2, (rdOps f n (rdNum f n s).1 (rdNum f n s).2 4).1 3⟩, (rdOps f n (rdNum f n s).1 (rdNum f n s).2 4).2) := by unfold rdIns; simp only [if_neg h]; rfl
/-- The block of the operands. -/
def Four (w : World) (A : Nat) (g : Nat → Int) : Prop := w.heap[A]? = some (.cells #[.int .i64 (g 0), .int .i64 (g 1), .int .i64 (g 2), .int .i64 (g 3)] 153 (0, 0))
theorem Four.set {w : World} {A : Nat} {g g' : Nat → Int} (h : Four w A g) (k : Nat) (hk : k < 4) (v : Int) (hg : ∀ j, g' j = if j = k then v else g j) : Four (w.setCell ⟨A, k, none⟩ (.int .i64 v)) A g' := by
  have hk4 : k = 0 ∨ k = 1 ∨ k = 2 ∨ k = 3 := by omega
  unfold Four
  rw [hg 0, hg 1, hg 2, hg 3]
  rcases hk4 with rfl | rfl | rfl | rfl
  all_goals exact set_to h _ _ rfl
theorem Four.cell {w : World} {A : Nat} {g : Nat → Int} (h : Four w A g) (k : Nat) (hk : k < 4) : w.cell? ⟨A, k, none⟩ = some (.int .i64 (g k)) := by
  have hk4 : k = 0 ∨ k = 1 ∨ k = 2 ∨ k = 3 := by omega
  rcases hk4 with rfl | rfl | rfl | rfl
  all_goals exact whole_cell h _ _ rfl
abbrev objI0 : Obj := .cells #[.int .i64 0, .int .i64 0, .int .i64 0, .int .i64 0, .int .i64 0] 85
abbrev objA0 : Obj := .cells #[.int .i64 0, .int .i64 0, .int .i64 0, .int .i64 0] 153
section
variable {w w' : World} {r q bc n : Nat} {ba : Option Addr} {f : Nat → Nat} {s : RS}
set_option maxHeartbeats 4000000 in
theorem instr_r (h : RdS w r q ba bc n f s) (hF : ∀ wx, Fr r q w wx → prog.Forms wx) : Rr r q ba bc n f 100 #[.pointer (some ⟨r, 0, none⟩)] w (rdIns f n s).1.val (rdIns f n s).2 := by
  have a0 : (w.alloc objI0).heap[w.heap.size]? = some objI0 := heap_alloc_new _ _
  have far0 := h.far _ (Nat.le_refl _)
  have hF0 : Fr r q w (w.alloc objI0) := Fr.of (boxed w _)
  have h0 := h.later (boxed w objI0)
  have c1 : Calls Tryz.prog 66 #[.pointer (some ⟨r, 0, none⟩)] (w.alloc objI0) _ := number_r h0
  have hg := rdNum_range h.row.2.1 (n := n) s
  have hfb := h.row.2.1
  have hlt1 := h.ltr
  have hlt2 := h.ltq
  have hlt3 : Hid (∀ b ∈ blk ba, b < w.heap.size) := fun b hb => (h.bl b hb).2.2
  by_cases hf : formOf (rdNum f n s).1 = []
  · rw [rdIns_bad hf]
    unfold Rr
    generalize (rdNum f n s).1 = x at *
    generalize (rdNum f n s).2 = t at *
    obtain ⟨S, hFm⟩ : ∃ S, Hid (prog.frm x = S) := ⟨_, rfl⟩
    have hS : S = ⟨#[]⟩ := by have := hFm.out; rw [frm_form, hf] at this; exact this.symm
    subst hS
    have c2 : ∀ wx, Fr r q w wx → Calls Tryz.prog 108 #[.int .i64 x] wx _ := fun wx hx => prog.form_any x (by omega) (by omega) wx (hF wx hx) ⟨#[]⟩ hFm.out
    have c3 : ∀ wx, RdS wx r q ba bc n f t → Calls Tryz.prog 63 #[.pointer (some ⟨r, 0, none⟩), .int .i64 33] wx _ := fun wx hx => fail_r hx 33
    clear h h0 hF hf
    go_enter Tryz.func100, Tryz.ntmps100
    go_wp2_with (first
      | (go_at_call 66; (with_reducible refine c1.mono ?_); rintro e w1 ⟨rfl, h1, f1⟩; (have b0 := f1.held a0 far0))
      | (go_at_call 108; (with_reducible refine (c2 _ (hF0.trans f1)).mono ?_); rintro e w2 ⟨rfl, hw2⟩; replace hw2 := hw2.symm; subst hw2)
      | (go_at_call 63; (with_reducible refine (c3 _ h1).mono ?_); rintro e w3 ⟨rfl, h3, f3⟩; (have d0 := f3.held b0 far0); (have e0 := whole_cell d0 0 _ rfl); (have e1 := whole_cell d0 1 _ rfl); (have e2 := whole_cell d0 2 _ rfl); (have e3 := whole_cell d0 3 _ rfl); (have e4 := whole_cell d0 4 _ rfl); (have ez := fun o => whole_frozen d0 o); (have el := (Array.getElem?_eq_some_iff.mp d0).1)))
    refine bodyPost_ret (v := Ins.val ⟨0, 0, 0, 0, 0⟩) ?_ rfl ⟨rfl, ?_, ?_⟩
    · simp [results, Tryz.results100, go_sem, e0, e1, e2, e3, e4]
    · exact ((((h3.setN far0 0 _).setN far0 1 _).setN far0 2 _).setN far0 3 _).setN far0 4 _
    · exact ((((((hF0.trans f1).trans f3).setN (Nat.le_refl _) 0 _).setN (Nat.le_refl _) 1 _).setN (Nat.le_refl _) 2 _).setN (Nat.le_refl _) 3 _).setN (Nat.le_refl _) 4 _
  · rw [rdIns_ok hf]
    unfold Rr
    generalize (rdNum f n s).1 = x at *
    generalize (rdNum f n s).2 = t at *
    obtain ⟨S, hFm⟩ : ∃ S, Hid (prog.frm x = S) := ⟨_, rfl⟩
    have c2 : ∀ wx, Fr r q w wx → Calls Tryz.prog 108 #[.int .i64 x] wx _ := fun wx hx => prog.form_any x (by omega) (by omega) wx (hF wx hx) S hFm.out
    have hSx := fun k (h4 : k < 4) => str_ix hFm.out hf k h4
    have hne : S.toList.isEmpty = false := by
      have := hFm.out
      rw [frm_form] at this
      rcases formOf_four x with q | ⟨a, b, c, d, q, _⟩
      · exact absurd q hf
      · rw [q] at this; rw [← this]; simp [ByteArray.toList, ByteArray.toList.loop, ByteArray.size]
    clear h h0 hF
    go_enter Tryz.func100, Tryz.ntmps100
    go_wp2_with (first
      | (go_at_call 66; (with_reducible refine c1.mono ?_); rintro e w1 ⟨rfl, h1, f1⟩)
      | (go_at_call 108; (with_reducible refine (c2 _ (hF0.trans f1)).mono ?_); rintro e w2 ⟨rfl, hw2⟩; replace hw2 := hw2.symm; subst hw2))
    have b0 : Hid ((w1.alloc objA0).heap[w.heap.size]? = some objI0) := ((boxed _ _).block _ (Array.getElem?_eq_some_iff.mp (f1.held a0 far0)).1).trans (f1.held a0 far0)
    have hA0 : Hid (Four (w1.alloc objA0) w1.heap.size (rdOps f n x t 0).1) := heap_alloc_new w1 objA0
    have hAs : w.heap.size + 1 ≤ w1.heap.size := by have := f1.size; rw [World.size_alloc] at this; exact this
    have h2 : RdS (w1.alloc objA0) r q ba bc n f t := h1.later (boxed _ _)
    have f2 : Fr r q w (w1.alloc objA0) := (hF0.trans f1).trans (Fr.of (boxed _ _))
    generalize w1.alloc objA0 = W1 at *
    generalize w1.heap.size = A at *
    have farA : A ≠ r ∧ A ≠ q ∧ A ∉ blk ba := ⟨by omega, by omega, fun hm => by have := hlt3.out A hm; omega⟩
    clear h1 f1 c1 c2 a0 hF0 hne hFm
    go_loopw [16] (fun u wr => ∃ k : Nat, k ≤ 4 ∧ u = .int .i64 k ∧ RdS wr r q ba bc n f (rdOps f n x t k).2 ∧ Fr r q w wr ∧ Four wr A (rdOps f n x t k).1 ∧ wr.heap[w.heap.size]? = some objI0) (fun u _ => 4 - (intOf u).toNat)
    case atStart => exact ⟨0, Nat.zero_le _, rfl, h2, f2, hA0.out, b0.out⟩
    case round =>
      clear h2 f2 hA0 b0
      obtain ⟨k, hk4, rfl, h1, f1, hA, b0⟩ := hrel
      by_cases hlt : k < 4
      · have hix := opnd_a4 A k hlt
        have hsx := hSx k hlt
        have hkI : (k : Int) < 4 := by omega
        have hO1 : Hid ((rdOps f n x t (k + 1)).2 = (rdOp f n (lt x k) (rdOps f n x t k).2).2) := rfl
        have hO2 : Hid (∀ j, (rdOps f n x t (k + 1)).1 j = if j = k then (rdOp f n (lt x k) (rdOps f n x t k).2).1 else (rdOps f n x t k).1 j) := fun j => rfl
        have hz0 : Hid ((rdOps f n x t k).1 k = 0) := rdOps_zero f n x t k k (Nat.le_refl _)
        clear hSx
        generalize (rdOps f n x t k).1 = G at *
        generalize (rdOps f n x t k).2 = T at *
        generalize lt x k = L at *
        unfold rdOp at hO1 hO2
        by_cases h45 : L = 45
        · have e1 : Hid ((rdOps f n x t (k + 1)).2 = T) := hO1.out.trans (by rw [if_pos h45])
          have e2 : Hid (Four wr A (rdOps f n x t (k + 1)).1) := by
            have hG : ∀ j, (rdOps f n x t (k + 1)).1 j = G j := fun j => by
              rw [hO2.out j, if_pos h45]
              by_cases hj : j = k
              · rw [if_pos hj, hj, hz0.out]
              · rw [if_neg hj]
            show Four wr A (rdOps f n x t (k + 1)).1
            rw [show (rdOps f n x t (k + 1)).1 = G from funext hG]
            exact hA
          subst h45
          clear hO1 hO2
          go_wp2
          go_roundw
          case rel => exact ⟨k + 1, by omega, by go_num, by rw [e1.out]; exact h1, f1, e2.out, b0⟩
          case measure => simp [intOf]; omega
        · by_cases h111 : L = 111
          · have hgr := rdNum_range hfb (n := n) T
            have cc : Calls Tryz.prog 66 #[.pointer (some ⟨r, 0, none⟩)] wr _ := number_r h1
            have e1 : Hid ((rdOps f n x t (k + 1)).2 = (rdNum f n T).2) := hO1.out.trans (by rw [if_neg h45, if_pos h111])
            have e2 : Hid (∀ j, (rdOps f n x t (k + 1)).1 j = if j = k then (rdNum f n T).1 - 1 else G j) := fun j => (hO2.out j).trans (by rw [if_neg h45, if_pos h111])
            subst h111
            clear hO1 hO2 h45
            generalize (rdNum f n T).1 = X at *
            generalize (rdNum f n T).2 = T2 at *
            go_wp2_with (go_at_call 66; (with_reducible refine cc.mono ?_); rintro e w2 ⟨rfl, h2, f2⟩; (have A2 : Hid (Four w2 A G) := f2.held hA farA); (have b2 : Hid (w2.heap[w.heap.size]? = some objI0) := f2.held b0 far0); (have q0 := A2.out.cell k hlt); (have qz := fun o => whole_frozen A2.out o); (have ql := (Array.getElem?_eq_some_iff.mp A2.out).1))
            go_roundw
            case rel => exact ⟨k + 1, by omega, by go_num, by rw [e1.out]; exact h2.setN farA k _, (f1.trans f2).setN (by omega) k _, A2.out.set k hlt _ e2.out, (heap_setCell_other _ _ _ _ (by show w.heap.size ≠ A; omega)).trans b2.out⟩
            case measure => simp [intOf]; omega
          · by_cases h110 : L = 110
            · have hgr := rdS_range hfb (n := n) T
              have cc : Calls Tryz.prog 95 #[.pointer (some ⟨r, 0, none⟩)] wr _ := signed_r h1
              have e1 : Hid ((rdOps f n x t (k + 1)).2 = (rdS f n T).2) := hO1.out.trans (by rw [if_neg h45, if_neg h111, if_pos h110])
              have e2 : Hid (∀ j, (rdOps f n x t (k + 1)).1 j = if j = k then (rdS f n T).1 else G j) := fun j => (hO2.out j).trans (by rw [if_neg h45, if_neg h111, if_pos h110])
              subst h110
              clear hO1 hO2 h45 h111
              generalize (rdS f n T).1 = X at *
              generalize (rdS f n T).2 = T2 at *
              go_wp2_with (go_at_call 95; (with_reducible refine cc.mono ?_); rintro e w2 ⟨rfl, h2, f2⟩; (have A2 : Hid (Four w2 A G) := f2.held hA farA); (have b2 : Hid (w2.heap[w.heap.size]? = some objI0) := f2.held b0 far0); (have q0 := A2.out.cell k hlt); (have qz := fun o => whole_frozen A2.out o); (have ql := (Array.getElem?_eq_some_iff.mp A2.out).1))
              go_roundw
              case rel => exact ⟨k + 1, by omega, by go_num, by rw [e1.out]; exact h2.setN farA k _, (f1.trans f2).setN (by omega) k _, A2.out.set k hlt _ e2.out, (heap_setCell_other _ _ _ _ (by show w.heap.size ≠ A; omega)).trans b2.out⟩
              case measure => simp [intOf]; omega
            · have hgr := rdNum_range hfb (n := n) T
              have cc : Calls Tryz.prog 66 #[.pointer (some ⟨r, 0, none⟩)] wr _ := number_r h1
              have e1 : Hid ((rdOps f n x t (k + 1)).2 = (rdNum f n T).2) := hO1.out.trans (by rw [if_neg h45, if_neg h111, if_neg h110])
              have e2 : Hid (∀ j, (rdOps f n x t (k + 1)).1 j = if j = k then (rdNum f n T).1 else G j) := fun j => (hO2.out j).trans (by rw [if_neg h45, if_neg h111, if_neg h110])
              clear hO1 hO2
              generalize (rdNum f n T).1 = X at *
              generalize (rdNum f n T).2 = T2 at *
              go_wp2_with (go_at_call 66; (with_reducible refine cc.mono ?_); rintro e w2 ⟨rfl, h2, f2⟩; (have A2 : Hid (Four w2 A G) := f2.held hA farA); (have b2 : Hid (w2.heap[w.heap.size]? = some objI0) := f2.held b0 far0); (have q0 := A2.out.cell k hlt); (have qz := fun o => whole_frozen A2.out o); (have ql := (Array.getElem?_eq_some_iff.mp A2.out).1))
              go_roundw
              case rel => exact ⟨k + 1, by omega, by go_num, by rw [e1.out]; exact h2.setN farA k _, (f1.trans f2).setN (by omega) k _, A2.out.set k hlt _ e2.out, (heap_setCell_other _ _ _ _ (by show w.heap.size ≠ A; omega)).trans b2.out⟩
              case measure => simp [intOf]; omega
      · have hk2 : k = 4 := by omega
        subst hk2
        have q0 := hA.cell 0 (by omega)
        have q1 := hA.cell 1 (by omega)
        have q2 := hA.cell 2 (by omega)
        have q3 := hA.cell 3 (by omega)
        have i0 := opnd_a4 A 0 (by omega)
        have i1 := opnd_a4 A 1 (by omega)
        have i2 := opnd_a4 A 2 (by omega)
        have i3 := opnd_a4 A 3 (by omega)
        have ql := (Array.getElem?_eq_some_iff.mp hA).1
        have e0 := whole_cell b0 0 _ rfl
        have e1 := whole_cell b0 1 _ rfl
        have e2 := whole_cell b0 2 _ rfl
        have e3 := whole_cell b0 3 _ rfl
        have e4 := whole_cell b0 4 _ rfl
        have ez := fun o => whole_frozen b0 o
        have el := (Array.getElem?_eq_some_iff.mp b0).1
        go_wp2
        refine bodyPost_ret (v := Ins.val ⟨x, (rdOps f n x t 4).1 0, (rdOps f n x t 4).1 1, (rdOps f n x t 4).1 2, (rdOps f n x t 4).1 3⟩) ?_ rfl ⟨rfl, ?_, ?_⟩
        · simp [results, Tryz.results100, go_sem, e0, e1, e2, e3, e4]
        · exact ((((h1.setN far0 0 _).setN far0 1 _).setN far0 2 _).setN far0 3 _).setN far0 4 _
        · exact ((((f1.setN (Nat.le_refl _) 0 _).setN (Nat.le_refl _) 1 _).setN (Nat.le_refl _) 2 _).setN (Nat.le_refl _) 3 _).setN (Nat.le_refl _) 4 _
end
end Go.Proofs.YtonkcnaijcpfdaaGreatDoor.pg
/- The reader of package code in memory: lists of instructions, a function. -/
namespace Go.Proofs.YtonkcnaijcpfdaaGreatDoor.pg
open Go.ChangeShapes Go.WideShapes Go.ChangeAt Go.RowKit
set_option linter.unusedVariables false
set_option linter.unusedSimpArgs false
set_option maxRecDepth 100000
section
variable {w w' : World} {r q bc n : Nat} {ba : Option Addr} {f : Nat → Nat} {s : RS}
set_option maxHeartbeats 4000000 in
theorem list_Instr (h : RdS w r q ba bc n f s) (hF : ∀ wx, Fr r q w wx → prog.Forms wx) (m : Int) (hm0 : 0 ≤ m) (hm : m ≤ 1000) :
    Calls Tryz.prog 99 #[.pointer (some ⟨r, 0, none⟩), .int .u64 m, .func (.func 100) #[.pointer (some ⟨r, 0, none⟩)] #[]] w fun e w' => ∃ a cap, e = .returned (.slice a (rdList f n m (rdIns f n) s).1.length cap) ∧ OwnL w' w.heap.size 85 5 a cap ((rdList f n m (rdIns f n) s).1.map Ins.cells) ∧ RdS w' r q ba bc n f (rdList f n m (rdIns f n) s).2 ∧ Fr r q w w' := by
  have c1 : Calls Tryz.prog 93 #[.pointer (some ⟨r, 0, none⟩), .int .u64 m] w _ := count_r h m hm0 hm
  obtain ⟨i5, hi5, hz5, hs5, hb5⟩ := info_of infoI
  have hrg := rdCnt_range h.row.2.1 m hm0 s (n := n)
  obtain ⟨N, hN⟩ : ∃ N : Nat, (rdCnt f n m s).1 = N := ⟨_, (Int.toNat_of_nonneg hrg.1).symm⟩
  obtain ⟨s0, hs0⟩ : ∃ s0, (rdCnt f n m s).2 = s0 := ⟨_, rfl⟩
  have hL : rdList f n m (rdIns f n) s = rdMany (rdIns f n) N s0 := by unfold rdList; rw [hN, hs0]; rfl
  have hNm : N ≤ 1000 := by omega
  rw [hL]
  rw [hN, hs0] at c1
  have hltr := h.ltr
  have hltq := h.ltq
  have hlb : Hid (∀ b ∈ blk ba, b < w.heap.size) := fun b hb => (h.bl b hb).2.2
  clear h hL hN hs0 hrg
  go_enter Tryz.func99, Tryz.ntmps99
  go_wp2_with (go_at_call 93; (with_reducible refine c1.mono ?_); rintro e w1 ⟨rfl, h1, f1⟩)
  go_loopw [7, 11] (fun u v wr => ∃ (j : Nat) (va : Option Addr) (vc : Nat), j ≤ N ∧ u = .slice va j vc ∧ v = .int .i64 j ∧ OwnL wr w.heap.size 85 5 va vc ((rdMany (rdIns f n) j s0).1.map Ins.cells) ∧ RdS wr r q ba bc n f (rdMany (rdIns f n) j s0).2 ∧ Fr r q w wr) (fun _ v _ => N - (intOf v).toNat)
  case atStart => exact ⟨0, none, 0, Nat.zero_le _, rfl, rfl, own_nil _ _ _ _, h1, f1⟩
  case round =>
    clear h1 f1 c1
    obtain ⟨j, va, vc, hj, rfl, rfl, ow, h1, f1⟩ := hrel
    by_cases hlt : j < N
    · have hlen : Hid ((rdMany (rdIns f n) j s0).1.length = j) := many_len _ _ _
      have hjI : (j : Int) < N := by omega
      have c2 : Calls Tryz.prog 100 #[.pointer (some ⟨r, 0, none⟩)] wr _ := instr_r h1 (fun wx hx => hF wx (f1.trans hx))
      have hM : Hid (rdMany (rdIns f n) (j + 1) s0 = ((rdMany (rdIns f n) j s0).1 ++ [((rdIns f n) (rdMany (rdIns f n) j s0).2).1], ((rdIns f n) (rdMany (rdIns f n) j s0).2).2)) := rfl
      generalize ((rdIns f n) (rdMany (rdIns f n) j s0).2).1 = x at *
      generalize ((rdIns f n) (rdMany (rdIns f n) j s0).2).2 = t at *
      generalize (rdMany (rdIns f n) j s0).1 = l at *
      clear h1
      go_wp2_with (first
        | (go_at_call 100; (with_reducible refine c2.mono ?_); rintro e w2 ⟨rfl, h2, f2⟩;
            (have f12 : Fr r q w w2 := f1.trans f2);
            (have ow2 : Hid (OwnL (w2.alloc (objI x)) w.heap.size 85 5 va vc (l.map Ins.cells)) := own_keep ow fun b hb => by
              have hbb := blk_lt ow b hb
              exact ((boxed _ _).block b (Nat.lt_of_lt_of_le hbb.2 f2.size)).trans (f2.block b hbb.2 (by omega) (by omega)));
            (have hrow : Hid (Rows (w2.alloc (objI x)) 5 (some ⟨w2.heap.size, 0, none⟩) 1 [Ins.cells x]) := rows_one (heap_alloc_new w2 _) rfl);
            (have hbs : Hid (w.heap.size ≤ (w2.alloc (objI x)).heap.size) := by have := f12.size; simp only [Hid, World.size_alloc]; omega))
        | (at_builtin; (refine wpList_app rfl (.tmp 13) (.tmp 16) 53 rfl w.heap.size 85 i5 _ 5 40 Tryz.underlying53 hi5 hz5 hs5 hb5 rfl (by decide) va vc (l.map Ins.cells) (by rw [List.length_map, hlen.out]; rfl) ow2.out (some ⟨w2.heap.size, 0, none⟩) 1 [Ins.cells x] rfl hrow.out (len5 [x]) (one5 [x]) (by have := hlen.out; unfold maxLen; simp only [List.length_map, List.length_singleton]; omega) (by have := hlen.out; simp only [List.length_map, List.length_singleton]; omega) hbs.out ?_); intro va' vc' w3 ho3 hk3 hB3 hbl3; simp only [List.length_append, List.length_map, List.length_singleton] at ⊢))
      go_roundw
      case rel =>
        have hva : ∀ b, b < w.heap.size → b ∉ blk va := fun b hb hm => by have := (blk_lt ow b hm).1; omega
        have hsz : w2.heap.size + 1 ≤ w3.heap.size := by have := hB3.size; rw [World.size_alloc] at this; exact this
        have k3 : ∀ b, b < w2.heap.size → b ∉ blk va → w3.heap[b]? = w2.heap[b]? := fun b hb hm => (hk3 b (by rw [World.size_alloc]; omega) hm).trans ((boxed _ _).block b hb)
        have h3 : RdS w3 r q ba bc n f t := h2.keep (fun b hh => by
          have : b < w.heap.size := by rcases hh with e | e | e; exact e ▸ hltr; exact e ▸ hltq; exact hlb.out b e
          exact k3 b (by have := f12.size; omega) (hva b this)) (by omega)
        have f3 : Fr r q w w3 := ⟨hB3.os.trans f12.os, hB3.tape.trans f12.tape, hB3.output.trans f12.output, by have := f12.size; omega, fun b hb a1 a2 => (k3 b (by have := f12.size; omega) (hva b hb)).trans (f12.block b hb a1 a2)⟩
        exact ⟨j + 1, va', vc', by omega, by rw [hlen.out], by go_num, by rw [hM.out, List.map_append]; exact ho3, by rw [hM.out]; exact h3, f3⟩
      case measure => simp [intOf]; omega
    · have hj2 : j = N := by omega
      subst hj2
      have hlen : Hid ((rdMany (rdIns f n) j s0).1.length = j) := many_len _ _ _
      go_wp2
      go_ret
      exact ⟨va, vc, by rw [hlen.out]; rfl, ow, h1, f1⟩
end
theorem MFn.own.mono {w : World} {lo lo' : Nat} {x : MFn} (h : x.own w lo) (hl : lo' ≤ lo) : x.own w lo' := ⟨own_mono h.1 hl, own_mono h.2.1 hl, fun s hs => own_mono (h.2.2 s hs) hl⟩
theorem MFn.own.tag {w : World} {lo : Nat} {x : MFn} (h : x.own w lo) (b : Nat) (hb : b ∈ x.blocks) : ∃ cur t, w.heap[b]? = some (Obj.cells cur t (0, 0)) ∧ t ≠ 56 ∧ lo ≤ b := by
  unfold MFn.blocks MFn.rest at hb
  simp only [List.mem_append, List.mem_flatMap] at hb
  rcases hb with hb | hb | ⟨s, hs, hb⟩
  · obtain ⟨cur, hc⟩ := tag_own h.2.1 hb
    exact ⟨cur, _, hc, by decide, (blk_lt h.2.1 b hb).1⟩
  · obtain ⟨cur, hc⟩ := tag_own h.1 hb
    exact ⟨cur, _, hc, by decide, (blk_lt h.1 b hb).1⟩
  · obtain ⟨cur, hc⟩ := tag_own (h.2.2 s hs) hb
    exact ⟨cur, _, hc, by decide, (blk_lt (h.2.2 s hs) b hb).1⟩
abbrev objF0 : Obj := .cells #[.int .i64 0, .int .i64 0, .slice none 0 0, .slice none 0 0] 56
theorem rdFn_eq (f : Nat → Nat) (n : Nat) (s : RS) : rdFn f n s = (⟨(rdNum f n s).1, (rdNum f n (rdNum f n s).2).1, (rdList f n 64 (rdIns f n) (rdList f n 4 (rdSel f n) (rdNum f n (rdNum f n s).2).2).2).1, (rdList f n 4 (rdSel f n) (rdNum f n (rdNum f n s).2).2).1⟩, (rdList f n 64 (rdIns f n) (rdList f n 4 (rdSel f n) (rdNum f n (rdNum f n s).2).2).2).2) := rfl
section
variable {w w' : World} {r q bc n : Nat} {ba : Option Addr} {f : Nat → Nat} {s : RS}
set_option maxHeartbeats 4000000 in
theorem function_r (h : RdS w r q ba bc n f s) (hF : ∀ wx, Fr r q w wx → prog.Forms wx) : Calls Tryz.prog 69 #[.pointer (some ⟨r, 0, none⟩)] w fun e w' => ∃ m : MFn, e = .returned m.val ∧ m.fn = (rdFn f n s).1 ∧ m.own w' w.heap.size ∧ RdS w' r q ba bc n f (rdFn f n s).2 ∧ Fr r q w w' := by
  have a0 := two_first w objF0 objF0
  have a1 := two_second w objF0 objF0
  have hz := two_size w objF0 objF0
  have far0 := h.far _ (Nat.le_refl _)
  have far1 : w.heap.size + 1 ≠ r ∧ w.heap.size + 1 ≠ q ∧ w.heap.size + 1 ∉ blk ba := h.far _ (Nat.le_succ _)
  have hF0 : Fr r q w ((w.alloc objF0).alloc objF0) := Fr.of (boxed2 w _ _)
  have h0 := h.later (boxed2 w objF0 objF0)
  have c1 : Calls Tryz.prog 66 #[.pointer (some ⟨r, 0, none⟩)] ((w.alloc objF0).alloc objF0) _ := number_r h0
  have c2 : ∀ wx, RdS wx r q ba bc n f (rdNum f n s).2 → Calls Tryz.prog 66 #[.pointer (some ⟨r, 0, none⟩)] wx _ := fun wx hx => number_r hx
  have c3 : ∀ wx, RdS wx r q ba bc n f (rdNum f n (rdNum f n s).2).2 → Calls Tryz.prog 97 #[.pointer (some ⟨r, 0, none⟩), .int .u64 4, .func (.func 98) #[.pointer (some ⟨r, 0, none⟩)] #[]] wx _ := fun wx hx => list_Select hx 4 (by decide) (by decide)
  have c4 : ∀ wx, RdS wx r q ba bc n f (rdList f n 4 (rdSel f n) (rdNum f n (rdNum f n s).2).2).2 → Fr r q w wx → Calls Tryz.prog 99 #[.pointer (some ⟨r, 0, none⟩), .int .u64 64, .func (.func 100) #[.pointer (some ⟨r, 0, none⟩)] #[]] wx _ := fun wx hx hf => list_Instr hx (fun wy hy => hF wy (hf.trans hy)) 64 (by decide) (by decide)
  rw [rdFn_eq]
  generalize (rdList f n 64 (rdIns f n) (rdList f n 4 (rdSel f n) (rdNum f n (rdNum f n s).2).2).2).1 = l4 at *
  generalize (rdList f n 64 (rdIns f n) (rdList f n 4 (rdSel f n) (rdNum f n (rdNum f n s).2).2).2).2 = t4 at *
  generalize (rdList f n 4 (rdSel f n) (rdNum f n (rdNum f n s).2).2).1 = p3 at *
  generalize (rdList f n 4 (rdSel f n) (rdNum f n (rdNum f n s).2).2).2 = t3 at *
  generalize (rdNum f n (rdNum f n s).2).1 = x2 at *
  generalize (rdNum f n (rdNum f n s).2).2 = t2 at *
  generalize (rdNum f n s).1 = x1 at *
  generalize (rdNum f n s).2 = t1 at *
  have hzH : Hid _ := hz
  have hltr : Hid (r < w.heap.size) := h.ltr
  have hltq : Hid (q < w.heap.size) := h.ltq
  clear h h0 hz hF
  go_enter Tryz.func69, Tryz.ntmps69
  go_wp2_with (first
    | (go_at_call 66; (with_reducible refine c1.mono ?_); rintro e w1 ⟨rfl, h1, f1⟩; (have b1X := f1.held a1 far1); (have b1Y := f1.held a0 far0); (have b10 := whole_cell b1X 0 _ rfl); (have b11 := whole_cell b1X 1 _ rfl); (have b12 := whole_cell b1X 2 _ rfl); (have b13 := whole_cell b1X 3 _ rfl); (have bz1 := fun o => whole_frozen b1X o); (have bl1 := (Array.getElem?_eq_some_iff.mp b1X).1);
        (have B11 : Hid ((w1.setCell ⟨w.heap.size + 1, 0, none⟩ (.int .i64 x1)).heap[w.heap.size + 1]? = some (.cells #[.int .i64 x1, .int .i64 0, .slice none 0 0, .slice none 0 0] 56 (0, 0))) := set_to b1X 0 (.int .i64 x1) rfl);
        (have B10 : Hid ((w1.setCell ⟨w.heap.size + 1, 0, none⟩ (.int .i64 x1)).heap[w.heap.size]? = some objF0) := (heap_setCell_other _ _ _ _ (by show w.heap.size ≠ w.heap.size + 1; omega)).trans b1Y);
        (have h1s : Hid (RdS (w1.setCell ⟨w.heap.size + 1, 0, none⟩ (.int .i64 x1)) r q ba bc n f t1) := h1.setN far1 0 _);
        (have f1s : Hid (Fr r q w (w1.setCell ⟨w.heap.size + 1, 0, none⟩ (.int .i64 x1))) := (hF0.trans f1).setN (Nat.le_succ _) 0 _);
        clear b1X b1Y h1)
    | (go_at_call 66; (with_reducible refine (c2 _ h1s.out).mono ?_); rintro e w2 ⟨rfl, h2, f2⟩; clear b10 b11 b12 b13 bz1 bl1; (have b2X := f2.held B11.out far1); (have b2Y := f2.held B10.out far0); (have b20 := whole_cell b2X 0 _ rfl); (have b21 := whole_cell b2X 1 _ rfl); (have b22 := whole_cell b2X 2 _ rfl); (have b23 := whole_cell b2X 3 _ rfl); (have bz2 := fun o => whole_frozen b2X o); (have bl2 := (Array.getElem?_eq_some_iff.mp b2X).1);
        (have B21 : Hid ((w2.setCell ⟨w.heap.size + 1, 1, none⟩ (.int .i64 x2)).heap[w.heap.size + 1]? = some (.cells #[.int .i64 x1, .int .i64 x2, .slice none 0 0, .slice none 0 0] 56 (0, 0))) := set_to b2X 1 (.int .i64 x2) rfl);
        (have B20 : Hid ((w2.setCell ⟨w.heap.size + 1, 1, none⟩ (.int .i64 x2)).heap[w.heap.size]? = some objF0) := (heap_setCell_other _ _ _ _ (by show w.heap.size ≠ w.heap.size + 1; omega)).trans b2Y);
        (have h2s : Hid (RdS (w2.setCell ⟨w.heap.size + 1, 1, none⟩ (.int .i64 x2)) r q ba bc n f t2) := h2.setN far1 1 _);
        (have f2s : Hid (Fr r q w (w2.setCell ⟨w.heap.size + 1, 1, none⟩ (.int .i64 x2))) := (f1s.out.trans f2).setN (Nat.le_succ _) 1 _);
        (have z2 : Hid (w.heap.size + 1 + 1 ≤ (w2.setCell ⟨w.heap.size + 1, 1, none⟩ (.int .i64 x2)).heap.size) := by
          have q1 := f1.size
          rw [hzH.out] at q1
          have q2 := f2.size
          rw [World.size_setCell] at q2
          show _ ≤ _
          rw [World.size_setCell]
          omega);
        clear b2X b2Y h2)
    | (go_at_call 97; (with_reducible refine (c3 _ h2s.out).mono ?_); rintro e w3 ⟨sa, scap, l3, rfl, hp3, hO3, ho3, h3, f3⟩; clear b20 b21 b22 b23 bz2 bl2; (have b3X := f3.held B21.out far1); (have b3Y := f3.held B20.out far0); (have b30 := whole_cell b3X 0 _ rfl); (have b31 := whole_cell b3X 1 _ rfl); (have b32 := whole_cell b3X 2 _ rfl); (have b33 := whole_cell b3X 3 _ rfl); (have bz3 := fun o => whole_frozen b3X o); (have bl3 := (Array.getElem?_eq_some_iff.mp b3X).1);
        (have B31 : Hid ((w3.setCell ⟨w.heap.size + 1, 3, none⟩ (.slice sa l3.length scap)).heap[w.heap.size + 1]? = some (.cells #[.int .i64 x1, .int .i64 x2, .slice none 0 0, .slice sa l3.length scap] 56 (0, 0))) := set_to b3X 3 (.slice sa l3.length scap) rfl);
        (have B30 : Hid ((w3.setCell ⟨w.heap.size + 1, 3, none⟩ (.slice sa l3.length scap)).heap[w.heap.size]? = some objF0) := (heap_setCell_other _ _ _ _ (by show w.heap.size ≠ w.heap.size + 1; omega)).trans b3Y);
        (have h3s : Hid (RdS (w3.setCell ⟨w.heap.size + 1, 3, none⟩ (.slice sa l3.length scap)) r q ba bc n f t3) := h3.setN far1 3 _);
        (have f3s : Hid (Fr r q w (w3.setCell ⟨w.heap.size + 1, 3, none⟩ (.slice sa l3.length scap))) := (f2s.out.trans f3).setN (Nat.le_succ _) 3 _);
        (have hp3H : Hid (l3.map MSel.sel = p3) := hp3); clear hp3;
        (have O3 : Hid (OwnL (w3.setCell ⟨w.heap.size + 1, 3, none⟩ (.slice sa l3.length scap)) (w.heap.size + 1 + 1) 59 2 sa scap (l3.map MSel.cells)) := own_mono (own_keep hO3 fun b hb => heap_setCell_other _ _ _ _ (by have := (blk_lt hO3 b hb).1; have := z2.out; show b ≠ w.heap.size + 1; omega)) z2.out);
        (have P3 : Hid (∀ x ∈ l3, x.own (w3.setCell ⟨w.heap.size + 1, 3, none⟩ (.slice sa l3.length scap)) (w.heap.size + 1 + 1)) := fun x hx => ((ho3 x hx).keep fun b hb => heap_setCell_other _ _ _ _ (by have := (blk_lt (ho3 x hx) b hb).1; have := z2.out; show b ≠ w.heap.size + 1; omega)).mono z2.out);
        (have z3 : Hid (w.heap.size + 1 + 1 ≤ (w3.setCell ⟨w.heap.size + 1, 3, none⟩ (.slice sa l3.length scap)).heap.size) := by
          have q1 := z2.out
          have q2 := f3.size
          show _ ≤ _
          rw [World.size_setCell]
          omega);
        clear b3X b3Y h3 hO3 ho3)
    | (go_at_call 99; (with_reducible refine (c4 _ h3s.out f3s.out).mono ?_); rintro e w4 ⟨ca, ccap, rfl, hO4, h4, f4⟩; clear b30 b31 b32 b33 bz3 bl3; (have b4X := f4.held B31.out far1); (have b4Y := f4.held B30.out far0); (have b40 := whole_cell b4X 0 _ rfl); (have b41 := whole_cell b4X 1 _ rfl); (have b42 := whole_cell b4X 2 _ rfl); (have b43 := whole_cell b4X 3 _ rfl); (have bz4 := fun o => whole_frozen b4X o); (have bl4 := (Array.getElem?_eq_some_iff.mp b4X).1); (have e0 := whole_cell b4Y 0 _ rfl); (have e1 := whole_cell b4Y 1 _ rfl); (have e2 := whole_cell b4Y 2 _ rfl); (have e3 := whole_cell b4Y 3 _ rfl); (have ez := fun o => whole_frozen b4Y o); (have el := (Array.getElem?_eq_some_iff.mp b4Y).1)))
  have kf : ∀ b, b ≠ w.heap.size → b ≠ w.heap.size + 1 → (((((w4.setCell ⟨w.heap.size + 1, 2, none⟩ (.slice ca l4.length ccap)).setCell ⟨w.heap.size, 0, none⟩ (.int .i64 x1)).setCell ⟨w.heap.size, 1, none⟩ (.int .i64 x2)).setCell ⟨w.heap.size, 2, none⟩ (.slice ca l4.length ccap)).setCell ⟨w.heap.size, 3, none⟩ (.slice sa l3.length scap)).heap[b]? = w4.heap[b]? := fun b hb hb1 =>
    (heap_setCell_other _ _ _ _ hb).trans ((heap_setCell_other _ _ _ _ hb).trans ((heap_setCell_other _ _ _ _ hb).trans ((heap_setCell_other _ _ _ _ hb).trans (heap_setCell_other _ _ _ _ hb1))))
  have k4 : ∀ b, w.heap.size + 1 + 1 ≤ b → b < (w3.setCell ⟨w.heap.size + 1, 3, none⟩ (.slice sa l3.length scap)).heap.size → (((((w4.setCell ⟨w.heap.size + 1, 2, none⟩ (.slice ca l4.length ccap)).setCell ⟨w.heap.size, 0, none⟩ (.int .i64 x1)).setCell ⟨w.heap.size, 1, none⟩ (.int .i64 x2)).setCell ⟨w.heap.size, 2, none⟩ (.slice ca l4.length ccap)).setCell ⟨w.heap.size, 3, none⟩ (.slice sa l3.length scap)).heap[b]? = (w3.setCell ⟨w.heap.size + 1, 3, none⟩ (.slice sa l3.length scap)).heap[b]? := fun b hb hl =>
    (kf b (by omega) (by omega)).trans (f4.block b hl (by have := hltr.out; omega) (by have := hltq.out; omega))
  refine bodyPost_ret (v := MFn.val ⟨x1, x2, ca, ccap, l4, sa, scap, l3⟩) ?_ rfl ⟨⟨x1, x2, ca, ccap, l4, sa, scap, l3⟩, rfl, ?_, ⟨?_, ?_, ?_⟩, ?_, ?_⟩
  · clear kf k4
    simp [results, Tryz.results69, go_sem, b40, b41, b42, b43, e0, e1, e2, e3]
  · simp only [MFn.fn, hp3H.out]
  · have z := z3.out
    exact own_mono (own_keep hO4 fun b hb => kf b (by have := (blk_lt hO4 b hb).1; omega) (by have := (blk_lt hO4 b hb).1; omega)) (by omega)
  · exact own_mono (own_keep O3.out fun b hb => k4 b (blk_lt O3.out b hb).1 (blk_lt O3.out b hb).2) (by omega)
  · exact fun x hx => ((P3.out x hx).keep fun b hb => k4 b (blk_lt (P3.out x hx) b hb).1 (blk_lt (P3.out x hx) b hb).2).mono (by omega)
  · exact ((((h4.setN far1 2 _).setN far0 0 _).setN far0 1 _).setN far0 2 _).setN far0 3 _
  · exact (((((f3s.out.trans f4).setN (Nat.le_succ _) 2 _).setN (Nat.le_refl _) 0 _).setN (Nat.le_refl _) 1 _).setN (Nat.le_refl _) 2 _).setN (Nat.le_refl _) 3 _
set_option maxHeartbeats 4000000 in
theorem list_Func (h : RdS w r q ba bc n f s) (hF : ∀ wx, Fr r q w wx → prog.Forms wx) (m : Int) (hm0 : 0 ≤ m) (hm : m ≤ 1000) :
    Calls Tryz.prog 68 #[.pointer (some ⟨r, 0, none⟩), .int .u64 m, .func (.func 69) #[.pointer (some ⟨r, 0, none⟩)] #[]] w fun e w' => ∃ a cap, ∃ l : List MFn, e = .returned (.slice a l.length cap) ∧ l.map MFn.fn = (rdList f n m (rdFn f n) s).1 ∧ OwnL w' w.heap.size 56 4 a cap (l.map MFn.cells) ∧ (∀ x ∈ l, MFn.own w' w.heap.size x) ∧ RdS w' r q ba bc n f (rdList f n m (rdFn f n) s).2 ∧ Fr r q w w' := by
  have c1 : Calls Tryz.prog 93 #[.pointer (some ⟨r, 0, none⟩), .int .u64 m] w _ := count_r h m hm0 hm
  obtain ⟨i5, hi5, hz5, hs5, hb5⟩ := info_of infoF
  have hrg := rdCnt_range h.row.2.1 m hm0 s (n := n)
  obtain ⟨N, hN⟩ : ∃ N : Nat, (rdCnt f n m s).1 = N := ⟨_, (Int.toNat_of_nonneg hrg.1).symm⟩
  obtain ⟨s0, hs0⟩ : ∃ s0, (rdCnt f n m s).2 = s0 := ⟨_, rfl⟩
  have hL : rdList f n m (rdFn f n) s = rdMany (rdFn f n) N s0 := by unfold rdList; rw [hN, hs0]; rfl
  have hNm : N ≤ 1000 := by omega
  rw [hL]
  rw [hN, hs0] at c1
  have hltr := h.ltr
  have hltq := h.ltq
  have hlb : Hid (∀ b ∈ blk ba, b < w.heap.size) := fun b hb => (h.bl b hb).2.2
  clear h hL hN hs0 hrg
  go_enter Tryz.func68, Tryz.ntmps68
  go_wp2_with (go_at_call 93; (with_reducible refine c1.mono ?_); rintro e w1 ⟨rfl, h1, f1⟩)
  go_loopw [7, 11] (fun u v wr => ∃ (j : Nat) (va : Option Addr) (vc : Nat) (l : List MFn), j ≤ N ∧ u = .slice va j vc ∧ v = .int .i64 j ∧ Hid (l.map MFn.fn = (rdMany (rdFn f n) j s0).1) ∧ OwnL wr w.heap.size 56 4 va vc (l.map MFn.cells) ∧ Hid (∀ x ∈ l, MFn.own wr w.heap.size x) ∧ RdS wr r q ba bc n f (rdMany (rdFn f n) j s0).2 ∧ Fr r q w wr) (fun _ v _ => N - (intOf v).toNat)
  case atStart => exact ⟨0, none, 0, [], Nat.zero_le _, rfl, rfl, rfl, own_nil _ _ _ _, fun x hx => absurd hx (by simp), h1, f1⟩
  case round =>
    clear h1 f1 c1
    obtain ⟨j, va, vc, l, hj, rfl, rfl, hl, ow, ho, h1, f1⟩ := hrel
    have hlen : Hid (l.length = j) := by have := congrArg List.length hl.out; rw [List.length_map, many_len] at this; exact this
    by_cases hlt : j < N
    · have hjI : (j : Int) < N := by omega
      have c2 : Calls Tryz.prog 69 #[.pointer (some ⟨r, 0, none⟩)] wr _ := function_r h1 (fun wx hx => hF wx (f1.trans hx))
      have hM : Hid (rdMany (rdFn f n) (j + 1) s0 = ((rdMany (rdFn f n) j s0).1 ++ [((rdFn f n) (rdMany (rdFn f n) j s0).2).1], ((rdFn f n) (rdMany (rdFn f n) j s0).2).2)) := rfl
      generalize ((rdFn f n) (rdMany (rdFn f n) j s0).2).1 = y at *
      generalize ((rdFn f n) (rdMany (rdFn f n) j s0).2).2 = t at *
      generalize (rdMany (rdFn f n) j s0).1 = l0 at *
      clear h1
      go_wp2_with (first
        | (go_at_call 69; (with_reducible refine c2.mono ?_); rintro e w2 ⟨x, rfl, hx, hox, h2, f2⟩;
            (have hxH : Hid (MFn.fn x = y) := hx); clear hx;
            (have hoxH : Hid (MFn.own w2 wr.heap.size x) := hox); clear hox;
            (have f12 : Fr r q w w2 := f1.trans f2);
            (have ow2 : Hid (OwnL (w2.alloc (objF x)) w.heap.size 56 4 va vc (l.map MFn.cells)) := own_keep ow fun b hb => by
              have hbb := blk_lt ow b hb
              exact ((boxed _ _).block b (Nat.lt_of_lt_of_le hbb.2 f2.size)).trans (f2.block b hbb.2 (by omega) (by omega)));
            (have hrow : Hid (Rows (w2.alloc (objF x)) 4 (some ⟨w2.heap.size, 0, none⟩) 1 [MFn.cells x]) := rows_one (heap_alloc_new w2 _) rfl);
            (have hbs : Hid (w.heap.size ≤ (w2.alloc (objF x)).heap.size) := by have := f12.size; simp only [Hid, World.size_alloc]; omega))
        | (at_builtin; (refine wpList_app rfl (.tmp 13) (.tmp 16) 24 rfl w.heap.size 56 i5 _ 4 64 Tryz.underlying24 hi5 hz5 hs5 hb5 rfl (by decide) va vc (l.map MFn.cells) (by rw [List.length_map, hlen.out]; rfl) ow2.out (some ⟨w2.heap.size, 0, none⟩) 1 [MFn.cells x] rfl hrow.out (len4f [x]) (one4f [x]) (by have := hlen.out; unfold maxLen; simp only [List.length_map, List.length_singleton]; omega) (by have := hlen.out; simp only [List.length_map, List.length_singleton]; omega) hbs.out ?_); intro va' vc' w3 ho3 hk3 hB3 hbl3; simp only [List.length_append, List.length_map, List.length_singleton] at ⊢))
      go_roundw
      case rel =>
        have hva : ∀ b, b < w.heap.size → b ∉ blk va := fun b hb hm => by have := (blk_lt ow b hm).1; omega
        have hsz : w2.heap.size + 1 ≤ w3.heap.size := by have := hB3.size; rw [World.size_alloc] at this; exact this
        have k3 : ∀ b, b < w2.heap.size → b ∉ blk va → w3.heap[b]? = w2.heap[b]? := fun b hb hm => (hk3 b (by rw [World.size_alloc]; omega) hm).trans ((boxed _ _).block b hb)
        have h3 : RdS w3 r q ba bc n f t := h2.keep (fun b hh => by
          have : b < w.heap.size := by rcases hh with e | e | e; exact e ▸ hltr; exact e ▸ hltq; exact hlb.out b e
          exact k3 b (by have := f12.size; omega) (hva b this)) (by omega)
        have f3 : Fr r q w w3 := ⟨hB3.os.trans f12.os, hB3.tape.trans f12.tape, hB3.output.trans f12.output, by have := f12.size; omega, fun b hb a1 a2 => (k3 b (by have := f12.size; omega) (hva b hb)).trans (f12.block b hb a1 a2)⟩
        have ow2' : OwnL w2 w.heap.size 56 4 va vc (l.map MFn.cells) := own_keep ow fun b hb => by
          have hbb := blk_lt ow b hb
          exact f2.block b hbb.2 (by omega) (by omega)
        have o2 : ∀ z ∈ l ++ [x], MFn.own w2 w.heap.size z := fun z hz => by
          rcases List.mem_append.mp hz with hz | hz
          · exact (ho.out z hz).keep fun b hb => by
              obtain ⟨cur, t, hc, _, hlo⟩ := (ho.out z hz).tag b hb
              exact f2.block b (Array.getElem?_eq_some_iff.mp hc).1 (by omega) (by omega)
          · rw [List.mem_singleton] at hz
            rw [hz]
            exact hoxH.out.mono f1.size
        have o3 : ∀ z ∈ l ++ [x], MFn.own w3 w.heap.size z := fun z hz => (o2 z hz).keep fun b hb => by
          obtain ⟨cur, t, hc, hne, hlo⟩ := (o2 z hz).tag b hb
          exact k3 b (Array.getElem?_eq_some_iff.mp hc).1 (fun hm => by obtain ⟨cur', hc'⟩ := tag_own ow2' hm; rw [hc] at hc'; simp only [Option.some.injEq, Obj.cells.injEq] at hc'; exact hne hc'.2.1)
        exact ⟨j + 1, va', vc', l ++ [x], by omega, by rw [hlen.out], by go_num, by show _ = _; rw [hM.out, List.map_append, hl.out]; simp [hxH.out], by rw [List.map_append]; exact ho3, o3, by rw [hM.out]; exact h3, f3⟩
      case measure => simp [intOf]; omega
    · have hj2 : j = N := by omega
      subst hj2
      go_wp2
      go_ret
      exact ⟨va, vc, l, by rw [hlen.out]; rfl, hl.out, ow, ho.out, h1, f1⟩
end
end Go.Proofs.YtonkcnaijcpfdaaGreatDoor.pg
