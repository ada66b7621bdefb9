/- The reader of package code in memory: a program. -/
import Derived.Test.YtonkcnaijcpfdaaGreatDoorM19
import Derived.Test.YtonkcnaijcpfdaaGreatDoorM17
import Derived.BigRegion
import Derived.Lib.SliceRun
import Derived.Test.YtonkcnaijcpfdaaGreatDoorM8
import Derived.Laws.BytesArg
namespace Go.Proofs.YtonkcnaijcpfdaaGreatDoor.pg
open Go.ChangeShapes Go.WideShapes Go.ChangeAt Go.RowKit
set_option linter.unusedVariables false
set_option linter.unusedSimpArgs false
set_option maxRecDepth 100000
abbrev objP0 : Obj := .cells #[.slice none 0 0, .int .i64 0, .slice none 0 0, .slice none 0 0] 26
theorem rdPr_eq (f : Nat → Nat) (n : Nat) (s : RS) : rdPr f n s = (⟨(rdList f n 8 (rdVar f n) s).1, (rdNum f n (rdList f n 8 (rdVar f n) s).2).1, (rdList f n 4 (rdNum f n) (rdNum f n (rdList f n 8 (rdVar f n) s).2).2).1, (rdList f n 8 (rdFn f n) (rdList f n 4 (rdNum f n) (rdNum f n (rdList f n 8 (rdVar f n) s).2).2).2).1⟩, (rdList f n 8 (rdFn f n) (rdList f n 4 (rdNum f n) (rdNum f n (rdList f n 8 (rdVar f n) s).2).2).2).2) := rfl
section
variable {w w' : World} {r q bc n : Nat} {ba : Option Addr} {f : Nat → Nat} {s : RS}
set_option maxHeartbeats 4000000 in
theorem program_r (h : RdS w r q ba bc n f s) (hF : ∀ wx, Fr r q w wx → prog.Forms wx) : Calls Tryz.prog 42 #[.pointer (some ⟨r, 0, none⟩)] w fun e w' => ∃ m : MPr, e = .returned m.val ∧ m.pr = (rdPr f n s).1 ∧ m.own w' w.heap.size ∧ RdS w' r q ba bc n f (rdPr f n s).2 ∧ Fr r q w w' := by
  have a0 := two_first w objP0 objP0
  have a1 := two_second w objP0 objP0
  have hz := two_size w objP0 objP0
  have far0 := h.far _ (Nat.le_refl _)
  have far1 : w.heap.size + 1 ≠ r ∧ w.heap.size + 1 ≠ q ∧ w.heap.size + 1 ∉ blk ba := h.far _ (Nat.le_succ _)
  have hF0 : Fr r q w ((w.alloc objP0).alloc objP0) := Fr.of (boxed2 w _ _)
  have h0 := h.later (boxed2 w objP0 objP0)
  have c1 : Calls Tryz.prog 64 #[.pointer (some ⟨r, 0, none⟩), .int .u64 8, .func (.func 65) #[.pointer (some ⟨r, 0, none⟩)] #[]] ((w.alloc objP0).alloc objP0) _ := list_Var h0 8 (by decide) (by decide)
  have c2 : ∀ wx, RdS wx r q ba bc n f (rdList f n 8 (rdVar f n) s).2 → Calls Tryz.prog 66 #[.pointer (some ⟨r, 0, none⟩)] wx _ := fun wx hx => number_r hx
  have c3 : ∀ wx, RdS wx r q ba bc n f (rdNum f n (rdList f n 8 (rdVar f n) s).2).2 → Calls Tryz.prog 67 #[.pointer (some ⟨r, 0, none⟩), .int .u64 4, .func (.func 66) #[.pointer (some ⟨r, 0, none⟩)] #[]] wx _ := fun wx hx => list_Int hx 4 (by decide) (by decide)
  have c4 : ∀ wx, RdS wx r q ba bc n f (rdList f n 4 (rdNum f n) (rdNum f n (rdList f n 8 (rdVar f n) s).2).2).2 → Fr r q w wx → Calls Tryz.prog 68 #[.pointer (some ⟨r, 0, none⟩), .int .u64 8, .func (.func 69) #[.pointer (some ⟨r, 0, none⟩)] #[]] wx _ := fun wx hx hf => list_Func hx (fun wy hy => hF wy (hf.trans hy)) 8 (by decide) (by decide)
  rw [rdPr_eq]
  generalize (rdList f n 8 (rdFn f n) (rdList f n 4 (rdNum f n) (rdNum f n (rdList f n 8 (rdVar f n) s).2).2).2).1 = p4 at *
  generalize (rdList f n 8 (rdFn f n) (rdList f n 4 (rdNum f n) (rdNum f n (rdList f n 8 (rdVar f n) s).2).2).2).2 = t4 at *
  generalize (rdList f n 4 (rdNum f n) (rdNum f n (rdList f n 8 (rdVar f n) s).2).2).1 = l3 at *
  generalize (rdList f n 4 (rdNum f n) (rdNum f n (rdList f n 8 (rdVar f n) s).2).2).2 = t3 at *
  generalize (rdNum f n (rdList f n 8 (rdVar f n) s).2).1 = x2 at *
  generalize (rdNum f n (rdList f n 8 (rdVar f n) s).2).2 = t2 at *
  generalize (rdList f n 8 (rdVar f n) s).1 = l1 at *
  generalize (rdList f n 8 (rdVar f n) s).2 = t1 at *
  have hzH : Hid _ := hz
  have hltr : Hid (r < w.heap.size) := h.ltr
  have hltq : Hid (q < w.heap.size) := h.ltq
  clear h h0 hz hF
  go_enter Tryz.func42, Tryz.ntmps42
  go_wp2_with (first
    | (go_at_call 64; (with_reducible refine c1.mono ?_); rintro e w1 ⟨va, vcap, rfl, hO1, h1, f1⟩; (have b1X := f1.held a1 far1); (have b1Y := f1.held a0 far0); (have b10 := whole_cell b1X 0 _ rfl); (have b11 := whole_cell b1X 1 _ rfl); (have b12 := whole_cell b1X 2 _ rfl); (have b13 := whole_cell b1X 3 _ rfl); (have bz1 := fun o => whole_frozen b1X o); (have bl1 := (Array.getElem?_eq_some_iff.mp b1X).1);
        (have B11 : Hid ((w1.setCell ⟨w.heap.size + 1, 0, none⟩ (.slice va l1.length vcap)).heap[w.heap.size + 1]? = some (.cells #[.slice va l1.length vcap, .int .i64 0, .slice none 0 0, .slice none 0 0] 26 (0, 0))) := set_to b1X 0 (.slice va l1.length vcap) rfl);
        (have B10 : Hid ((w1.setCell ⟨w.heap.size + 1, 0, none⟩ (.slice va l1.length vcap)).heap[w.heap.size]? = some objP0) := (heap_setCell_other _ _ _ _ (by show w.heap.size ≠ w.heap.size + 1; omega)).trans b1Y);
        (have h1s : Hid (RdS (w1.setCell ⟨w.heap.size + 1, 0, none⟩ (.slice va l1.length vcap)) r q ba bc n f t1) := h1.setN far1 0 _);
        (have f1s : Hid (Fr r q w (w1.setCell ⟨w.heap.size + 1, 0, none⟩ (.slice va l1.length vcap))) := (hF0.trans f1).setN (Nat.le_succ _) 0 _);
        (have O1 : Hid (OwnL (w1.setCell ⟨w.heap.size + 1, 0, none⟩ (.slice va l1.length vcap)) (w.heap.size + 1 + 1) 75 2 va vcap (l1.map Vr.cells)) := by
          rw [hzH.out] at hO1
          exact own_keep hO1 fun b hb => heap_setCell_other _ _ _ _ (by have := (blk_lt hO1 b hb).1; show b ≠ w.heap.size + 1; omega));
        (have z1 : Hid (w.heap.size + 1 + 1 ≤ (w1.setCell ⟨w.heap.size + 1, 0, none⟩ (.slice va l1.length vcap)).heap.size) := by
          have q1 := f1.size
          rw [hzH.out] at q1
          show _ ≤ _
          rw [World.size_setCell]
          exact q1);
        clear b1X b1Y h1 hO1 f1)
    | (go_at_call 66; (with_reducible refine (c2 _ h1s.out).mono ?_); rintro e w2 ⟨rfl, h2, f2⟩; clear b10 b11 b12 b13 bz1 bl1; (have b2X := f2.held B11.out far1); (have b2Y := f2.held B10.out far0); (have b20 := whole_cell b2X 0 _ rfl); (have b21 := whole_cell b2X 1 _ rfl); (have b22 := whole_cell b2X 2 _ rfl); (have b23 := whole_cell b2X 3 _ rfl); (have bz2 := fun o => whole_frozen b2X o); (have bl2 := (Array.getElem?_eq_some_iff.mp b2X).1);
        (have B21 : Hid ((w2.setCell ⟨w.heap.size + 1, 1, none⟩ (.int .i64 x2)).heap[w.heap.size + 1]? = some (.cells #[.slice va l1.length vcap, .int .i64 x2, .slice none 0 0, .slice none 0 0] 26 (0, 0))) := set_to b2X 1 (.int .i64 x2) rfl);
        (have B20 : Hid ((w2.setCell ⟨w.heap.size + 1, 1, none⟩ (.int .i64 x2)).heap[w.heap.size]? = some objP0) := (heap_setCell_other _ _ _ _ (by show w.heap.size ≠ w.heap.size + 1; omega)).trans b2Y);
        (have h2s : Hid (RdS (w2.setCell ⟨w.heap.size + 1, 1, none⟩ (.int .i64 x2)) r q ba bc n f t2) := h2.setN far1 1 _);
        (have f2s : Hid (Fr r q w (w2.setCell ⟨w.heap.size + 1, 1, none⟩ (.int .i64 x2))) := (f1s.out.trans f2).setN (Nat.le_succ _) 1 _);
        (have z2 : Hid ((w1.setCell ⟨w.heap.size + 1, 0, none⟩ (.slice va l1.length vcap)).heap.size ≤ (w2.setCell ⟨w.heap.size + 1, 1, none⟩ (.int .i64 x2)).heap.size) := by have := f2.size; show _ ≤ _; rw [World.size_setCell]; rw [World.size_setCell] at this ⊢; exact this);
        (have K2 : Hid (∀ b, w.heap.size + 1 + 1 ≤ b → b < (w1.setCell ⟨w.heap.size + 1, 0, none⟩ (.slice va l1.length vcap)).heap.size → (w2.setCell ⟨w.heap.size + 1, 1, none⟩ (.int .i64 x2)).heap[b]? = (w1.setCell ⟨w.heap.size + 1, 0, none⟩ (.slice va l1.length vcap)).heap[b]?) := fun b hb hl => (heap_setCell_other _ _ _ _ (by show b ≠ w.heap.size + 1; omega)).trans (f2.block b hl (by have := hltr.out; omega) (by have := hltq.out; omega)));
        clear b2X b2Y h2 f2)
    | (go_at_call 67; (with_reducible refine (c3 _ h2s.out).mono ?_); rintro e w3 ⟨cha, chcap, rfl, hO3, h3, f3⟩; clear b20 b21 b22 b23 bz2 bl2; (have b3X := f3.held B21.out far1); (have b3Y := f3.held B20.out far0); (have b30 := whole_cell b3X 0 _ rfl); (have b31 := whole_cell b3X 1 _ rfl); (have b32 := whole_cell b3X 2 _ rfl); (have b33 := whole_cell b3X 3 _ rfl); (have bz3 := fun o => whole_frozen b3X o); (have bl3 := (Array.getElem?_eq_some_iff.mp b3X).1);
        (have B31 : Hid ((w3.setCell ⟨w.heap.size + 1, 2, none⟩ (.slice cha l3.length chcap)).heap[w.heap.size + 1]? = some (.cells #[.slice va l1.length vcap, .int .i64 x2, .slice cha l3.length chcap, .slice none 0 0] 26 (0, 0))) := set_to b3X 2 (.slice cha l3.length chcap) rfl);
        (have B30 : Hid ((w3.setCell ⟨w.heap.size + 1, 2, none⟩ (.slice cha l3.length chcap)).heap[w.heap.size]? = some objP0) := (heap_setCell_other _ _ _ _ (by show w.heap.size ≠ w.heap.size + 1; omega)).trans b3Y);
        (have h3s : Hid (RdS (w3.setCell ⟨w.heap.size + 1, 2, none⟩ (.slice cha l3.length chcap)) r q ba bc n f t3) := h3.setN far1 2 _);
        (have f3s : Hid (Fr r q w (w3.setCell ⟨w.heap.size + 1, 2, none⟩ (.slice cha l3.length chcap))) := (f2s.out.trans f3).setN (Nat.le_succ _) 2 _);
        (have O3 : Hid (OwnL (w3.setCell ⟨w.heap.size + 1, 2, none⟩ (.slice cha l3.length chcap)) (w.heap.size + 1 + 1) 3 1 cha chcap (l3.map chCells)) := own_mono (own_keep hO3 fun b hb => heap_setCell_other _ _ _ _ (by have := (blk_lt hO3 b hb).1; have := z2.out; have := z1.out; show b ≠ w.heap.size + 1; omega)) (Nat.le_trans z1.out z2.out));
        (have z3 : Hid ((w2.setCell ⟨w.heap.size + 1, 1, none⟩ (.int .i64 x2)).heap.size ≤ (w3.setCell ⟨w.heap.size + 1, 2, none⟩ (.slice cha l3.length chcap)).heap.size) := by have := f3.size; show _ ≤ _; rw [World.size_setCell]; rw [World.size_setCell] at this ⊢; exact this);
        (have K3 : Hid (∀ b, w.heap.size + 1 + 1 ≤ b → b < (w2.setCell ⟨w.heap.size + 1, 1, none⟩ (.int .i64 x2)).heap.size → (w3.setCell ⟨w.heap.size + 1, 2, none⟩ (.slice cha l3.length chcap)).heap[b]? = (w2.setCell ⟨w.heap.size + 1, 1, none⟩ (.int .i64 x2)).heap[b]?) := fun b hb hl => (heap_setCell_other _ _ _ _ (by show b ≠ w.heap.size + 1; omega)).trans (f3.block b hl (by have := hltr.out; omega) (by have := hltq.out; omega)));
        clear b3X b3Y h3 hO3 f3)
    | (go_at_call 68; (with_reducible refine (c4 _ h3s.out f3s.out).mono ?_); rintro e w4 ⟨fa, fcap, l4, rfl, hp4, hO4, ho4, h4, f4⟩; (have hp4H : Hid (l4.map MFn.fn = p4) := hp4); clear hp4; clear b30 b31 b32 b33 bz3 bl3; (have b4X := f4.held B31.out far1); (have b4Y := f4.held B30.out far0); (have b40 := whole_cell b4X 0 _ rfl); (have b41 := whole_cell b4X 1 _ rfl); (have b42 := whole_cell b4X 2 _ rfl); (have b43 := whole_cell b4X 3 _ rfl); (have bz4 := fun o => whole_frozen b4X o); (have bl4 := (Array.getElem?_eq_some_iff.mp b4X).1); (have e0 := whole_cell b4Y 0 _ rfl); (have e1 := whole_cell b4Y 1 _ rfl); (have e2 := whole_cell b4Y 2 _ rfl); (have e3 := whole_cell b4Y 3 _ rfl); (have ez := fun o => whole_frozen b4Y o); (have el := (Array.getElem?_eq_some_iff.mp b4Y).1)))
  have kf : ∀ b, b ≠ w.heap.size → b ≠ w.heap.size + 1 → (((((w4.setCell ⟨w.heap.size + 1, 3, none⟩ (.slice fa l4.length fcap)).setCell ⟨w.heap.size, 0, none⟩ (.slice va l1.length vcap)).setCell ⟨w.heap.size, 1, none⟩ (.int .i64 x2)).setCell ⟨w.heap.size, 2, none⟩ (.slice cha l3.length chcap)).setCell ⟨w.heap.size, 3, none⟩ (.slice fa l4.length fcap)).heap[b]? = w4.heap[b]? := fun b hb hb1 =>
    (heap_setCell_other _ _ _ _ hb).trans ((heap_setCell_other _ _ _ _ hb).trans ((heap_setCell_other _ _ _ _ hb).trans ((heap_setCell_other _ _ _ _ hb).trans (heap_setCell_other _ _ _ _ hb1))))
  have k4 : ∀ b, w.heap.size + 1 + 1 ≤ b → b < (w3.setCell ⟨w.heap.size + 1, 2, none⟩ (.slice cha l3.length chcap)).heap.size → (((((w4.setCell ⟨w.heap.size + 1, 3, none⟩ (.slice fa l4.length fcap)).setCell ⟨w.heap.size, 0, none⟩ (.slice va l1.length vcap)).setCell ⟨w.heap.size, 1, none⟩ (.int .i64 x2)).setCell ⟨w.heap.size, 2, none⟩ (.slice cha l3.length chcap)).setCell ⟨w.heap.size, 3, none⟩ (.slice fa l4.length fcap)).heap[b]? = (w3.setCell ⟨w.heap.size + 1, 2, none⟩ (.slice cha l3.length chcap)).heap[b]? := fun b hb hl =>
    (kf b (by omega) (by omega)).trans (f4.block b hl (by have := hltr.out; omega) (by have := hltq.out; omega))
  have k2 : ∀ b, w.heap.size + 1 + 1 ≤ b → b < (w1.setCell ⟨w.heap.size + 1, 0, none⟩ (.slice va l1.length vcap)).heap.size → (((((w4.setCell ⟨w.heap.size + 1, 3, none⟩ (.slice fa l4.length fcap)).setCell ⟨w.heap.size, 0, none⟩ (.slice va l1.length vcap)).setCell ⟨w.heap.size, 1, none⟩ (.int .i64 x2)).setCell ⟨w.heap.size, 2, none⟩ (.slice cha l3.length chcap)).setCell ⟨w.heap.size, 3, none⟩ (.slice fa l4.length fcap)).heap[b]? = (w1.setCell ⟨w.heap.size + 1, 0, none⟩ (.slice va l1.length vcap)).heap[b]? := fun b hb hl =>
    (k4 b hb (Nat.lt_of_lt_of_le hl (Nat.le_trans z2.out z3.out))).trans ((K3.out b hb (Nat.lt_of_lt_of_le hl z2.out)).trans (K2.out b hb hl))
  have zz : w.heap.size + 1 + 1 ≤ (w3.setCell ⟨w.heap.size + 1, 2, none⟩ (.slice cha l3.length chcap)).heap.size := Nat.le_trans z1.out (Nat.le_trans z2.out z3.out)
  refine bodyPost_ret (v := MPr.val ⟨va, vcap, l1, x2, cha, chcap, l3, fa, fcap, l4⟩) ?_ rfl ⟨⟨va, vcap, l1, x2, cha, chcap, l3, fa, fcap, l4⟩, rfl, ?_, ⟨?_, ?_, ?_, ?_⟩, ?_, ?_⟩
  · clear kf k4 k2 zz
    simp [results, Tryz.results42, go_sem, b40, b41, b42, b43, e0, e1, e2, e3]
  · simp only [MPr.pr, hp4H.out]
  · exact own_mono (own_keep O1.out fun b hb => k2 b (blk_lt O1.out b hb).1 (blk_lt O1.out b hb).2) (by omega)
  · exact own_mono (own_keep O3.out fun b hb => k4 b (blk_lt O3.out b hb).1 (blk_lt O3.out b hb).2) (by omega)
  · exact own_mono (own_keep hO4 fun b hb => kf b (by have := (blk_lt hO4 b hb).1; omega) (by have := (blk_lt hO4 b hb).1; omega)) (by omega)
  · intro x hx
    refine MFn.own.mono ((ho4 x hx).keep fun b hb => ?_) (lo := (w3.setCell ⟨w.heap.size + 1, 2, none⟩ (.slice cha l3.length chcap)).heap.size) (by omega)
    obtain ⟨_, _, _, _, hlo⟩ := (ho4 x hx).tag b hb
    exact kf b (by omega) (by omega)
  · exact ((((h4.setN far1 3 _).setN far0 0 _).setN far0 1 _).setN far0 2 _).setN far0 3 _
  · exact (((((f3s.out.trans f4).setN (Nat.le_succ _) 3 _).setN (Nat.le_refl _) 0 _).setN (Nat.le_refl _) 1 _).setN (Nat.le_refl _) 2 _).setN (Nat.le_refl _) 3 _
end
end Go.Proofs.YtonkcnaijcpfdaaGreatDoor.pg
/- A reader in memory: the contract of Take, and of a new reader, of any bytes, none too. -/
namespace Go.Proofs.YtonkcnaijcpfdaaGreatDoor.octet
open Go.ChangeShapes Go.WideShapes Go.ChangeAt Go.RowKit
open wrapped
set_option linter.unusedVariables false
theorem take_none (b : Nat) (a : Option Addr) (n c k : Nat) (q : Int) (w : World) (h : Rd w b 129 (.slice a n c) k) (hk : k ≤ n) (hn : (n : Int) ≤ 9223372036854775807) (l1 : -9223372036854775808 ≤ q) (l2 : q ≤ 9223372036854775807) (R : Int)
    (hR : (q < 0 ∧ R = 1) ∨ (0 ≤ q ∧ (n : Int) - k < q ∧ R = 10) ∨ (q = 0 ∧ R = 0)) :
    Calls Tryz.prog 62 #[rp b, .int .i64 q] w fun e w' => e = .returned (.tuple #[.slice none 0 0, .int .i64 R]) ∧ w' = w := by
  have cL := left_any b a n c k w h hk hn
  have hkI : (0 : Int) ≤ (n : Int) - (k : Int) := by omega
  clear h hk
  rcases hR with ⟨h1, rfl⟩ | ⟨h1, h2, rfl⟩ | ⟨rfl, rfl⟩
  · go_enter Tryz.func62, Tryz.ntmps62
    go_wp2
    go_ret2
    exact ⟨rfl, rfl⟩
  · go_enter Tryz.func62, Tryz.ntmps62
    go_wp2_with (go_at_call 92; with_reducible refine cL.mono ?_; rintro e w' ⟨rfl, hw⟩; replace hw := hw.symm; subst hw)
    go_ret2
    exact ⟨rfl, rfl⟩
  · go_enter Tryz.func62, Tryz.ntmps62
    go_wp2_with (go_at_call 92; with_reducible refine cL.mono ?_; rintro e w' ⟨rfl, hw⟩; replace hw := hw.symm; subst hw)
    go_ret2
    exact ⟨rfl, rfl⟩
theorem part_cells {w : World} {base g n c k q : Nat} {f : Nat → Nat} (ho : Owns w base g n c f) (hq : k + q ≤ n) (j : Nat) (v : Value) (hj : (bl (fun i => f (k + i)) q)[j]? = some v) : w.cell? ((⟨g, k, none⟩ : Addr).add j) = some v := by
  have hjn : j < q := by
    have := (List.getElem?_eq_some_iff.mp hj).1
    rwa [bl_length] at this
  rw [bl_get _ _ _ hjn] at hj
  have := World.ownsRow.cellAt ho (k + j) (by omega)
  rw [bl_get _ _ _ (by omega)] at this
  rw [← hj, ← this]
  by_cases h0 : j = 0
  · subst h0; simp [Addr.add]
  · simp [Addr.add, h0]
set_option maxHeartbeats 2000000 in
set_option maxRecDepth 100000 in
theorem take_some (b base g n c k q : Nat) (f : Nat → Nat) (w : World) (h : Rd w b 129 (mine g n c) k) (ho : Owns w base g n c f) (hq0 : 0 < q) (hq : k + q ≤ n) (hnc : n ≤ c) (hc : (c : Int) ≤ 9223372036854775807) (hn : (n : Int) ≤ 140737488351300) :
    Calls Tryz.prog 62 #[rp b, .int .i64 ((q : Nat) : Int)] w fun e w' => e = .returned (.tuple #[mine w.heap.size q q, .int .i64 0]) ∧
      ∃ w1, Below w.heap.size w w1 ∧ Owns w1 w.heap.size w.heap.size q q (fun i => f (k + i)) ∧ w' = w1.setCell ⟨b, 1, none⟩ (.int .i64 ((k + q : Nat) : Int)) := by
  obtain ⟨i0, hi, hz0, hz1, hz2⟩ := info_parts info5
  have hsz1 : (Tryz.prog.info? 5).map (·.size) = some 1 := by rw [hi]; simp [hz1]
  have cL := left_any b (some ⟨g, 0, none⟩) n c k w h (by omega) (by omega)
  have c0 := h.c0
  have c1 := h.c1
  have fz := h.fz 1
  have hS : ∀ w', Below w.heap.size w w' → w'.cell? ⟨b, 0, none⟩ = some (mine g n c) ∧ w'.cell? ⟨b, 1, none⟩ = some (.int .i64 k) ∧ w'.frozen? ⟨b, 1, none⟩ = false := fun w' hb => ⟨(h.later hb).c0, (h.later hb).c1, (h.later hb).fz 1⟩
  have hsrc : ∀ w', Below w.heap.size w w' → ∀ j v, (bl (fun i => f (k + i)) q)[j]? = some v → w'.cell? ((⟨g, k, none⟩ : Addr).add j) = some v := fun w' hb => part_cells (Owns.later ho hb) hq
  have hq1 : (0 : Int) < (q : Int) := by omega
  have hq2 : (k : Int) + (q : Int) ≤ (n : Int) := by omega
  have hq3 : ¬ ((n : Int) - (k : Int) < (q : Int)) := by omega
  have hk0 : (0 : Int) ≤ (k : Int) := by omega
  have hk1 : (k : Int) ≤ (n : Int) := by omega
  have hncI : (n : Int) ≤ (c : Int) := by omega
  have hkc : k < c := by omega
  clear h ho
  go_enter Tryz.func62, Tryz.ntmps62
  go_wp2_with (first
    | (go_at_call 92; with_reducible refine cL.mono ?_; rintro e w' ⟨rfl, hw⟩; replace hw := hw.symm; subst hw)
    | (at_make; refine wpList_make_lc _ rfl _ _ 28 rfl 5 i0 (.int .u8 0) Tryz.underlying28 hi hz0 rfl hz1 .i64 .i64 _ _ q q rfl rfl rfl rfl (Nat.le_refl _) (by rw [hz2]; omega) (by omega) ?_; intro w1 hh1 hb1))
  have hh1d : w1.drew.heap[w.heap.size]? = some (.cells (List.replicate q (Value.int .u8 0)).toArray 5 (0, 0)) := hh1.out
  have hcp := run_copy_row (P := Tryz.prog) w1.drew 28 28 3 5 w.heap.size 0 q q ⟨g, k, none⟩ (n - k) (c - k) (List.replicate q (Value.int .u8 0)).toArray 5 (bl (fun i => f (k + i)) q) Tryz.underlying28 hsz1 hh1d (by rw [bl_length]; show q = min (n - k) q; omega) (hsrc _ hb1.drew) (by simp [bl_length]) (bl_one _ q)
  rw [bl_length] at hcp
  have hb2 := below_setRow (cs := ((List.replicate q (Value.int .u8 0)).toArray.toList.take 0 ++ bl (fun i => f (k + i)) q ++ (List.replicate q (Value.int .u8 0)).toArray.toList.drop (0 + q)).toArray) hb1.drew (Nat.le_refl _)
  have ho2 : Owns (w1.drew.setRow w.heap.size ((List.replicate q (Value.int .u8 0)).toArray.toList.take 0 ++ bl (fun i => f (k + i)) q ++ (List.replicate q (Value.int .u8 0)).toArray.toList.drop (0 + q)).toArray) w.heap.size w.heap.size q q (fun i => f (k + i)) := by
    refine owns_copied _ w.heap.size q q _ (Nat.le_refl _) (by omega) ?_
    rw [setRow_heap _ _ _ _ _ _ hh1d]
    simp [splice, bl_length]
  generalize w1.drew.setRow w.heap.size ((List.replicate q (Value.int .u8 0)).toArray.toList.take 0 ++ bl (fun i => f (k + i)) q ++ (List.replicate q (Value.int .u8 0)).toArray.toList.drop (0 + q)).toArray = w2 at *
  obtain ⟨d10, d11, d12⟩ := hS _ hb1.drew
  obtain ⟨d20, d21, d22⟩ := hS _ hb2
  have hcp' : Sem.run Tryz.prog (Builtin.copy_ #[28, 28] 3 #[.slice (some ⟨w.heap.size, 0, none⟩) q q, .slice (some ⟨g, k, none⟩) (n - k) (c - k)]) w1.drew = .ok (.int .i64 ((q : Nat) : Int)) w2 := hcp
  clear hS hsrc hcp cL hh1 hh1d
  have hwk : IntKind.i64.wrap ((k : Int) + (q : Int)) = ((k + q : Nat) : Int) := by rw [IntKind.wrap_i64]; omega
  go_region
  go_wp2
  go_ret2
  exact ⟨rfl, w2, hb2, ho2, rfl⟩
theorem owns_lit (w : World) : (w.alloc (.cells #[] 5)).ownsRow w.heap.size 5 1 (mine w.heap.size 0 0) 0 [] := World.ownsRow_lit w #[] 0 (Nat.le_refl _) (by unfold maxLen; decide) rfl
theorem own_ge {w : World} {base n : Nat} {v : Value} {xs : List Value} (h : w.ownsRow base 5 1 v n xs) : ∀ k, v.ownBlock = some k → base ≤ k := by
  intro k hk
  rcases h.2 with ⟨rfl, _⟩ | ⟨g, c, cur, rfl, hbs, _⟩
  · simp [Value.ownBlock] at hk
  · simp [Value.ownBlock] at hk; omega
theorem clone_some (ad : Addr) (n c : Nat) (f : Nat → Nat) (w : World) (hr : Row w (some ad) n f) (hl : (n : Int) ≤ 140737488351232) :
    Calls Tryz.prog 61 #[.slice (some ad) n c] w fun e w' => ∃ g c', e = .returned (mine g n c') ∧ Owns w' w.heap.size g n c' f ∧ Below w.heap.size w w' ∧ n ≤ c' ∧ (c' : Int) ≤ 9223372036854775807 := by
  obtain ⟨i0, hi, hz0, hz1, hz2⟩ := info_parts info5
  have o0 := owns_lit w
  have hrI : ∀ w', Below w.heap.size w w' → Row w' (some ad) n f := fun w' h => hr.later h
  have hb0 : Below w.heap.size w (w.alloc (.cells #[] 5)) := (Below.refl _ w).alloc (Nat.le_refl _) _
  have hnil := fun w => Lib.run_eql_slice_nil (P := Tryz.prog) w 28 5 (some ad) n c 0 0 Tryz.underlying28
  clear hr
  go_enter Tryz.func61, Tryz.ntmps61
  go_wp2_with (at_builtin; go_loud (refine wpList_append_own _ rfl (.tmp 5) (.tmp 6) 28 rfl w.heap.size 5 i0 (.int .u8 0) 1 1 Tryz.underlying28 hi hz0 hz1 hz2 rfl (by decide) (mine w.heap.size 0 0) 0 [] rfl o0 ad n c (bl f n) rfl (by rw [bl_length]; omega) (Row.cells (hrI _ hb0) _ rfl) (bl_one f n) (by unfold maxLen; omega) (by omega) hb0.size ?_; intro v1 w1 ho1 hg1 hn1))
  simp only [Nat.zero_add, List.nil_append] at ho1
  have hb1 : Below w.heap.size w w1 := hb0.grown hg1 hb0.size (own_ge o0)
  have hv : ∃ g c', v1 = mine g n c' ∧ Owns w1 w.heap.size g n c' f ∧ n ≤ c' ∧ (c' : Int) ≤ 9223372036854775807 := by
    rcases ho1.2 with ⟨h1, _⟩ | ⟨g, c', cur, rfl, hr⟩
    · have := (hn1.1 h1).1; cases this
    · have hm := hr.2.2.2.1
      unfold maxLen at hm
      exact ⟨g, c', rfl, ⟨ho1.1, .inr ⟨g, c', cur, rfl, hr⟩⟩, hr.2.2.1, by omega⟩
  obtain ⟨g, c', rfl, ho, hc1, hc2⟩ := hv
  clear ho1 hg1 hn1
  go_ret
  exact ⟨g, c', rfl, ho, hb1, hc1, hc2⟩
theorem clone_nil (w : World) : Calls Tryz.prog 61 #[.slice none 0 0] w fun e w' => e = .returned (.slice none 0 0) ∧ w' = w := by
  have hnil := fun w => Lib.run_eql_slice_nil (P := Tryz.prog) w 28 5 none 0 0 0 0 Tryz.underlying28
  go_enter Tryz.func61, Tryz.ntmps61
  go_wp2
  go_ret
  exact ⟨rfl, rfl⟩
/-- What a new reader is. -/
def NewRd (n : Nat) (f : Nat → Nat) (w : World) (e : Ending) (w' : World) : Prop :=
  ∃ r ba bc, e = .returned (rp r) ∧ Rd w' r 129 (.slice ba n bc) 0 ∧ Row w' ba n f ∧ Below w.heap.size w w' ∧ w.heap.size ≤ r ∧ (n = 0 ∧ ba = none ∨ ∃ g, ba = some ⟨g, 0, none⟩ ∧ Owns w' w.heap.size g n bc f ∧ w.heap.size ≤ g ∧ g < w'.heap.size ∧ g ≠ r ∧ n ≤ bc ∧ (bc : Int) ≤ 9223372036854775807)
theorem newreader_some (ad : Addr) (n c : Nat) (f : Nat → Nat) (w : World) (hr : Row w (some ad) n f) (hl : (n : Int) ≤ 140737488351232) :
    Calls Tryz.prog 40 #[.slice (some ad) n c] w (NewRd n f w) := by
  have cC := clone_some ad n c f w hr hl
  have hf := hr.2.1
  clear hr
  go_enter Tryz.func40, Tryz.ntmps40
  go_wp2_with (go_at_call 61; with_reducible refine cC.mono ?_; rintro e w1 ⟨g, c', rfl, ho, hb, hc1, hc2⟩)
  go_ret
  have hg : w.heap.size ≤ g ∧ g < w1.heap.size := by
    refine ⟨?_, Owns.block ho⟩
    rcases ho.2 with ⟨h', _⟩ | ⟨g', cap', cur, h', hbs, _⟩
    · simp at h'
    · simp only [Value.slice.injEq, Option.some.injEq, Addr.mk.injEq, and_true, true_and] at h'
      obtain ⟨rfl, rfl⟩ := h'
      exact hbs
  have hb2 : Below w1.heap.size w1 (w1.alloc (.cells #[mine g n c', .int .i64 0] 129)) := (Below.refl _ w1).alloc (Nat.le_refl _) _
  have ho2 := Owns.later ho hb2
  refine ⟨w1.heap.size, some ⟨g, 0, none⟩, c', rfl, heap_alloc_new w1 _, Owns.row ho2 (by omega) hf, hb.trans (hb2.mono hb.size), hb.size, .inr ⟨g, rfl, ho2, hg.1, ?_, by omega, hc1, hc2⟩⟩
  rw [World.size_alloc]; omega
theorem newreader_nil (f : Nat → Nat) (hf : ∀ i, f i < 256) (w : World) : Calls Tryz.prog 40 #[.slice none 0 0] w (NewRd 0 f w) := by
  have cC := clone_nil w
  go_enter Tryz.func40, Tryz.ntmps40
  go_wp2_with (go_at_call 61; with_reducible refine cC.mono ?_; rintro e w' ⟨rfl, hw⟩; replace hw := hw.symm; subst hw)
  go_ret
  exact ⟨w.heap.size, none, 0, rfl, heap_alloc_new w _, ⟨by decide, hf, .inl rfl⟩, (Below.refl _ w).alloc (Nat.le_refl _) _, Nat.le_refl _, .inl ⟨rfl, rfl⟩⟩
end Go.Proofs.YtonkcnaijcpfdaaGreatDoor.octet
/- Bytes turned into a text, and the contract of the statements' SameBytes. -/
namespace Go.Proofs.YtonkcnaijcpfdaaGreatDoor.octet
open Go.ChangeShapes Go.WideShapes Go.ChangeAt Go.RowKit
open wrapped
set_option linter.unusedVariables false
/-- The text of n bytes. -/
def strOf (f : Nat → Nat) (n : Nat) : ByteArray := strOfNums ((List.range n).map fun i => ((f i : Nat) : Int))
theorem conv_any (w : World) (a : Option Addr) (n c : Nat) (f : Nat → Nat) (hr : Row w a n f) : (convert 28 9 (.slice a n c)).run Tryz.prog w = .ok (.string (strOf f n)) w := by
  rcases hr.2.2 with h0 | ⟨b, off, rfl, hc⟩
  · subst h0
    cases a with
    | none => exact run_convert_bytes_nil w 28 5 Tryz.underlying28 Tryz.underlying5 0 c 9 Tryz.underlying9
    | some ad =>
      have hl : (loadCells ad 0).run Tryz.prog w = .ok #[] w := by simpa using run_loadCells_list (P := Tryz.prog) w ad [] (fun j v hj => by simp at hj)
      rw [run_convert_bytes_string w 28 9 5 _ 0 c Tryz.underlying28 Tryz.underlying5 Tryz.underlying9, run_bytesToString w _ 0 c [] hl]
      rfl
  · refine run_convert_bytes_arg w 28 5 Tryz.underlying28 Tryz.underlying5 b off n c ((List.range n).map fun i => ((f i : Nat) : Int)) (by simp) (fun i hi => ?_) 9 Tryz.underlying9
    rw [hc i hi]
    simp [List.getD, hi]
/-- Are two lists of bytes the same? -/
def sameB (f : Nat → Nat) (n : Nat) (g : Nat → Nat) (m : Nat) : Bool := (strOf f n).toList == (strOf g m).toList
theorem sameB_iff (f g : Nat → Nat) (n m : Nat) (hf : ∀ i, f i < 256) (hg : ∀ i, g i < 256) : sameB f n g m = true ↔ n = m ∧ ∀ i, i < n → f i = g i := by
  have hd : ∀ (f : Nat → Nat) (n : Nat), (strOf f n).toList = (List.range n).map fun i => UInt8.ofNat (f i) := fun f n => by
    rw [ByteArray.toList_eq]; unfold strOf; rw [strOfNums_data, List.map_map]; rfl
  unfold sameB
  rw [beq_iff_eq, hd, hd]
  constructor
  · intro h
    have hl := congrArg List.length h
    simp at hl
    subst hl
    refine ⟨rfl, fun i hi => ?_⟩
    have h2 := congrArg (fun l => l[i]?) h
    simp [hi] at h2
    have h3 := congrArg UInt8.toNat h2
    simp at h3
    have := hf i
    have := hg i
    omega
  · rintro ⟨rfl, h⟩
    refine List.map_congr_left fun i hi => ?_
    rw [h i (by simpa using hi)]
theorem same_any (a b : Option Addr) (n m c d : Nat) (f g : Nat → Nat) (w : World) (h1 : Row w a n f) (h2 : Row w b m g) (r : Bool) (hr : sameB f n g m = r) :
    Calls Tryz.prog 13 #[.slice a n c, .slice b m d] w fun e w' => e = .returned (.bool r) ∧ w' = w := by
  have e1 := conv_any w a n c f h1
  have e2 := conv_any w b m d g h2
  have hr2 : ((strOf f n).toList == (strOf g m).toList) = r := hr
  generalize strOf f n = A at e1 hr2
  generalize strOf g m = B at e2 hr2
  clear hr h1 h2
  go_enter Tryz.func13, Tryz.ntmps13
  go_wp2
  go_ret
  exact ⟨rfl, rfl⟩
end Go.Proofs.YtonkcnaijcpfdaaGreatDoor.octet
