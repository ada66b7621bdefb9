/- The events that touch an object, by package depend; DependUses, walked. -/
import Derived.Test.YtklpifammbnldaaM19
import Derived.Test.YtklpifammbnldaaM27
import Derived.Test.YtklpifammbnldaaM1
namespace Go.Proofs.Ytklpifammbnldaa.pg
open Go.ChangeShapes Go.WideShapes Go.ChangeAt Go.RowKit
set_option linter.unusedVariables false
set_option linter.unusedSimpArgs false
set_option maxRecDepth 100000
attribute [local go_sem ↓] Go.wp_at_zero Go.wp_at_succ
/-- Events that came in. -/
def EvsIn (w : World) (b : Option Addr) (c : Nat) (l : List Ev) : Prop := Rows w 26 b c (l.map Ev.cells) ∧ ∀ x ∈ l, x.wf
section
variable {H : Type} {enc : TypeId × Value → H} {w : World} {base : Nat} {spare : Nat → Bool} {held : Bool}
theorem evs_sz {n : Nat} {a : Option Addr} {len cap : Nat} {y : DataW H × List MemPlace} (h : DataW.trod enc Try.prog w base spare held n 44 [.slice a len cap] = some y) (hs : Sz Try.prog 44 y.1) : ∃ l : List Ev, l.length = len ∧ EvsIn w a cap l := by
  obtain ⟨l, rfl, h1, h2, h3⟩ := rows_sz (k := 26) ev0 Ev.cells Ev.wf Try.underlying44 (by kernel_rfl) (by omega) (fun n cs y hl h _ => ev_in hl h) h hs
  exact ⟨l, rfl, h1, h2⟩
end
set_option maxHeartbeats 1000000 in
theorem sameInts_u (l : List Int) (a b : Option Addr) (ca cb : Nat) (w : World) (ha : Rows w 1 a ca (l.map chCells)) (hb : Rows w 1 b cb (l.map chCells)) :
    Calls Try.prog 16 #[.slice a l.length ca, .slice b l.length cb] w fun e w' => e = .returned (.bool true) ∧ Below w.heap.size w w' := by
  have hlI : (l.length : Int) ≤ 9223372036854775807 := rows_len ha
  go_enter Try.func16, Try.ntmps16
  go_wp2_with fail
  go_loopw [13] (fun u wr => ∃ k : Nat, k ≤ l.length ∧ u = .int .i64 k ∧ Below w.heap.size w wr) (fun u _ => l.length - (intOf u).toNat)
  case atStart => exact ⟨0, Nat.zero_le _, rfl, Below.refl _ _⟩
  case round =>
    obtain ⟨k, hk, rfl, hbe⟩ := hrel
    by_cases hlt : k < l.length
    · obtain ⟨y, hy, hym⟩ := get_lt l k hlt
      obtain ⟨b1, o1, hix1, hbl1, c1⟩ := ch_ix (ha.later hbe) k y hy
      obtain ⟨b2, o2, hix2, hbl2, c2⟩ := ch_ix (hb.later hbe) k y hy
      have hkI : (k : Int) < l.length := by omega
      go_wp2_with fail
      go_quiet (fail)
      go_wp2
      go_roundw
      case rel => exact ⟨k + 1, by omega, by go_num, below_drewN hbe _⟩
      case measure => simp [intOf]; omega
    · have hk2 : k = l.length := by omega
      subst hk2
      go_wp2
      go_ret
      exact ⟨rfl, hbe⟩
end Go.Proofs.Ytklpifammbnldaa.pg
/- Whether an order fits and keeps time and turns; what every statement asks first. -/
namespace Go.Proofs.Ytklpifammbnldaa.pg
open Go.ChangeShapes Go.WideShapes Go.ChangeAt Go.RowKit
set_option linter.unusedVariables false
set_option linter.unusedSimpArgs false
set_option maxRecDepth 100000
attribute [local go_sem ↓] Go.wp_at_zero Go.wp_at_succ
theorem results_tmp4 {fn : Func} {t u v x : Tmp} (h : fn.results = #[.tmp t, .tmp u, .tmp v, .tmp x]) (tmps : Array Value) (P : Program) (w : World) :
    (results fn tmps).run P w = .ok (.tuple #[tmps.getD t undef, tmps.getD u undef, tmps.getD v undef, tmps.getD x undef]) w := by
  simp [results, h]
theorem rows_ints {W : World} {B : Nat} {L : List Int} {t : TypeId} (h : W.heap[B]? = some (.cells (L.map fun x => Value.int .i64 x).toArray t (0, 0))) (hl : L.length ≤ 256) : Rows W 1 (some ⟨B, 0, none⟩) L.length (L.map chCells) := by
  refine ⟨by simp, by omega, by simp, .inr ⟨B, 0, rfl, (Array.getElem?_eq_some_iff.mp h).1, fun i row hi => ?_⟩⟩
  rw [List.getElem?_map] at hi
  cases hx : L[i]? with
  | none => rw [hx] at hi; cases hi
  | some x =>
    rw [hx] at hi
    cases hi
    refine ⟨rfl, fun j u hj => ?_⟩
    have hj0 : j = 0 := by have := (List.getElem?_eq_some_iff.mp hj).1; simp [chCells] at this; omega
    subst hj0
    cases hj
    rw [cell_of_row W B _ _ _ _ h]
    simp [hx]
section
variable {w : World} {k : Int} {h : List Cl} {ha oa : Option Addr} {hc oc : Nat} {rel : Cl → Cl → Bool} {r : List Nat} {o : List Int}
set_option maxHeartbeats 2000000 in
theorem fits_no (hh : Rows w 7 ha hc (h.map Cl.cells)) (hR : ¬ RightH k h) (y : Value) : Calls Try.prog 17 #[.int .i64 k, .slice ha h.length hc, y] w fun e w' => e = .returned (.tuple #[.bool false, .bool false, .bool false, .int .i64 260]) ∧ Below w.heap.size w w' := by
  have cF := follow_no hh hR y
  clear hh hR
  go_enter Try.func17, Try.ntmps17
  go_wp2_with (first
    | (go_at_call 33; (with_reducible refine cF.mono ?_); rintro e w1 ⟨rfl, hb1⟩; (have hbH : Hid (Below w.heap.size w w1) := hb1); clear hb1 cF)
    | ((with_reducible refine at_allocL 59 rfl ?_); refine stopL_out ?_; refine wpList_alloc_big rfl 59 rfl zeroCo ?_)
    | ((with_reducible refine at_storeL 59 _ _ rfl ?_); refine stopL_out ?_; refine wpList_store_row rfl 59 _ _ rfl w1.heap.size z9 rfl rfl _ _ (heap_alloc_new _ _) infoC9 rfl z9_one ?_))
  exact bodyPost_ret (results_tmp4 rfl _ _ _) rfl ⟨rfl, bthen hbH.out new_row.2⟩
set_option maxHeartbeats 2000000 in
theorem fits_bad (hh : Rows w 7 ha hc (h.map Cl.cells)) (hR : RightH k h) (ho : Rows w 1 oa oc (o.map chCells)) (hol : o.length < 2 ^ 62) (hor : isOrdB h o = false) : Calls Try.prog 17 #[.int .i64 k, .slice ha h.length hc, .slice oa o.length oc] w fun e w' => e = .returned (.tuple #[.bool false, .bool false, .bool false, .int .i64 1]) ∧ Below w.heap.size w w' := by
  have cF := follow_bad hh hR ho hol hor
  clear hh hR ho hol hor
  go_enter Try.func17, Try.ntmps17
  go_wp2_with (first
    | (go_at_call 33; (with_reducible refine cF.mono ?_); rintro e w1 ⟨rfl, hb1⟩; (have hbH : Hid (Below w.heap.size w w1) := hb1); clear hb1 cF)
    | ((with_reducible refine at_allocL 59 rfl ?_); refine stopL_out ?_; refine wpList_alloc_big rfl 59 rfl zeroCo ?_)
    | ((with_reducible refine at_storeL 59 _ _ rfl ?_); refine stopL_out ?_; refine wpList_store_row rfl 59 _ _ rfl w1.heap.size z9 rfl rfl _ _ (heap_alloc_new _ _) infoC9 rfl z9_one ?_))
  exact bodyPost_ret (results_tmp4 rfl _ _ _) rfl ⟨rfl, bthen hbH.out new_row.2⟩
set_option maxHeartbeats 2000000 in
theorem fits_ok (hh : Rows w 7 ha hc (h.map Cl.cells)) (hI : ∀ x ∈ h, I64 x.inn) (hR : RightH k h) (ho : Rows w 1 oa oc ((asI r).map chCells)) (hor : isOrdB h (asI r) = true) (hr : ∀ x ∈ r, x < h.length) (hr8 : r.length ≤ 8) : Calls Try.prog 17 #[.int .i64 k, .slice ha h.length hc, .slice oa r.length oc] w fun e w' => e = .returned (.tuple #[.bool (runC k h (firstC k) r).2, .bool (keepsB endB h r), .bool (keepsB turnB h r), .int .i64 0]) ∧ Below w.heap.size w w' := by
  have cF := follow_ok hh hI hR ho hor hr hr8
  have hKH : Hid (∀ wx, Below w.heap.size w wx → Rows wx 7 ha hc (h.map Cl.cells) ∧ Rows wx 1 oa oc ((asI r).map chCells)) := fun wx q => ⟨hh.later q, ho.later q⟩
  have cE : ∀ wx, Below w.heap.size w wx → Calls Try.prog 34 #[.slice ha h.length hc, .slice oa r.length oc, .func (.func 30) #[] #[]] wx _ := fun wx q => keeps_any (rel := endB) 30 relF_end hr (hKH.out wx q).1 (hKH.out wx q).2
  have cT : ∀ wx, Below w.heap.size w wx → Calls Try.prog 34 #[.slice ha h.length hc, .slice oa r.length oc, .func (.func 31) #[] #[]] wx _ := fun wx q => keeps_any (rel := turnB) 31 relF_turn hr (hKH.out wx q).1 (hKH.out wx q).2
  clear hh hI hR ho hor hr hr8
  go_enter Try.func17, Try.ntmps17
  go_wp2_with (first
    | (go_at_call 33; (with_reducible refine cF.mono ?_); rintro e w1 ⟨rfl, hb1⟩; (have hbH : Hid (Below w.heap.size w w1) := hb1); clear hb1 cF)
    | ((with_reducible refine at_allocL 59 rfl ?_); refine stopL_out ?_; refine wpList_alloc_big rfl 59 rfl zeroCo ?_)
    | ((with_reducible refine at_storeL 59 _ _ rfl ?_); refine stopL_out ?_; refine wpList_store_row rfl 59 _ _ rfl w1.heap.size (vC (runC k h (firstC k) r).1) rfl rfl _ _ (heap_alloc_new _ _) infoC9 rfl (vC_one _) ?_)
    | (go_at_call 34; (with_reducible refine (cE _ (bthen hbH.out new_row.2)).mono ?_); rintro e w2 ⟨rfl, hb2⟩; (have hbE : Hid (Below w.heap.size w w2) := bthen (bthen hbH.out new_row.2) hb2); clear hb2 cE)
    | (go_at_call 34; (with_reducible refine (cT _ hbE.out).mono ?_); rintro e w3 ⟨rfl, hb3⟩; (have hbT : Hid (Below w.heap.size w w3) := bthen hbE.out hb3); clear hb3))
  exact bodyPost_ret (results_tmp4 rfl _ _ _) rfl ⟨rfl, hbT.out⟩
end
/-- The chapter's first example. -/
def exA : Cl := ⟨0, 2, 1, 0, false, 0, 3⟩
def exB : Cl := ⟨1, 1, 0, 0, false, 1, 2⟩
def exC : Cl := ⟨1, 1, 0, 0, false, 4, 5⟩
theorem ex_right1 : RightH 1 [exA, exB] := ⟨by decide, by decide, by decide, by decide⟩
theorem ex_right2 : RightH 1 [exA, exC] := ⟨by decide, by decide, by decide, by decide⟩
theorem ex_fs1 : fsB 1 endB [exA, exB] (fun _ => false) (firstC 1) = some [1, 0] := by decide
theorem ex_fs2 : fsB 1 endB [exA, exC] (fun _ => false) (firstC 1) = none := by decide
theorem bld_A : ∀ w, (Instr.build 53 #[(1, .int .i64 2), (2, .int .i64 1), (5, .int .i64 0), (6, .int .i64 3)]).run Try.prog w = .ok exA.val w := fun w => by kernel_rfl
theorem bld_B : ∀ w, (Instr.build 53 #[(0, .int .i64 1), (1, .int .i64 1), (5, .int .i64 1), (6, .int .i64 2)]).run Try.prog w = .ok exB.val w := fun w => by kernel_rfl
theorem rows_ex {W : World} {B : Nat} (x y : Cl) (h : W.heap[B]? = some (.cells (x.cells ++ y.cells).toArray 53 (0, 0))) : Rows W 7 (some ⟨B, 0, none⟩) 2 ([x, y].map Cl.cells) := by
  have ho : OwnL W 0 53 7 (some ⟨B, 0, none⟩) 2 ([x, y].map Cl.cells) := ⟨rfl, .inr ⟨B, 2, (x.cells ++ y.cells).toArray, rfl, Nat.zero_le _, h, Nat.le_refl _, by unfold maxLen; omega, rfl, rfl⟩⟩
  exact own_rows ho (by simp [Cl.cells])
theorem findV_some {k : Int} {h : List Cl} {rel : Cl → Cl → Bool} {a : Option Addr} {n c : Nat} {b : Bool} {x : Int} {w' : World} {lo : Nat} {r : List Nat} (q : FindV k h rel lo a n c b x w') (hR : RightH k h) (hf : fsB k rel h (fun _ => false) (firstC k) = some r) : n = r.length ∧ b = true ∧ x = 0 ∧ Rows w' 1 a c ((asI r).map chCells) ∧ ∀ g ∈ blk a, lo ≤ g := by
  rcases q with ⟨q, _⟩ | ⟨_, rfl, ⟨q, _⟩ | ⟨r', q, rfl, rfl, ho, hl⟩⟩
  · exact absurd hR q
  · rw [hf] at q; cases q
  · rw [hf] at q; cases q
    exact ⟨rfl, rfl, rfl, ho, hl⟩
theorem findV_none {k : Int} {h : List Cl} {rel : Cl → Cl → Bool} {a : Option Addr} {n c : Nat} {b : Bool} {x : Int} {w' : World} {lo : Nat} (q : FindV k h rel lo a n c b x w') (hR : RightH k h) (hf : fsB k rel h (fun _ => false) (firstC k) = none) : a = none ∧ n = 0 ∧ c = 0 ∧ b = false ∧ x = 0 := by
  rcases q with ⟨q, _⟩ | ⟨_, rfl, ⟨_, rfl, rfl, rfl, rfl⟩ | ⟨r', q, rfl, rfl, ho, hl⟩⟩
  · exact absurd hR q
  · exact ⟨rfl, rfl, rfl, rfl, rfl⟩
  · rw [hf] at q; cases q
theorem findV_bad {k : Int} {h : List Cl} {rel : Cl → Cl → Bool} {a : Option Addr} {n c : Nat} {b : Bool} {x : Int} {w' : World} {lo : Nat} (q : FindV k h rel lo a n c b x w') (hR : ¬ RightH k h) : a = none ∧ n = 0 ∧ c = 0 ∧ b = false ∧ x = 260 := by
  rcases q with ⟨_, q⟩ | ⟨q, _⟩
  · exact q
  · exact absurd q hR
theorem ex_I1 : ∀ x ∈ [exA, exB], I64 x.inn := by
  intro x hx
  simp at hx
  rcases hx with rfl | rfl <;> (unfold I64; decide)
theorem ex_I2 : ∀ x ∈ [exA, exC], I64 x.inn := by
  intro x hx
  simp at hx
  rcases hx with rfl | rfl <;> (unfold I64; decide)
abbrev exO1 : Obj := .cells #[.int .i64 0, .int .i64 2, .int .i64 1, .int .i64 0, .bool false, .int .i64 0, .int .i64 3, .int .i64 1, .int .i64 1, .int .i64 0, .int .i64 0, .bool false, .int .i64 1, .int .i64 2] 53
abbrev exO2 : Obj := .cells #[.int .i64 0, .int .i64 2, .int .i64 1, .int .i64 0, .bool false, .int .i64 0, .int .i64 3, .int .i64 1, .int .i64 1, .int .i64 0, .int .i64 0, .bool false, .int .i64 4, .int .i64 5] 53
theorem rows_keepL {w w' : World} {k : Nat} {a : Option Addr} {cap : Nat} {L : List (List Value)} (h : Rows w k a cap L) (hk : ∀ g ∈ blk a, w'.heap[g]? = w.heap[g]?) : Rows w' k a cap L := by
  obtain ⟨h1, h2, h3, h4⟩ := h
  refine ⟨h1, h2, h3, h4.imp_right fun ⟨b, off, ha, hlt, hc⟩ => ?_⟩
  have hb := hk b (by rw [ha]; simp [blk])
  refine ⟨b, off, ha, ?_, fun i row hi => ⟨(hc i row hi).1, fun j u hj => ?_⟩⟩
  · rw [Array.getElem?_eq_getElem hlt] at hb
    exact (Array.getElem?_eq_some_iff.mp hb).1
  · rw [World.cell?_of_block hb]
    exact (hc i row hi).2 j u hj
theorem ex_after {w w1 V1 V2 : World} {a : Option Addr} {c : Nat} (h : w1.heap[w.heap.size]? = some exO1 ∧ Below w.heap.size w w1 ∧ Rows w1 1 a c ((asI [1, 0]).map chCells) ∧ ∀ g ∈ blk a, w.heap.size < g) (h1 : V1 = w1.setCell ⟨w.heap.size, 12, none⟩ (.int .i64 4)) (h2 : V2 = V1.setCell ⟨w.heap.size, 13, none⟩ (.int .i64 5)) : V2.heap[w.heap.size]? = some exO2 ∧ Below w.heap.size w V2 ∧ Rows V2 1 a c ((asI [1, 0]).map chCells) := by
  have e1 := heap_setCell_same w1 w.heap.size 12 _ _ (.int .i64 4) h.1
  have hk : ∀ b, b ≠ w.heap.size → V2.heap[b]? = w1.heap[b]? := fun b hb => by
    rw [h2, h1]
    exact (heap_setCell_other _ ⟨w.heap.size, 13, none⟩ _ _ hb).trans (heap_setCell_other _ ⟨w.heap.size, 12, none⟩ _ _ hb)
  refine ⟨?_, ?_, ?_⟩
  · rw [h2, h1]
    exact heap_setCell_same _ w.heap.size 13 _ _ (.int .i64 5) e1
  · rw [h2, h1]
    exact (h.2.1.setCell (p := ⟨w.heap.size, 12, none⟩) (Nat.le_refl _) _).setCell (p := ⟨w.heap.size, 13, none⟩) (Nat.le_refl _) _
  · exact rows_keepL h.2.2.1 fun g hg => hk g (by have := h.2.2.2 g hg; omega)
theorem rows_nil7 (w : World) : Rows w 7 none 0 (([] : List Cl).map Cl.cells) := ⟨Nat.le_refl _, by decide, fun _ => ⟨rfl, rfl⟩, .inl rfl⟩
set_option maxHeartbeats 4000000 in
theorem speaks_lin (w : World) : Calls Try.prog 13 #[] w fun e w' => e = .returned (.bool true) ∧ Below w.heap.size w w' := by
  have hb0 : Hid ((w.alloc exO1).heap[w.heap.size]? = some exO1 ∧ Below w.heap.size w (w.alloc exO1)) := ⟨heap_alloc_new _ _, boxed _ _⟩
  have c1 : ∀ wx, wx.heap[w.heap.size]? = some exO1 → Calls Try.prog 11 #[.int .i64 1, .slice (some ⟨w.heap.size, 0, none⟩) 2 2] wx _ := fun wx q => linear_any (k := 1) (h := [exA, exB]) (rows_ex exA exB q) ex_I1
  have c2 : ∀ wx, wx.heap[w.heap.size]? = some exO2 → Calls Try.prog 11 #[.int .i64 1, .slice (some ⟨w.heap.size, 0, none⟩) 2 2] wx _ := fun wx q => linear_any (k := 1) (h := [exA, exC]) (rows_ex exA exC q) ex_I2
  have c9 : ∀ wx, Calls Try.prog 10 #[.int .i64 9, .slice none 0 0] wx _ := fun wx => check_no (k := 9) (h := []) (rows_nil7 wx) (fun q => by have := q.kd.2; omega)
  have cSS : ∀ (a : Option Addr) (c : Nat) (wx : World), Rows wx 1 a c ((asI [1, 0]).map chCells) → Calls Try.prog 16 #[.slice a 2 c, .slice (some ⟨wx.heap.size, 0, none⟩) 2 2] (wx.alloc (.cells #[.int .i64 1, .int .i64 0] 3)) _ := fun a c wx q => sameInts_u [1, 0] a (some ⟨wx.heap.size, 0, none⟩) c 2 _ (q.later (boxed wx (.cells #[.int .i64 1, .int .i64 0] 3))) (rows_ints (L := [1, 0]) (heap_alloc_new wx (.cells #[.int .i64 1, .int .i64 0] 3)) (by decide))
  go_enter Try.func13, Try.ntmps13
  go_upto_region 2 with fail
  obtain ⟨W0, hW0⟩ : ∃ W0, w.alloc exO1 = W0 := ⟨_, rfl⟩
  rw [hW0] at hb0
  rw [hW0]
  clear hW0
  go_upto_region 3 with (go_at_call 11; (with_reducible refine (c1 _ hb0.out.1).mono ?_); rintro e w1 ⟨a, n, c, b, x, rfl, hF, hb1⟩; (obtain ⟨hn, rfl, rfl, hl, hlo⟩ := findV_some hF ex_right1 ex_fs1); (have hn2 : n = 2 := hn); subst hn2; clear hn; (have h1 : Hid (w1.heap[w.heap.size]? = some exO1 ∧ Below w.heap.size w w1 ∧ Rows w1 1 a c ((asI [1, 0]).map chCells) ∧ ∀ g ∈ blk a, w.heap.size < g) := ⟨blk_on hb0.out.1 hb1, bthen hb0.out.2 hb1, hl, fun g hg => Nat.lt_of_lt_of_le (Array.getElem?_eq_some_iff.mp hb0.out.1).1 (hlo g hg)⟩); clear hF hb1 hl hlo c1)
  have k12 : w1.cell? ⟨w.heap.size, 12, none⟩ = some (.int .i64 1) := cell_lc (k := 12) h1.out.1 rfl
  have k13 : w1.cell? ⟨w.heap.size, 13, none⟩ = some (.int .i64 2) := cell_lc (k := 13) h1.out.1 rfl
  go_upto_region 5 with (first
    | (refine wpList_puti rfl 3 _ _ rfl ⟨w.heap.size, 12, none⟩ rfl 4 rfl (by kernel_rfl) _ k12 (frozen_of_row _ _ _ _ _ h1.out.1) fun V1 hV1 => ?_; (have h2 : Hid (V1 = w1.setCell ⟨w.heap.size, 12, none⟩ (.int .i64 4)) := hV1); (have k13b : V1.cell? ⟨w.heap.size, 13, none⟩ = some (.int .i64 2) := by (rw [hV1]; exact cell_lc (k := 13) (heap_setCell_same w1 w.heap.size 12 _ _ _ h1.out.1) rfl)); (have h2f : Hid (V1.frozen? ⟨w.heap.size, 13, none⟩ = false) := by (show _ = _; rw [hV1]; exact frozen_of_row _ _ _ _ _ (heap_setCell_same w1 w.heap.size 12 _ _ _ h1.out.1))); clear hV1 k12 k13)
    | (refine wpList_puti rfl 3 _ _ rfl ⟨w.heap.size, 13, none⟩ rfl 5 rfl (by kernel_rfl) _ k13b h2f.out fun V2 hV2 => ?_; (have h3 : Hid (V2.heap[w.heap.size]? = some exO2 ∧ Below w.heap.size w V2 ∧ Rows V2 1 a c ((asI [1, 0]).map chCells)) := ex_after h1.out h2.out hV2); clear hV2 k13b h2f h2))
  go_wp2_with (first
    | (go_at_call 11; (with_reducible refine (c2 _ h3.out.1).mono ?_); rintro e w4 ⟨a2, n2, d2, b2, x2, rfl, hF, hb4⟩; (obtain ⟨rfl, rfl, rfl, rfl, rfl⟩ := findV_none hF ex_right2 ex_fs2); (have h4 : Hid (Below w.heap.size w w4 ∧ Rows w4 1 a c ((asI [1, 0]).map chCells)) := ⟨bthen h3.out.2.1 hb4, h3.out.2.2.later hb4⟩); clear hF hb4 c2)
    | (go_at_call 16; (with_reducible refine (cSS a c w4 h4.out.2).mono ?_); rintro e w5 ⟨rfl, hb5⟩; (have h5 : Hid (Below w.heap.size w w5) := bthen (bthen h4.out.1 (boxed _ _)) hb5); clear hb5)
    | (go_at_call 10; (with_reducible refine (c9 _).mono ?_); rintro e w6 ⟨rfl, hb6⟩; (have h6 : Hid (Below w.heap.size w w6) := bthen h5.out hb6); clear hb6))
  go_ret
  exact ⟨rfl, h6.out⟩
end Go.Proofs.Ytklpifammbnldaa.pg
/- What Linear and Turns answer, against Fits: LinearKeeps, walked. -/
namespace Go.Proofs.Ytklpifammbnldaa.pg
open Go.ChangeShapes Go.WideShapes Go.ChangeAt Go.RowKit
set_option linter.unusedVariables false
set_option linter.unusedSimpArgs false
set_option maxRecDepth 100000
attribute [local go_sem ↓] Go.wp_at_zero Go.wp_at_succ
/-- A history in memory, as it came in. -/
def ClsIn (w : World) (a : Option Addr) (cap : Nat) (l : List Cl) : Prop := Rows w 7 a cap (l.map Cl.cells) ∧ ∀ x ∈ l, (I64 x.go ∧ I64 x.d ∧ I64 x.inn ∧ I64 x.out ∧ I64 x.bg ∧ I64 x.en)
section
variable {H : Type} {enc : TypeId × Value → H} {w : World} {base : Nat} {spare : Nat → Bool} {held : Bool}
theorem list7 {α : Type} {cs : List α} (h : cs.length = 7) {a b c d e f g : α} (h0 : cs[0]? = some a) (h1 : cs[1]? = some b) (h2 : cs[2]? = some c) (h3 : cs[3]? = some d) (h4 : cs[4]? = some e) (h5 : cs[5]? = some f) (h6 : cs[6]? = some g) : cs = [a, b, c, d, e, f, g] := by
  match cs, h with
  | [x0, x1, x2, x3, x4, x5, x6], _ =>
    simp at h0 h1 h2 h3 h4 h5 h6
    rw [h0, h1, h2, h3, h4, h5, h6]
theorem int64_in {P : Program} {t : TypeId} (ht : P.underlying t = some (.int .i64)) {n : Nat} {v : Value} {y : DataW H × List MemPlace} (h : DataW.trod enc P w base spare held n t [v] = some y) : ∃ z, v = .int .i64 z ∧ I64 z := int_in ht h
theorem cl_in {n : Nat} {cs : List Value} {y : DataW H × List MemPlace} (hl : cs.length = 7) (h : DataW.trod enc Try.prog w base spare held n 53 cs = some y) : ∃ x : Cl, cs = x.cells ∧ (I64 x.go ∧ I64 x.d ∧ I64 x.inn ∧ I64 x.out ∧ I64 x.bg ∧ I64 x.en) := by
  obtain ⟨v0, _, _, e0, t0⟩ := field_in Try.underlying53 h 0 _ rfl rfl (by kernel_rfl) (by omega)
  obtain ⟨v1, _, _, e1, t1⟩ := field_in Try.underlying53 h 1 _ rfl rfl (by kernel_rfl) (by omega)
  obtain ⟨v2, _, _, e2, t2⟩ := field_in Try.underlying53 h 2 _ rfl rfl (by kernel_rfl) (by omega)
  obtain ⟨v3, _, _, e3, t3⟩ := field_in Try.underlying53 h 3 _ rfl rfl (by kernel_rfl) (by omega)
  obtain ⟨v4, _, _, e4, t4⟩ := field_in Try.underlying53 h 4 _ rfl rfl (by kernel_rfl) (by omega)
  obtain ⟨v5, _, _, e5, t5⟩ := field_in Try.underlying53 h 5 _ rfl rfl (by kernel_rfl) (by omega)
  obtain ⟨v6, _, _, e6, t6⟩ := field_in Try.underlying53 h 6 _ rfl rfl (by kernel_rfl) (by omega)
  obtain ⟨z0, rfl, b0⟩ := int_in Try.underlying3 t0
  obtain ⟨z1, rfl, b1⟩ := int_in Try.underlying3 t1
  obtain ⟨z2, rfl, b2⟩ := int_in Try.underlying2 t2
  obtain ⟨z3, rfl, b3⟩ := int_in Try.underlying2 t3
  obtain ⟨z4, rfl⟩ := bool_in Try.underlying4 t4
  obtain ⟨z5, rfl, b5⟩ := int_in Try.underlying3 t5
  obtain ⟨z6, rfl, b6⟩ := int_in Try.underlying3 t6
  exact ⟨⟨z0, z1, z2, z3, z4, z5, z6⟩, list7 hl e0 e1 e2 e3 e4 e5 e6, b0, b1, b2, b3, b5, b6⟩
theorem cls_arg {n : Nat} {a : Option Addr} {len cap : Nat} {y : DataW H × List MemPlace} (h : DataW.trod enc Try.prog w base spare held n 22 [.slice a len cap] = some y) : ∃ l : List Cl, l.length = len ∧ ClsIn w a cap l :=
  rows_in (k := 7) ⟨0, 0, 0, 0, false, 0, 0⟩ Cl.cells (fun x => I64 x.go ∧ I64 x.d ∧ I64 x.inn ∧ I64 x.out ∧ I64 x.bg ∧ I64 x.en) Try.underlying22 (by kernel_rfl) (by omega) (fun n cs y hl h => cl_in hl h) h
end
theorem ClsIn.i {w : World} {a : Option Addr} {cap : Nat} {l : List Cl} (h : ClsIn w a cap l) : ∀ x ∈ l, I64 x.inn := fun x hx => (h.2 x hx).2.2.1
/-- What the first order is, for Fits. -/
theorem fs_order {k : Int} {rel : Cl → Cl → Bool} {h : List Cl} {r : List Nat} (hn : h.length ≤ 8) (q : fsB k rel h (fun _ => false) (firstC k) = some r) : (∀ x ∈ r, x < h.length) ∧ r.length ≤ 8 ∧ isOrdB h (asI r) = true ∧ keepsB rel h r = true ∧ (runC k h (firstC k) r).2 = true := by
  have hw := fst0_sound q
  have h1 : ∀ x ∈ r, x < h.length := fun x hx => (walkP_mem hw x hx).1
  have h2 := walkP_nodup hw
  refine ⟨h1, Nat.le_trans (len_nodup h.length r h2 h1) hn, ?_, ?_, walkP_fits hw⟩
  · unfold isOrdB
    rw [Bool.and_eq_true]
    refine ⟨decide_eq_true ⟨?_, ?_⟩, hasB_yes fun i hi hl => ?_⟩
    · exact List.pairwise_map.mpr (h2.imp fun hab q => hab (by omega))
    · intro x hx
      obtain ⟨j, hj, rfl⟩ := List.mem_map.mp hx
      have := h1 j hj
      omega
    · unfold lastK at hl
      simp only [Bool.and_eq_true, decide_eq_true_eq, Bool.not_eq_true'] at hl
      rcases walkP_all hw i hl.2.1 hl.2.2 with e | e
      · cases e
      · exact decide_eq_true (List.mem_map.mpr ⟨i, e, rfl⟩)
  · exact decide_eq_true (walkP_keeps hw)
section
variable {w : World} {k : Int} {h : List Cl} {ha : Option Addr} {hc : Nat}
set_option maxHeartbeats 4000000 in
theorem keeps_bad (hh : Rows w 7 ha hc (h.map Cl.cells)) (hI : ∀ x ∈ h, I64 x.inn) (hR : ¬ RightH k h) : Calls Try.prog 6 #[.int .i64 k, .slice ha h.length hc] w fun e w' => e = .returned (.bool true) ∧ Below w.heap.size w w' := by
  have hhH : Hid (∀ wx, Below w.heap.size w wx → Rows wx 7 ha hc (h.map Cl.cells)) := fun wx q => hh.later q
  have cL : ∀ wx, Below w.heap.size w wx → Calls Try.prog 11 #[.int .i64 k, .slice ha h.length hc] wx _ := fun wx q => linear_any (hhH.out wx q) hI
  have cT : ∀ wx, Below w.heap.size w wx → Calls Try.prog 12 #[.int .i64 k, .slice ha h.length hc] wx _ := fun wx q => turns_any (hhH.out wx q) hI
  have cC : ∀ wx, Below w.heap.size w wx → Calls Try.prog 9 #[.int .i64 k, .slice ha h.length hc] wx _ := fun wx q => rcheckH_any (hhH.out wx q)
  have cS : ∀ wx, Calls Try.prog 13 #[] wx _ := fun wx => speaks_lin wx
  have hRH : Hid (¬ RightH k h) := hR
  clear hh hI hR
  go_enter Try.func6, Try.ntmps6
  go_wp2_with (first
    | (go_at_call 11; (with_reducible refine (cL _ (Below.refl _ _)).mono ?_); rintro e w1 ⟨a1, n1, c1, b1, x1, rfl, hF, hb⟩; (obtain ⟨rfl, rfl, rfl, rfl, rfl⟩ := findV_bad hF hRH.out); (have hB1 : Hid (Below w.heap.size w w1) := hb); clear hF hb cL)
    | (go_at_call 12; (with_reducible refine (cT _ hB1.out).mono ?_); rintro e w2 ⟨a2, n2, c2, b2, x2, rfl, hF, hb⟩; (obtain ⟨rfl, rfl, rfl, rfl, rfl⟩ := findV_bad hF hRH.out); (have hB2 : Hid (Below w.heap.size w w2) := bthen hB1.out hb); clear hF hb cT)
    | (go_at_call 9; (with_reducible refine (cC _ hB2.out).mono ?_); rintro e w3 ⟨hq, hb⟩; (obtain rfl := (hq.elim (fun q => absurd q.1 hRH.out) (fun q => q.2))); (have hB3 : Hid (Below w.heap.size w w3) := bthen hB2.out hb); clear hb hq)
    | (go_at_call 13; (with_reducible refine (cS _).mono ?_); rintro e w9 ⟨rfl, hb⟩; (have hB9 : Hid (Below w.heap.size w w9) := bthen hB3.out hb); clear hb))
  go_ret
  exact ⟨rfl, hB9.out⟩
set_option maxHeartbeats 4000000 in
theorem keeps_nn (hh : Rows w 7 ha hc (h.map Cl.cells)) (hI : ∀ x ∈ h, I64 x.inn) (hR : RightH k h) (h1 : fsB k endB h (fun _ => false) (firstC k) = none) (h2 : fsB k turnB h (fun _ => false) (firstC k) = none) : Calls Try.prog 6 #[.int .i64 k, .slice ha h.length hc] w fun e w' => e = .returned (.bool true) ∧ Below w.heap.size w w' := by
  have hhH : Hid (∀ wx, Below w.heap.size w wx → Rows wx 7 ha hc (h.map Cl.cells)) := fun wx q => hh.later q
  have cL : ∀ wx, Below w.heap.size w wx → Calls Try.prog 11 #[.int .i64 k, .slice ha h.length hc] wx _ := fun wx q => linear_any (hhH.out wx q) hI
  have cT : ∀ wx, Below w.heap.size w wx → Calls Try.prog 12 #[.int .i64 k, .slice ha h.length hc] wx _ := fun wx q => turns_any (hhH.out wx q) hI
  have cC : ∀ wx, Below w.heap.size w wx → Calls Try.prog 9 #[.int .i64 k, .slice ha h.length hc] wx _ := fun wx q => rcheckH_any (hhH.out wx q)
  have cS : ∀ wx, Calls Try.prog 13 #[] wx _ := fun wx => speaks_lin wx
  have hRH : Hid (RightH k h) := hR
  have hf1 : Hid (fsB k endB h (fun _ => false) (firstC k) = none) := h1
  have hf2 : Hid (fsB k turnB h (fun _ => false) (firstC k) = none) := h2
  clear hh hI hR h1 h2
  go_enter Try.func6, Try.ntmps6
  go_wp2_with (first
    | (go_at_call 11; (with_reducible refine (cL _ (Below.refl _ _)).mono ?_); rintro e w1 ⟨a1, n1, c1, b1, x1, rfl, hF, hb⟩; (obtain ⟨rfl, rfl, rfl, rfl, rfl⟩ := findV_none hF hRH.out hf1.out); (have hB1 : Hid (Below w.heap.size w w1) := hb); clear hF hb cL)
    | (go_at_call 12; (with_reducible refine (cT _ hB1.out).mono ?_); rintro e w2 ⟨a2, n2, c2, b2, x2, rfl, hF, hb⟩; (obtain ⟨rfl, rfl, rfl, rfl, rfl⟩ := findV_none hF hRH.out hf2.out); (have hB2 : Hid (Below w.heap.size w w2) := bthen hB1.out hb); clear hF hb cT)
    | (go_at_call 13; (with_reducible refine (cS _).mono ?_); rintro e w9 ⟨rfl, hb⟩; (have hB9 : Hid (Below w.heap.size w w9) := bthen hB2.out hb); clear hb))
  go_ret
  exact ⟨rfl, hB9.out⟩
set_option maxHeartbeats 4000000 in
theorem keeps_ns {r2 : List Nat} (hh : Rows w 7 ha hc (h.map Cl.cells)) (hI : ∀ x ∈ h, I64 x.inn) (hR : RightH k h) (h1 : fsB k endB h (fun _ => false) (firstC k) = none) (h2 : fsB k turnB h (fun _ => false) (firstC k) = some r2) : Calls Try.prog 6 #[.int .i64 k, .slice ha h.length hc] w fun e w' => e = .returned (.bool true) ∧ Below w.heap.size w w' := by
  have hhH : Hid (∀ wx, Below w.heap.size w wx → Rows wx 7 ha hc (h.map Cl.cells)) := fun wx q => hh.later q
  have cL : ∀ wx, Below w.heap.size w wx → Calls Try.prog 11 #[.int .i64 k, .slice ha h.length hc] wx _ := fun wx q => linear_any (hhH.out wx q) hI
  have cT : ∀ wx, Below w.heap.size w wx → Calls Try.prog 12 #[.int .i64 k, .slice ha h.length hc] wx _ := fun wx q => turns_any (hhH.out wx q) hI
  have cC : ∀ wx, Below w.heap.size w wx → Calls Try.prog 9 #[.int .i64 k, .slice ha h.length hc] wx _ := fun wx q => rcheckH_any (hhH.out wx q)
  have cS : ∀ wx, Calls Try.prog 13 #[] wx _ := fun wx => speaks_lin wx
  have cF2 : ∀ a c wx, Below w.heap.size w wx → Rows wx 1 a c ((asI r2).map chCells) → Calls Try.prog 17 #[.int .i64 k, .slice ha h.length hc, .slice a r2.length c] wx fun e w' => ∃ t, e = .returned (.tuple #[.bool true, .bool t, .bool true, .int .i64 0]) ∧ Below wx.heap.size wx w' := fun a c wx q ho => by
    obtain ⟨g1, g2, g3, g4, g5⟩ := fs_order hR.n h2
    have := fits_ok (hhH.out wx q) hI hR ho g3 g1 g2
    rw [g5, g4] at this
    refine this.mono ?_
    rintro e w' ⟨rfl, hb⟩
    exact ⟨_, rfl, hb⟩
  have hRH : Hid (RightH k h) := hR
  have hf1 : Hid (fsB k endB h (fun _ => false) (firstC k) = none) := h1
  have hf2 : Hid (fsB k turnB h (fun _ => false) (firstC k) = some r2) := h2
  clear hh hI hR h1 h2
  go_enter Try.func6, Try.ntmps6
  go_wp2_with (first
    | (go_at_call 11; (with_reducible refine (cL _ (Below.refl _ _)).mono ?_); rintro e w1 ⟨a1, n1, c1, b1, x1, rfl, hF, hb⟩; (obtain ⟨rfl, rfl, rfl, rfl, rfl⟩ := findV_none hF hRH.out hf1.out); (have hB1 : Hid (Below w.heap.size w w1) := hb); clear hF hb cL)
    | (go_at_call 12; (with_reducible refine (cT _ hB1.out).mono ?_); rintro e w2 ⟨a2, n2, c2, b2, x2, rfl, hF, hb⟩; ((obtain ⟨hn2, rfl, rfl, ho2, _⟩ := findV_some hF hRH.out hf2.out); subst hn2); (have hB2 : Hid (Below w.heap.size w w2 ∧ Rows w2 1 a2 c2 ((asI r2).map chCells)) := ⟨bthen hB1.out hb, ho2⟩); clear hF hb cT)
    | (go_at_call 17; (with_reducible refine (cF2 _ _ _ hB2.out.1 hB2.out.2).mono ?_); rintro e w6 ⟨t2, rfl, hb⟩; (have hB6 : Hid (Below w.heap.size w w6) := bthen hB2.out.1 hb); clear hb cF2)
    | (go_at_call 13; (with_reducible refine (cS _).mono ?_); rintro e w9 ⟨rfl, hb⟩; (have hB9 : Hid (Below w.heap.size w w9) := bthen hB6.out hb); clear hb))
  go_ret
  exact ⟨rfl, hB9.out⟩
set_option maxHeartbeats 4000000 in
theorem keeps_ss {r1 r2 : List Nat} (hh : Rows w 7 ha hc (h.map Cl.cells)) (hI : ∀ x ∈ h, I64 x.inn) (hR : RightH k h) (h1 : fsB k endB h (fun _ => false) (firstC k) = some r1) (h2 : fsB k turnB h (fun _ => false) (firstC k) = some r2) : Calls Try.prog 6 #[.int .i64 k, .slice ha h.length hc] w fun e w' => e = .returned (.bool true) ∧ Below w.heap.size w w' := by
  have hhH : Hid (∀ wx, Below w.heap.size w wx → Rows wx 7 ha hc (h.map Cl.cells)) := fun wx q => hh.later q
  have cL : ∀ wx, Below w.heap.size w wx → Calls Try.prog 11 #[.int .i64 k, .slice ha h.length hc] wx _ := fun wx q => linear_any (hhH.out wx q) hI
  have cT : ∀ wx, Below w.heap.size w wx → Calls Try.prog 12 #[.int .i64 k, .slice ha h.length hc] wx _ := fun wx q => turns_any (hhH.out wx q) hI
  have cC : ∀ wx, Below w.heap.size w wx → Calls Try.prog 9 #[.int .i64 k, .slice ha h.length hc] wx _ := fun wx q => rcheckH_any (hhH.out wx q)
  have cS : ∀ wx, Calls Try.prog 13 #[] wx _ := fun wx => speaks_lin wx
  have cF1 : ∀ a c wx, Below w.heap.size w wx → Rows wx 1 a c ((asI r1).map chCells) → Calls Try.prog 17 #[.int .i64 k, .slice ha h.length hc, .slice a r1.length c] wx fun e w' => ∃ t, e = .returned (.tuple #[.bool true, .bool true, .bool t, .int .i64 0]) ∧ Below wx.heap.size wx w' := fun a c wx q ho => by
    obtain ⟨g1, g2, g3, g4, g5⟩ := fs_order hR.n h1
    have := fits_ok (hhH.out wx q) hI hR ho g3 g1 g2
    rw [g5, g4] at this
    refine this.mono ?_
    rintro e w' ⟨rfl, hb⟩
    exact ⟨_, rfl, hb⟩
  have cF2 : ∀ a c wx, Below w.heap.size w wx → Rows wx 1 a c ((asI r2).map chCells) → Calls Try.prog 17 #[.int .i64 k, .slice ha h.length hc, .slice a r2.length c] wx fun e w' => ∃ t, e = .returned (.tuple #[.bool true, .bool t, .bool true, .int .i64 0]) ∧ Below wx.heap.size wx w' := fun a c wx q ho => by
    obtain ⟨g1, g2, g3, g4, g5⟩ := fs_order hR.n h2
    have := fits_ok (hhH.out wx q) hI hR ho g3 g1 g2
    rw [g5, g4] at this
    refine this.mono ?_
    rintro e w' ⟨rfl, hb⟩
    exact ⟨_, rfl, hb⟩
  have hRH : Hid (RightH k h) := hR
  have hf1 : Hid (fsB k endB h (fun _ => false) (firstC k) = some r1) := h1
  have hf2 : Hid (fsB k turnB h (fun _ => false) (firstC k) = some r2) := h2
  clear hh hI hR h1 h2
  go_enter Try.func6, Try.ntmps6
  go_wp2_with (first
    | (go_at_call 11; (with_reducible refine (cL _ (Below.refl _ _)).mono ?_); rintro e w1 ⟨a1, n1, c1, b1, x1, rfl, hF, hb⟩; ((obtain ⟨hn1, rfl, rfl, ho1, _⟩ := findV_some hF hRH.out hf1.out); subst hn1); (have hB1 : Hid (Below w.heap.size w w1 ∧ Rows w1 1 a1 c1 ((asI r1).map chCells)) := ⟨hb, ho1⟩); clear hF hb cL)
    | (go_at_call 12; (with_reducible refine (cT _ hB1.out.1).mono ?_); rintro e w2 ⟨a2, n2, c2, b2, x2, rfl, hF, hb⟩; ((obtain ⟨hn2, rfl, rfl, ho2, _⟩ := findV_some hF hRH.out hf2.out); subst hn2); (have hB2 : Hid (Below w.heap.size w w2 ∧ Rows w2 1 a2 c2 ((asI r2).map chCells) ∧ Rows w2 1 a1 c1 ((asI r1).map chCells)) := ⟨bthen hB1.out.1 hb, ho2, hB1.out.2.later hb⟩); clear hF hb cT)
    | (go_at_call 17; (with_reducible refine (cF1 _ _ _ hB2.out.1 hB2.out.2.2).mono ?_); rintro e w5 ⟨t1, rfl, hb⟩; (have hB5 : Hid (Below w.heap.size w w5 ∧ Rows w5 1 a2 c2 ((asI r2).map chCells)) := ⟨bthen hB2.out.1 hb, hB2.out.2.1.later hb⟩); clear hb cF1)
    | (go_at_call 17; (with_reducible refine (cF2 _ _ _ hB5.out.1 hB5.out.2).mono ?_); rintro e w6 ⟨t2, rfl, hb⟩; (have hB6 : Hid (Below w.heap.size w w6) := bthen hB5.out.1 hb); clear hb cF2)
    | (go_at_call 13; (with_reducible refine (cS _).mono ?_); rintro e w9 ⟨rfl, hb⟩; (have hB9 : Hid (Below w.heap.size w w9) := bthen hB6.out hb); clear hb))
  go_ret
  exact ⟨rfl, hB9.out⟩
end
theorem keeps_row (k : Int) (h : List Cl) (ha : Option Addr) (hc : Nat) (w : World) (_ : (Lit.int .i64 k).wf = true) (hin : ClsIn w ha hc h) : Calls Try.prog 6 #[.int .i64 k, .slice ha h.length hc] w fun e w' => e = .returned (.bool true) ∧ Below w.heap.size w w' := by
  by_cases hR : RightH k h
  · cases h1 : fsB k endB h (fun _ => false) (firstC k) with
    | none =>
      cases h2 : fsB k turnB h (fun _ => false) (firstC k) with
      | none => exact keeps_nn hin.1 hin.i hR h1 h2
      | some r2 => exact keeps_ns hin.1 hin.i hR h1 h2
    | some r1 =>
      obtain ⟨r2, h2⟩ := fsB_both hR h1
      exact keeps_ss hin.1 hin.i hR h1 h2
  · exact keeps_bad hin.1 hin.i hR
end Go.Proofs.Ytklpifammbnldaa.pg
