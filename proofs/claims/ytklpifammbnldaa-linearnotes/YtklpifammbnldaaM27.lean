/- The document's own words on an operation. -/
import Derived.Test.YtklpifammbnldaaM25
import Derived.Test.YtklpifammbnldaaM26
import Derived.Test.YtklpifammbnldaaM24
namespace Go.Proofs.Ytklpifammbnldaa.pg
open Go.ChangeShapes Go.WideShapes Go.ChangeAt Go.RowKit
set_option linter.unusedVariables false
set_option linter.unusedSimpArgs false
set_option maxRecDepth 100000
attribute [local go_sem ↓] Go.wp_at_zero Go.wp_at_succ
theorem rfields_any (k : Int) (x : Cl) (w : World) : Calls Try.prog 26 #[.int .i64 k, x.val] w fun e w' => e = .returned (.bool (fieldB k x)) ∧ Below w.heap.size w w' := by
  obtain ⟨go, d, inn, out, em, bg, en⟩ := x
  cases hd : doesB k d with
  | true =>
    rcases does_cases hd with ⟨_, rfl⟩ | ⟨_, rfl⟩ | ⟨_, rfl⟩ | ⟨_, rfl⟩ | ⟨_, rfl⟩ | ⟨_, rfl⟩ | ⟨_, rfl⟩ | ⟨_, rfl⟩
    · exact fields_1 k go inn out em bg en hd w
    · exact fields_2 k go inn out em bg en hd w
    · exact fields_1 k go inn out em bg en hd w
    · exact fields_3 k go inn out em bg en hd w
    · exact fields_4 k go inn out em bg en hd w
    · exact fields_5 k go inn out em bg en hd w
    · exact fields_4 k go inn out em bg en hd w
    · exact fields_5 k go inn out em bg en hd w
  | false =>
    have hR : Hid (fieldB k ⟨go, d, inn, out, em, bg, en⟩ = false) := by
      show _ = _
      unfold fieldB
      rw [hd]; rfl
    have cD : ∀ wx, Calls Try.prog 40 #[.int .i64 k, .int .i64 d] wx fun e w' => e = .returned (.bool false) ∧ w' = wx := fun wx => by
      have := rdoes_any k d wx
      rwa [hd] at this
    have hX : Hid (Below w.heap.size w (w.alloc (oCl ⟨go, d, inn, out, em, bg, en⟩))) := boxed _ _
    clear hd
    obtain ⟨b1, h1⟩ : ∃ b, decide (go < 0) = b := ⟨_, rfl⟩
    obtain ⟨b2, h2⟩ : ∃ b, decide (6 ≤ go) = b := ⟨_, rfl⟩
    cases b1 with
    | true =>
      go_enter Try.func26, Try.ntmps26
      go_wp2
      go_ret
      exact ⟨by rw [hR.out]; rfl, hX.out⟩
    | false =>
      cases b2 <;>
      (go_enter Try.func26, Try.ntmps26
       go_wp2_with (go_at_call 40; (with_reducible refine (cD _).mono ?_); rintro e w1 ⟨rfl, hw1⟩; rw [hw1])
       go_ret
       exact ⟨by rw [hR.out]; rfl, hX.out⟩)
end Go.Proofs.Ytklpifammbnldaa.pg
/- What is in a thing behind an order, and whether it fits. -/
namespace Go.Proofs.Ytklpifammbnldaa.pg
open Go.ChangeShapes Go.WideShapes Go.ChangeAt Go.RowKit
set_option linter.unusedVariables false
set_option linter.unusedSimpArgs false
set_option maxRecDepth 100000
attribute [local go_sem ↓] Go.wp_at_zero Go.wp_at_succ
theorem run_snoc {k : Int} {h : List Cl} (x : Nat) : ∀ (l : List Nat) (c : List Int), runC k h c (l ++ [x]) = (nxtC k (runC k h c l).1 (hf h x), (runC k h c l).2 && fitC k (runC k h c l).1 (hf h x))
  | [], c => by simp [runC]
  | i :: t, c => by
    show ((runC k h (nxtC k c (hf h i)) (t ++ [x])).1, fitC k c (hf h i) && (runC k h (nxtC k c (hf h i)) (t ++ [x])).2) = _
    rw [run_snoc x t]
    show _ = (nxtC k (runC k h (nxtC k c (hf h i)) t).1 (hf h x), (fitC k c (hf h i) && (runC k h (nxtC k c (hf h i)) t).2) && fitC k (runC k h (nxtC k c (hf h i)) t).1 (hf h x))
    rw [Bool.and_assoc]
/-- The first i operations of an order, done. -/
def runT (k : Int) (h : List Cl) (r : List Nat) (i : Nat) : List Int × Bool := runC k h (firstC k) (r.take i)
theorem runT_zero (k : Int) (h : List Cl) (r : List Nat) : runT k h r 0 = (firstC k, true) := by unfold runT; rw [List.take_zero]; rfl
theorem runT_step {k : Int} {h : List Cl} {r : List Nat} {i : Nat} (hi : i < r.length) : runT k h r (i + 1) = (nxtC k (runT k h r i).1 (hf h (rg r i)), (runT k h r i).2 && fitC k (runT k h r i).1 (hf h (rg r i))) := by
  unfold runT
  rw [List.take_add_one, rg_at hi]
  exact run_snoc _ _ _
theorem runT_all {k : Int} {h : List Cl} {r : List Nat} : runT k h r r.length = runC k h (firstC k) r := by unfold runT; rw [List.take_length]
theorem runT_inv {k : Int} {h : List Cl} {r : List Nat} (hR : RightH k h) (hI : ∀ x ∈ h, I64 x.inn) (hr : ∀ x ∈ r, x < h.length) : ∀ i, i ≤ r.length → InvC k (runT k h r i).1 i
  | 0, _ => by rw [runT_zero]; exact inv_first
  | i + 1, hi => by
    rw [runT_step (by omega)]
    have hm := hf_mem (hr _ (List.mem_of_getElem? (rg_at (show i < r.length by omega))))
    exact inv_next (runT_inv hR hI hr i (by omega)) (hR.c _ hm).1 (hI _ hm)
/-- What is returned: a content in its cell, and two more. -/
theorem results_c3 {fn : Func} {p q s : Tmp} (h : fn.results = #[.cell p 59, .tmp q, .tmp s]) (tmps : Array Value) (w : World) (B : Nat) (cs : Array Value) (v u : Value) (hp : tmps.getD p undef = .pointer (some ⟨B, 0, none⟩)) (hq : tmps.getD q undef = v) (hu : tmps.getD s undef = u) (hs : cs.size = 9) (hB : w.heap[B]? = some (.cells cs 59)) :
    (results fn tmps).run Try.prog w = .ok (.tuple #[.agg cs, v, u]) w := by
  have hp' : tmps[p]?.getD undef = .pointer (some ⟨B, 0, none⟩) := by simpa using hp
  have hq' : tmps[q]?.getD undef = v := by simpa using hq
  have hu' : tmps[s]?.getD undef = u := by simpa using hu
  simp [results, h, hp', hq', hu', asAddr, run_loadVar_row w B _ 59 _ _ _ hB Try.underlying59 rfl (by rw [hs]; kernel_rfl)]
theorem bld_C : ∀ w, (Instr.build 59 #[]).run Try.prog w = .ok (.agg z9) w := fun w => by kernel_rfl
theorem z9_one : z9.all (·.oneCell') = true := by simp [Value.oneCell']
/-- How follow stands. -/
structure FoS (w X : World) (k : Int) (B9 C : Nat) (c : List Int) : Prop where
  r : X.heap[w.heap.size]? = some (.cells z9 TC)
  t : X.heap[B9]? = some (oT k)
  c : X.heap[C]? = some (.cells (vC c) TC)
  b : Below w.heap.size w X
  d : w.heap.size < C
theorem FoS.ne {w X : World} {k : Int} {B9 C : Nat} {c : List Int} (g : FoS w X k B9 C c) : B9 ≠ C := fun q => by
  have h1 := g.t
  rw [q, g.c] at h1
  simp only [Option.some.injEq, Obj.cells.injEq] at h1
  exact absurd h1.2.1 (by decide)
theorem FoS.later {w X X' : World} {k : Int} {B9 C : Nat} {c : List Int} (g : FoS w X k B9 C c) (hb : Below X.heap.size X X') : FoS w X' k B9 C c := ⟨blk_on g.r hb, blk_on g.t hb, blk_on g.c hb, bthen g.b hb, g.d⟩
theorem FoS.put {w X : World} {k : Int} {B9 C : Nat} {c : List Int} (g : FoS w X k B9 C c) (c' : List Int) : FoS w (X.setRow C (vC c')) k B9 C c' := ⟨(setRow_other _ _ _ _ (by have := g.d; omega)).trans g.r, (setRow_other _ _ _ _ g.ne).trans g.t, setRow_heap _ _ _ _ _ _ g.c, below_setRow g.b (by have := g.d; omega) _, g.d⟩
section
variable {w : World} {k : Int} {h : List Cl} {ha oa : Option Addr} {hc oc : Nat} {rel : Cl → Cl → Bool} {r : List Nat} {o : List Int}
set_option maxHeartbeats 4000000 in
theorem follow_no (hh : Rows w 7 ha hc (h.map Cl.cells)) (hR : ¬ RightH k h) (y : Value) : Calls Try.prog 33 #[.int .i64 k, .slice ha h.length hc, y] w fun e w' => e = .returned (.tuple #[.agg z9, .bool false, .int .i64 260]) ∧ Below w.heap.size w w' := by
  have h0 : Hid ((w.alloc (.cells z9 59)).heap[w.heap.size]? = some (.cells z9 TC) ∧ Below w.heap.size w (w.alloc (.cells z9 59))) := ⟨heap_alloc_new _ _, boxed _ _⟩
  have cL := look_no k h ha hc _ (hh.later h0.out.2) hR
  clear hh hR
  go_enter Try.func33, Try.ntmps33
  go_wp2_with (first
    | ((with_reducible refine at_allocL 59 rfl ?_); refine stopL_out ?_; refine wpList_alloc_big rfl 59 rfl zeroCo ?_)
    | ((with_reducible refine at_allocL 65 rfl ?_); refine stopL_out ?_; refine wpList_alloc_big rfl 65 rfl zeroT ?_)
    | (go_at_call 28; (with_reducible refine cL.mono ?_); rintro e w1 ⟨rfl, hb1⟩; (have hbH : Hid (Below w.heap.size w w1 ∧ w1.heap[w.heap.size]? = some (.cells z9 TC)) := ⟨bthen h0.out.2 hb1, blk_on h0.out.1 hb1⟩); clear hb1 cL)
    | ((with_reducible refine at_storeL 65 _ _ rfl ?_); refine stopL_out ?_; refine wpList_store_row rfl 65 _ _ rfl w1.heap.size zT rfl rfl _ _ (heap_alloc_new _ _) infoT rfl (by simp [Value.oneCell']) ?_)
    | ((with_reducible refine at_storeL 59 _ _ rfl ?_); refine stopL_out ?_; refine wpList_store_row rfl 59 _ _ rfl w.heap.size z9 rfl rfl _ _ ((setRow_other _ _ _ _ (Nat.ne_of_lt (Array.getElem?_eq_some_iff.mp hbH.out.2).1)).trans (blk_on hbH.out.2 (boxed _ _))) infoC9 rfl z9_one ?_)
    | ((with_reducible refine at_buildL 59 _ rfl ?_); refine stopL_out ?_; refine wpList_bldL rfl 59 _ rfl #[] (by simp only [List.map_toArray, List.map_nil]) _ bld_C ?_))
  exact bodyPost_ret (results_c3 Try.results33 _ _ w.heap.size z9 (.bool false) (.int .i64 260) rfl rfl rfl rfl (setRow_heap _ _ _ _ _ _ ((setRow_other _ _ _ _ (Nat.ne_of_lt (Array.getElem?_eq_some_iff.mp hbH.out.2).1)).trans (blk_on hbH.out.2 (boxed _ _))))) rfl ⟨rfl, below_setRow (bthen hbH.out.1 new_row.2) (Nat.le_refl _) _⟩
set_option maxHeartbeats 4000000 in
theorem follow_bad (hh : Rows w 7 ha hc (h.map Cl.cells)) (hR : RightH k h) (ho : Rows w 1 oa oc (o.map chCells)) (hol : o.length < 2 ^ 62) (hor : isOrdB h o = false) : Calls Try.prog 33 #[.int .i64 k, .slice ha h.length hc, .slice oa o.length oc] w fun e w' => e = .returned (.tuple #[.agg z9, .bool false, .int .i64 1]) ∧ Below w.heap.size w w' := by
  have h0 : Hid ((w.alloc (.cells z9 59)).heap[w.heap.size]? = some (.cells z9 TC) ∧ Below w.heap.size w (w.alloc (.cells z9 59))) := ⟨heap_alloc_new _ _, boxed _ _⟩
  have cL := look_yes k h ha hc _ (hh.later h0.out.2) hR
  have cO : ∀ wx, Below w.heap.size w wx → Calls Try.prog 51 #[.slice ha h.length hc, .slice oa o.length oc] wx fun e w' => e = .returned (.bool false) ∧ Below wx.heap.size wx w' := fun wx q => by
    have := isOrder_any h ha hc o oa oc wx (hh.later q) (ho.later q) hR.n hol
    rwa [hor] at this
  clear hh hR ho hol hor
  go_enter Try.func33, Try.ntmps33
  go_wp2_with (first
    | ((with_reducible refine at_allocL 59 rfl ?_); refine stopL_out ?_; refine wpList_alloc_big rfl 59 rfl zeroCo ?_)
    | ((with_reducible refine at_allocL 65 rfl ?_); refine stopL_out ?_; refine wpList_alloc_big rfl 65 rfl zeroT ?_)
    | (go_at_call 28; (with_reducible refine cL.mono ?_); rintro e w1 ⟨rfl, hb1⟩; (have hbH : Hid (Below w.heap.size w w1 ∧ w1.heap[w.heap.size]? = some (.cells z9 TC)) := ⟨bthen h0.out.2 hb1, blk_on h0.out.1 hb1⟩); clear hb1 cL)
    | ((with_reducible refine at_storeL 65 _ _ rfl ?_); refine stopL_out ?_; refine wpList_store_row rfl 65 _ _ rfl w1.heap.size (vT k) rfl rfl _ _ (heap_alloc_new _ _) infoT rfl (by simp [vT, fv, Value.oneCell']) ?_)
    | (go_at_call 51; (with_reducible refine (cO _ (bthen hbH.out.1 new_row.2)).mono ?_); rintro e w2 ⟨rfl, hb2⟩; (have hb3 : Hid (Below w.heap.size w w2 ∧ w2.heap[w.heap.size]? = some (.cells z9 TC)) := ⟨bthen (bthen hbH.out.1 new_row.2) hb2, blk_on (blk_on hbH.out.2 new_row.2) hb2⟩); clear hb2 cO)
    | ((with_reducible refine at_storeL 59 _ _ rfl ?_); refine stopL_out ?_; refine wpList_store_row rfl 59 _ _ rfl w.heap.size z9 rfl rfl _ _ hb3.out.2 infoC9 rfl z9_one ?_)
    | ((with_reducible refine at_buildL 59 _ rfl ?_); refine stopL_out ?_; refine wpList_bldL rfl 59 _ rfl #[] (by simp only [List.map_toArray, List.map_nil]) _ bld_C ?_))
  exact bodyPost_ret (results_c3 Try.results33 _ _ w.heap.size z9 (.bool false) (.int .i64 1) rfl rfl rfl rfl (setRow_heap _ _ _ _ _ _ hb3.out.2)) rfl ⟨rfl, below_setRow hb3.out.1 (Nat.le_refl _) _⟩
set_option maxHeartbeats 8000000 in
theorem follow_ok (hh : Rows w 7 ha hc (h.map Cl.cells)) (hI : ∀ x ∈ h, I64 x.inn) (hR : RightH k h) (ho : Rows w 1 oa oc ((asI r).map chCells)) (hor : isOrdB h (asI r) = true) (hr : ∀ x ∈ r, x < h.length) (hr8 : r.length ≤ 8) : Calls Try.prog 33 #[.int .i64 k, .slice ha h.length hc, .slice oa r.length oc] w fun e w' => e = .returned (.tuple #[.agg (vC (runC k h (firstC k) r).1), .bool (runC k h (firstC k) r).2, .int .i64 0]) ∧ Below w.heap.size w w' := by
  have h0 : Hid ((w.alloc (.cells z9 59)).heap[w.heap.size]? = some (.cells z9 TC) ∧ Below w.heap.size w (w.alloc (.cells z9 59))) := ⟨heap_alloc_new _ _, boxed _ _⟩
  have hhH : Hid (Rows w 7 ha hc (h.map Cl.cells)) := hh
  have hoH : Hid (Rows w 1 oa oc ((asI r).map chCells)) := ho
  have hRH : Hid (RightH k h) := hR
  have hrr : Hid (∀ i, i < r.length → rg r i < h.length) := fun i hi => hr _ (List.mem_of_getElem? (rg_at hi))
  have hIv : Hid (∀ i, i ≤ r.length → InvC k (runT k h r i).1 i) := runT_inv hR hI hr
  have hr8I : (r.length : Int) ≤ 8 := by omega
  have huC : Hid (Try.prog.underlying 59 = _) := Try.underlying59
  have huX : Hid (Try.prog.underlying 53 = _) := Try.underlying53
  have cL := look_yes k h ha hc _ (hh.later h0.out.2) hR
  have cO : ∀ wx, Below w.heap.size w wx → Calls Try.prog 51 #[.slice ha h.length hc, .slice oa r.length oc] wx fun e w' => e = .returned (.bool true) ∧ Below wx.heap.size wx w' := fun wx q => by
    have := isOrder_any h ha hc (asI r) oa oc wx (hh.later q) (ho.later q) hR.n (by rw [List.length_map]; omega)
    rw [hor, List.length_map] at this
    exact this
  clear hh hR ho hor hI hr
  go_enter Try.func33, Try.ntmps33
  go_upto_region 6 with (first
    | ((with_reducible refine at_allocL 59 rfl ?_); refine stopL_out ?_; refine wpList_alloc_big rfl 59 rfl zeroCo ?_)
    | ((with_reducible refine at_allocL 65 rfl ?_); refine stopL_out ?_; refine wpList_alloc_big rfl 65 rfl zeroT ?_)
    | (go_at_call 28; (with_reducible refine cL.mono ?_); rintro e w1 ⟨rfl, hb1⟩; (have hbH : Hid (Below w.heap.size w w1 ∧ w1.heap[w.heap.size]? = some (.cells z9 TC)) := ⟨bthen h0.out.2 hb1, blk_on h0.out.1 hb1⟩); clear hb1 cL)
    | ((with_reducible refine at_storeL 65 _ _ rfl ?_); refine stopL_out ?_; refine wpList_store_row rfl 65 _ _ rfl w1.heap.size (vT k) rfl rfl _ _ (heap_alloc_new _ _) infoT rfl (by simp [vT, fv, Value.oneCell']) ?_)
    | (go_at_call 51; (with_reducible refine (cO _ (bthen hbH.out.1 new_row.2)).mono ?_); rintro e w2 ⟨rfl, hb2⟩; (have hb3 : Hid (Below w.heap.size w w2 ∧ w2.heap[w.heap.size]? = some (.cells z9 TC) ∧ w2.heap[w1.heap.size]? = some (oT k) ∧ w.heap.size < w1.heap.size) := ⟨bthen (bthen hbH.out.1 new_row.2) hb2, blk_on (blk_on hbH.out.2 new_row.2) hb2, blk_on new_row.1 hb2, (Array.getElem?_eq_some_iff.mp hbH.out.2).1⟩); clear hb2 cO))
  generalize w1.heap.size = B9 at *
  clear hbH
  have r9 : Hid (w2.rangeAt B9 0 (vC (firstC k)).toList) := by
    intro j v hj
    rw [vT_first] at hj
    have hl : j < 9 := by
      have := (List.getElem?_eq_some_iff.mp hj).1
      rw [List.length_take] at this
      omega
    rw [List.getElem?_take_of_lt hl] at hj
    exact rng_blk hb3.out.2.2.1 j v hj
  go_upto_region 7 with (first
    | ((with_reducible refine at_loadL 59 (.tmp 31) rfl ?_); refine stopL_out ?_; refine wpList_load_mid rfl 59 _ rfl B9 0 rfl (vC (firstC k)).toList _ r9.out huC.out rfl infoC9 ?_)
    | ((with_reducible refine at_allocL 59 rfl ?_); refine stopL_out ?_; refine wpList_alloc_big rfl 59 rfl zeroCo ?_)
    | ((with_reducible refine at_storeL 59 _ _ rfl ?_); refine stopL_out ?_; refine wpList_store_row rfl 59 _ _ rfl w2.heap.size (vC (firstC k)) rfl rfl _ _ (heap_alloc_new _ _) infoC9 rfl (vC_one _) ?_))
  obtain ⟨X, hX⟩ : ∃ X, (w2.alloc (.cells z9 59)).setRow w2.heap.size (vC (firstC k)) = X := ⟨_, rfl⟩
  have hs0 : Hid (FoS w X k B9 w2.heap.size (runT k h r 0).1 ∧ (runT k h r 0).2 = true) := by
    rw [← hX, runT_zero]
    exact ⟨⟨blk_on hb3.out.2.1 new_row.2, blk_on hb3.out.2.2.1 new_row.2, new_row.1, bthen hb3.out.1 new_row.2, (Array.getElem?_eq_some_iff.mp hb3.out.2.1).1⟩, rfl⟩
  rw [show (w2.alloc (.cells z9 59)).setRow w2.heap.size (vC (firstC k)).toList.toArray = X from hX]
  generalize w2.heap.size = C at *
  clear hX hb3 r9 h0
  go_wp2_with fail
  go_loopw [35, 12] (fun u v wr => ∃ i : Nat, i ≤ r.length ∧ u = .int .i64 (i : Int) ∧ v = .bool (runT k h r i).2 ∧ Hid (FoS w wr k B9 C (runT k h r i).1)) (fun u _ _ => r.length - (intOf u).toNat)
  case atStart => exact ⟨0, Nat.zero_le _, rfl, by rw [hs0.out.2], hs0.out.1⟩
  case round =>
    obtain ⟨i, hi, rfl, rfl, hst⟩ := hrel
    clear hs0
    by_cases hlt : i < r.length
    · have hiI : (i : Int) < r.length := by omega
      obtain ⟨b1, o1, x1, c1⟩ := ord_ix (hoH.out.later hst.out.b) hlt
      have hli : rg r i < h.length := hrr.out i hlt
      obtain ⟨b3, o3, x3, _, r3⟩ := cl_ix (hhH.out.later hst.out.b) hli
      have r3H : Hid (wr.rangeAt b3 o3 (hf h (rg r i)).cells) := r3
      have hb3 : Hid (b3 < wr.heap.size) := cl_blk r3
      have hb3w : Hid (b3 < w.heap.size) := by
        obtain ⟨b4, o4, x4, hl4, _⟩ := cl_ix hhH.out hli
        have e := (x4 w).symm.trans (x3 w)
        simp only [Result.ok.injEq, Value.pointer.injEq, Option.some.injEq, Addr.mk.injEq] at e
        rw [← e.1.1]; exact hl4
      have hXD : Hid (doesB k (hf h (rg r i)).d = true ∧ OkC k (hf h (rg r i)).d (runT k h r i).1) := ⟨(hRH.out.c _ (hf_mem hli)).1, inv_ok (hIv.out i hi) hRH.out.kd (by omega) (hRH.out.c _ (hf_mem hli)).1⟩
      have hstep := runT_step (k := k) (h := h) hlt
      have hsH : Hid (runT k h r (i + 1) = (nxtC k (runT k h r i).1 (hf h (rg r i)), (runT k h r i).2 && fitC k (runT k h r i).1 (hf h (rg r i)))) := hstep
      clear r3 hstep
      go_upto_region 11 with fail
      clear x1 c1
      have hS : Hid (wr.drew.heap[B9]? = some (oT k) ∧ wr.drew.heap[b3]? = wr.heap[b3]?) := ⟨hst.out.t, rfl⟩
      have hRd : Hid (∀ w' : World, w'.heap[B9]? = some (oT k) ∧ w'.heap[b3]? = wr.heap[b3]? → w'.rangeAt B9 0 (vT k).toList ∧ w'.rangeAt b3 o3 (hf h (rg r i)).cells) := fun w' q => ⟨rng_blk q.1, range_blk r3H.out q.2⟩
      refine wp_region_noPanic ?_
      refine wp_region_held_drew (S := fun w' => w'.heap[B9]? = some (oT k) ∧ w'.heap[b3]? = wr.heap[b3]?) (by kernel_rfl) hS.out (fun _ => ?_)
      refine reg_load (i := 0) rfl (by kernel_rfl) (by kernel_rfl) (by kernel_rfl) (fun _ _ _ _ h => h) rfl 65 _ rfl B9 0 rfl (vT k).toList _ (fun w' q => (hRd.out w' q).1) Try.underlying65 rfl infoT hS.out ?_
      simp only [Act.put, List.getElem_toArray, List.getElem_cons_succ, List.getElem_cons_zero, List.setIfInBounds_toArray, List.set_cons_zero, List.set_cons_succ]
      refine reg_move (i := 2) rfl (by kernel_rfl) (by kernel_rfl) (by kernel_rfl) (fun _ _ _ _ h => h) rfl (.slice ha h.length hc) (fun _ => rfl) hS.out ?_
      simp only [Act.put, List.getElem_toArray, List.getElem_cons_succ, List.getElem_cons_zero, List.setIfInBounds_toArray, List.set_cons_zero, List.set_cons_succ]
      refine reg_move (i := 3) rfl (by kernel_rfl) (by kernel_rfl) (by kernel_rfl) (fun _ _ _ _ h => h) rfl (.int .i64 ((rg r i : Nat) : Int)) (fun _ => rfl) hS.out ?_
      simp only [Act.put, List.getElem_toArray, List.getElem_cons_succ, List.getElem_cons_zero, List.setIfInBounds_toArray, List.set_cons_zero, List.set_cons_succ]
      refine reg_move (i := 4) rfl (by kernel_rfl) (by kernel_rfl) (by kernel_rfl) (fun _ _ _ _ h => h) rfl (.pointer (some ⟨b3, o3, none⟩)) (fun wx => by unfold execOp; exact run_value_of (x3 wx)) hS.out ?_
      simp only [Act.put, List.getElem_toArray, List.getElem_cons_succ, List.getElem_cons_zero, List.setIfInBounds_toArray, List.set_cons_zero, List.set_cons_succ]
      refine reg_load (i := 5) rfl (by kernel_rfl) (by kernel_rfl) (by kernel_rfl) (fun _ _ _ _ h => h) rfl 53 _ rfl b3 o3 rfl (hf h (rg r i)).cells _ (fun w' q => (hRd.out w' q).2) Try.underlying53 rfl infoX hS.out ?_
      simp only [Act.put, List.getElem_toArray, List.getElem_cons_succ, List.getElem_cons_zero, List.setIfInBounds_toArray, List.set_cons_zero, List.set_cons_succ]
      refine reg_one (i := 1) (by kernel_rfl) rfl rfl (wpList_load_row rfl 59 _ rfl C rfl _ _ _ _ (show wr.drew.heap[C]? = some (.cells (vC (runT k h r i).1) TC) from hst.out.c) huC.out rfl infoC9 (wpList_nil (And.intro hS.out fun _ => ?_)))
      simp only [Act.put, List.getElem_toArray, List.getElem_cons_succ, List.getElem_cons_zero, List.setIfInBounds_toArray, List.set_cons_zero, List.set_cons_succ]
      refine reg_call3L (i := 6) (by kernel_rfl) rfl rfl 52 _ _ _ _ _ _ rfl (.agg (vT k)) (.agg (vC (runT k h r i).1)) (hf h (rg r i)).val rfl rfl rfl (cf_fn Try.func52 (by kernel_rfl) (by kernel_rfl) _ _) _ (done_any k (runT k h r i).1 (hf h (rg r i)) hXD.out.1 hXD.out.2 _) ?_
      rintro e1 w5 ⟨rfl, hb5'⟩
      have hb5 : Hid (Below wr.heap.size wr w5) := bthen (bey_drew wr) hb5'
      have hS5 : Hid (w5.heap[B9]? = some (oT k) ∧ w5.heap[b3]? = wr.heap[b3]?) := ⟨blk_on hst.out.t hb5.out, hb5.out.block _ hb3.out⟩
      refine ⟨_, rfl, hS5.out, fun _ => ?_⟩
      simp only [Act.put, List.getElem_toArray, List.getElem_cons_succ, List.getElem_cons_zero, List.setIfInBounds_toArray, List.set_cons_zero, List.set_cons_succ]
      refine reg_move (i := 7) rfl (by kernel_rfl) (by kernel_rfl) (by kernel_rfl) (fun _ _ _ _ h => h) rfl (.tuple #[.agg (vC (nxtC k (runT k h r i).1 (hf h (rg r i)))), .bool (fitC k (runT k h r i).1 (hf h (rg r i)))]) (fun _ => rfl) hS5.out ?_
      simp only [Act.put, List.getElem_toArray, List.getElem_cons_succ, List.getElem_cons_zero, List.setIfInBounds_toArray, List.set_cons_zero, List.set_cons_succ]
      refine reg_move (i := 8) rfl (by kernel_rfl) (by kernel_rfl) (by kernel_rfl) (fun _ _ _ _ h => h) rfl (.agg (vC (nxtC k (runT k h r i).1 (hf h (rg r i))))) (fun _ => rfl) hS5.out ?_
      simp only [Act.put, List.getElem_toArray, List.getElem_cons_succ, List.getElem_cons_zero, List.setIfInBounds_toArray, List.set_cons_zero, List.set_cons_succ]
      refine reg_move (i := 9) rfl (by kernel_rfl) (by kernel_rfl) (by kernel_rfl) (fun _ _ _ _ h => h) rfl (.bool (fitC k (runT k h r i).1 (hf h (rg r i)))) (fun _ => rfl) hS5.out ?_
      simp only [Act.put, List.getElem_toArray, List.getElem_cons_succ, List.getElem_cons_zero, List.setIfInBounds_toArray, List.set_cons_zero, List.set_cons_succ]
      have hF5 : Hid (FoS w w5 k B9 C (runT k h r i).1) := hst.out.later hb5.out
      have hS6 : Hid ((w5.setRow C (vC (nxtC k (runT k h r i).1 (hf h (rg r i))))).heap[B9]? = some (oT k) ∧ (w5.setRow C (vC (nxtC k (runT k h r i).1 (hf h (rg r i))))).heap[b3]? = wr.heap[b3]?) := ⟨(setRow_other _ _ _ _ hF5.out.ne).trans hS5.out.1, (setRow_other _ _ _ _ (Nat.ne_of_lt (Nat.lt_trans hb3w.out hF5.out.d))).trans hS5.out.2⟩
      refine reg_one (i := 10) (by kernel_rfl) rfl rfl (wpList_store_row rfl 59 _ _ rfl C (vC (nxtC k (runT k h r i).1 (hf h (rg r i)))) rfl rfl _ _ hF5.out.c infoC9 rfl (vC_one _) (wpList_nil (And.intro hS6.out fun _ => ?_)))
      simp only [Act.put, List.getElem_toArray, List.getElem_cons_succ, List.getElem_cons_zero, List.setIfInBounds_toArray, List.set_cons_zero, List.set_cons_succ]
      refine reg_move (i := 11) rfl (by kernel_rfl) (by kernel_rfl) (by kernel_rfl) (fun _ _ _ _ h => h) rfl (.bool (fitC k (runT k h r i).1 (hf h (rg r i)))) (fun _ => rfl) hS6.out ?_
      simp only [Act.put, List.getElem_toArray, List.getElem_cons_succ, List.getElem_cons_zero, List.setIfInBounds_toArray, List.set_cons_zero, List.set_cons_succ]
      refine wpAnyH_done (by kernel_rfl) (NoPanic.normal ?_) _
      have hF6 : Hid (FoS w (w5.setRow C (vC (nxtC k (runT k h r i).1 (hf h (rg r i))))) k B9 C (runT k h r (i + 1)).1) := by (rw [hsH.out]; exact hF5.out.put _)
      generalize World.setRow w5 C _ = Y at *
      have hV : Hid ((runT k h r (i + 1)).2 = ((runT k h r i).2 && fitC k (runT k h r i).1 (hf h (rg r i)))) := by show _ = _; rw [hsH.out]
      clear hst hF5 hS5 hS6 hb5 hb5' hRd hS hXD hsH hb3 hb3w r3H x3
      generalize (runT k h r i).2 = p at *
      generalize fitC k (runT k h r i).1 (hf h (rg r i)) = q at *
      cases p with
      | true =>
        go_wp2
        go_roundw
        case rel => exact ⟨i + 1, by omega, by go_num, by rw [hV.out]; rfl, hF6.out⟩
        case measure => simp [intOf]; omega
      | false =>
        go_wp2
        go_roundw
        case rel => exact ⟨i + 1, by omega, by go_num, by rw [hV.out]; rfl, hF6.out⟩
        case measure => simp [intOf]; omega
    · have hie : i = r.length := by omega
      have hiI : ¬ (i : Int) < r.length := by omega
      have hE : Hid (FoS w wr k B9 C (runC k h (firstC k) r).1) := by (rw [← runT_all, ← hie]; exact hst.out)
      have hV : Hid ((runT k h r i).2 = (runC k h (firstC k) r).2) := by show _ = _; rw [← runT_all, hie]
      rw [hV.out]
      clear hst hV
      go_wp2_with (first
        | ((with_reducible refine at_loadL 59 (.tmp 11) rfl ?_); refine stopL_out ?_; refine wpList_load_row rfl 59 _ rfl C rfl _ _ _ _ hE.out.c huC.out rfl infoC9 ?_)
        | ((with_reducible refine at_storeL 59 _ _ rfl ?_); refine stopL_out ?_; refine wpList_store_row rfl 59 _ _ rfl w.heap.size (vC (runC k h (firstC k) r).1) rfl rfl _ _ hE.out.r infoC9 rfl (vC_one _) ?_))
      exact bodyPost_ret (results_c3 Try.results33 _ _ w.heap.size (vC (runC k h (firstC k) r).1) (.bool (runC k h (firstC k) r).2) (.int .i64 0) rfl rfl rfl rfl (setRow_heap _ _ _ _ _ _ hE.out.r)) rfl ⟨rfl, below_setRow hE.out.b (Nat.le_refl _) _⟩
end
end Go.Proofs.Ytklpifammbnldaa.pg
/- The document's own Check of a history. -/
namespace Go.Proofs.Ytklpifammbnldaa.pg
open Go.ChangeShapes Go.WideShapes Go.ChangeAt Go.RowKit
set_option linter.unusedVariables false
set_option linter.unusedSimpArgs false
set_option maxRecDepth 100000
attribute [local go_sem ↓] Go.wp_at_zero Go.wp_at_succ
abbrev zCl : Array Value := #[.int .i64 0, .int .i64 0, .int .i64 0, .int .i64 0, .bool false, .int .i64 0, .int .i64 0]
theorem zeroCl : ∀ w, (zeroValue 53).run Try.prog w = .ok (.agg zCl) w := fun w => by kernel_rfl
theorem cl_one (x : Cl) : x.cells.toArray.all (·.oneCell') = true := by simp [Cl.cells, Value.oneCell']
theorem goodTo_next {k : Int} {h : List Cl} {i : Nat} (g : goodTo k h i) (h1 : fieldB k (hf h i) = true) (h2 : ∀ j, j < i → pairB (hf h i) (hf h j) = false) : goodTo k h (i + 1) := fun a ha => by
  unfold fieldB at h1
  rw [Bool.and_eq_true] at h1
  by_cases e : a = i
  · subst e; exact ⟨h1.1, h1.2, h2⟩
  · exact g a (by omega)
theorem not_right1 {k : Int} {h : List Cl} {i : Nat} (hi : i < h.length) (q : fieldB k (hf h i) = false) : ¬ RightH k h := fun r => by
  have := r.c _ (hf_mem hi)
  unfold fieldB at q
  rw [this.1, this.2] at q
  cases q
theorem not_right2 {k : Int} {h : List Cl} {i j : Nat} (hj : j < i) (hi : i < h.length) (q : pairB (hf h i) (hf h j) = true) : ¬ RightH k h := fun r => by
  have := r.pair hj hi
  rw [q] at this
  cases this
section
variable {w : World} {k : Int} {h : List Cl} {ha : Option Addr} {hc : Nat}
/-- What the document's Check answers. -/
def ChP (k : Int) (h : List Cl) (e : Ending) : Prop := (RightH k h ∧ e = .returned (.int .i64 0)) ∨ (¬ RightH k h ∧ e = .returned (.int .i64 260))
theorem rcheck_kind (hk : ¬ (1 ≤ k ∧ k ≤ 4)) : Calls Try.prog 9 #[.int .i64 k, .slice ha h.length hc] w fun e w' => ChP k h e ∧ Below w.heap.size w w' := by
  have hN : Hid (¬ RightH k h) := fun r => hk r.kd
  by_cases h1 : k < 1
  · go_enter Try.func9, Try.ntmps9
    go_wp2
    go_ret
    exact ⟨.inr ⟨hN.out, rfl⟩, Below.refl _ _⟩
  · have h2 : 4 < k := by omega
    go_enter Try.func9, Try.ntmps9
    go_wp2
    go_ret
    exact ⟨.inr ⟨hN.out, rfl⟩, Below.refl _ _⟩
theorem rcheck_long (hk : 1 ≤ k ∧ k ≤ 4) (hn : 8 < h.length) : Calls Try.prog 9 #[.int .i64 k, .slice ha h.length hc] w fun e w' => ChP k h e ∧ Below w.heap.size w w' := by
  have hN : Hid (¬ RightH k h) := fun r => by have := r.n; omega
  have h1 : ¬ k < 1 := by omega
  have h2 : ¬ 4 < k := by omega
  have h3 : (8 : Int) < h.length := by omega
  clear hk hn
  go_enter Try.func9, Try.ntmps9
  go_wp2
  go_ret
  exact ⟨.inr ⟨hN.out, rfl⟩, Below.refl _ _⟩
set_option maxHeartbeats 8000000 in
theorem rcheck_main (hh : Rows w 7 ha hc (h.map Cl.cells)) (hk : 1 ≤ k ∧ k ≤ 4) (hn : h.length ≤ 8) : Calls Try.prog 9 #[.int .i64 k, .slice ha h.length hc] w fun e w' => ChP k h e ∧ Below w.heap.size w w' := by
  have hhH : Hid (Rows w 7 ha hc (h.map Cl.cells)) := hh
  have hkH : Hid (1 ≤ k ∧ k ≤ 4) := hk
  have huX : Hid (Try.prog.underlying 53 = _) := Try.underlying53
  have h1 : ¬ k < 1 := by omega
  have h2 : ¬ 4 < k := by omega
  have h3 : ¬ (8 : Int) < h.length := by omega
  have hn8 : (h.length : Int) ≤ 8 := by omega
  have s0 : Hid (Below w.heap.size w w ∧ goodTo k h 0) := ⟨Below.refl _ _, fun a ha => by omega⟩
  clear hk hh
  go_enter Try.func9, Try.ntmps9
  go_wp2_with fail
  clear h1 h2 h3
  obtain ⟨V0, hV0⟩ : ∃ V, w = V := ⟨_, rfl⟩
  go_loopw [5] (fun u wr => ∃ i : Nat, i ≤ h.length ∧ u = .int .i64 (i : Int) ∧ Hid (Below w.heap.size w wr ∧ goodTo k h i)) (fun u _ => h.length - (intOf u).toNat)
  case atStart => exact ⟨0, Nat.zero_le _, rfl, s0⟩
  case round =>
    obtain ⟨i, hi, rfl, hst⟩ := hrel
    clear s0 hV0
    by_cases hlt : i < h.length
    · have hiI : (i : Int) < h.length := by omega
      obtain ⟨b1, o1, x1, _, r1⟩ := cl_ix (hhH.out.later hst.out.1) hlt
      obtain ⟨x, hx⟩ : ∃ x, hf h i = x := ⟨_, rfl⟩
      have hxH : Hid (hf h i = x) := hx
      rw [hx] at r1
      have r1H : Hid (wr.rangeAt b1 o1 [.int .i64 x.go, .int .i64 x.d, .int .i64 x.inn, .int .i64 x.out, .bool x.em, .int .i64 x.bg, .int .i64 x.en]) := r1
      have hb1 : Hid (b1 < w.heap.size) := by
        obtain ⟨b4, o4, x4, hl4, _⟩ := cl_ix hhH.out hlt
        have e := (x4 w).symm.trans (x1 w)
        simp only [Result.ok.injEq, Value.pointer.injEq, Option.some.injEq, Addr.mk.injEq] at e
        rw [← e.1.1]; exact hl4
      have cF : ∀ wx, Calls Try.prog 26 #[.int .i64 k, x.val] wx _ := fun wx => rfields_any k x wx
      clear r1 hx
      obtain ⟨p, hp⟩ : ∃ p, fieldB k x = p := ⟨_, rfl⟩
      rw [hp] at cF
      have hpH : Hid (fieldB k (hf h i) = p) := by (show _ = _; rw [hxH.out]; exact hp)
      clear hp
      cases p with
      | false =>
        have hN : Hid (¬ RightH k h) := not_right1 hlt hpH.out
        have hbb : Hid (Below w.heap.size w wr) := hst.out.1
        go_wp2_with (first
          | ((with_reducible refine at_loadL 53 (.tmp 29) rfl ?_); refine stopL_out ?_; refine wpList_load_mid rfl 53 _ rfl b1 o1 rfl [.int .i64 x.go, .int .i64 x.d, .int .i64 x.inn, .int .i64 x.out, .bool x.em, .int .i64 x.bg, .int .i64 x.en] _ r1H.out huX.out rfl infoX ?_)
          | (go_at_call 26; (with_reducible refine (cF _).mono ?_); rintro e w1 ⟨rfl, hb1'⟩; (have hb2 : Hid (Below w.heap.size w w1) := bthen hbb.out hb1'); clear hb1'))
        go_ret
        exact ⟨.inr ⟨hN.out, rfl⟩, hb2.out⟩
      | true =>
        have hbb : Hid (Below w.heap.size w wr) := hst.out.1
        go_wp2_with (first
          | ((with_reducible refine at_loadL 53 (.tmp 29) rfl ?_); refine stopL_out ?_; refine wpList_load_mid rfl 53 _ rfl b1 o1 rfl [.int .i64 x.go, .int .i64 x.d, .int .i64 x.inn, .int .i64 x.out, .bool x.em, .int .i64 x.bg, .int .i64 x.en] _ r1H.out huX.out rfl infoX ?_)
          | (go_at_call 26; (with_reducible refine (cF _).mono ?_); rintro e w1 ⟨rfl, hb1'⟩; (have hb2 : Hid (Below w.heap.size w w1) := bthen hbb.out hb1'); clear hb1' cF))
        have s1 : Hid (Below w.heap.size w w1 ∧ goodTo k h i ∧ ∀ j', j' < 0 → pairB (hf h i) (hf h j') = false) := ⟨hb2.out, hst.out.2, fun j' q => by omega⟩
        clear hst hbb hb2 r1H
        go_loopw [6] (fun u wr => ∃ j : Nat, j ≤ i ∧ u = .int .i64 (j : Int) ∧ Hid (Below w.heap.size w wr ∧ goodTo k h i ∧ ∀ j', j' < j → pairB (hf h i) (hf h j') = false)) (fun u _ => i - (intOf u).toNat)
        case atStart => exact ⟨0, Nat.zero_le _, rfl, s1⟩
        case round =>
          obtain ⟨j, hj, rfl, hst⟩ := hrel
          clear s1
          by_cases hlt2 : j < i
          · have hjI : (j : Int) < i := by omega
            obtain ⟨b2, o2, x2, _, r2⟩ := cl_ix (hhH.out.later hst.out.1) (show j < h.length by omega)
            obtain ⟨b3, o3, x3, _, r3⟩ := cl_ix (hhH.out.later hst.out.1) hlt
            obtain ⟨y, hy⟩ : ∃ y, hf h j = y := ⟨_, rfl⟩
            have hyH : Hid (hf h j = y) := hy
            rw [hy] at r2
            rw [hxH.out] at r3
            have e13 : b3 = b1 ∧ o3 = o1 := by
              have e := (x3 w).symm.trans (x1 w)
              simp only [Result.ok.injEq, Value.pointer.injEq, Option.some.injEq, Addr.mk.injEq] at e
              exact ⟨e.1.1, e.1.2.1⟩
            rw [e13.1, e13.2] at r3
            have hl2 := cl_blk r2
            have hl3 := cl_blk r3
            have hRd : Hid (∀ w', Below wr.heap.size wr w' → w'.rangeAt b1 o1 x.cells ∧ w'.rangeAt b2 o2 y.cells) := fun w' q => ⟨range_blk r3 (q.block _ hl3), range_blk r2 (q.block _ hl2)⟩
            clear r2 r3 hy e13 hl2 hl3 x3
            go_upto_region 11 with fail
            go_cut [7, 8] from 33 to 93 (fun u7 u8 wx => ∃ A7 A8 : Nat, u7 = .pointer (some ⟨A7, 0, none⟩) ∧ u8 = .pointer (some ⟨A8, 0, none⟩) ∧ Hid (Below wr.heap.size wr wx ∧ wx.heap[A7]? = some (oCl x) ∧ wx.heap[A8]? = some (oCl y)))
            case first =>
              have hS : Hid (Below wr.heap.size wr wr.drew) := bey_drew wr
              refine wp_region_noPanic ?_
              refine wp_region_held_drew (S := fun w' => Below wr.heap.size wr w') (by kernel_rfl) hS.out (fun _ => ?_)
              refine reg_move (i := 0) rfl (by kernel_rfl) (by kernel_rfl) (by kernel_rfl) (fun _ _ _ _ h => h) rfl (.slice ha h.length hc) (fun _ => rfl) hS.out ?_
              simp only [Act.put, List.getElem_toArray, List.getElem_cons_succ, List.getElem_cons_zero, List.setIfInBounds_toArray, List.set_cons_zero, List.set_cons_succ]
              refine reg_move (i := 1) rfl (by kernel_rfl) (by kernel_rfl) (by kernel_rfl) (fun _ _ _ _ h => h) rfl (.int .i64 (i : Int)) (fun _ => rfl) hS.out ?_
              simp only [Act.put, List.getElem_toArray, List.getElem_cons_succ, List.getElem_cons_zero, List.setIfInBounds_toArray, List.set_cons_zero, List.set_cons_succ]
              refine reg_move (i := 2) rfl (by kernel_rfl) (by kernel_rfl) (by kernel_rfl) (fun _ _ _ _ h => h) rfl (.pointer (some ⟨b1, o1, none⟩)) (fun wx => by unfold execOp; exact run_value_of (x1 wx)) hS.out ?_
              simp only [Act.put, List.getElem_toArray, List.getElem_cons_succ, List.getElem_cons_zero, List.setIfInBounds_toArray, List.set_cons_zero, List.set_cons_succ]
              refine reg_load (i := 3) rfl (by kernel_rfl) (by kernel_rfl) (by kernel_rfl) (fun _ _ _ _ h => h) rfl 53 _ rfl b1 o1 rfl x.cells _ (fun w' q => (hRd.out w' q).1) Try.underlying53 rfl infoX hS.out ?_
              simp only [Act.put, List.getElem_toArray, List.getElem_cons_succ, List.getElem_cons_zero, List.setIfInBounds_toArray, List.set_cons_zero, List.set_cons_succ]
              refine reg_move (i := 4) rfl (by kernel_rfl) (by kernel_rfl) (by kernel_rfl) (fun _ _ _ _ h => h) rfl (.slice ha h.length hc) (fun _ => rfl) hS.out ?_
              simp only [Act.put, List.getElem_toArray, List.getElem_cons_succ, List.getElem_cons_zero, List.setIfInBounds_toArray, List.set_cons_zero, List.set_cons_succ]
              refine reg_move (i := 5) rfl (by kernel_rfl) (by kernel_rfl) (by kernel_rfl) (fun _ _ _ _ h => h) rfl (.int .i64 (j : Int)) (fun _ => rfl) hS.out ?_
              simp only [Act.put, List.getElem_toArray, List.getElem_cons_succ, List.getElem_cons_zero, List.setIfInBounds_toArray, List.set_cons_zero, List.set_cons_succ]
              refine reg_move (i := 6) rfl (by kernel_rfl) (by kernel_rfl) (by kernel_rfl) (fun _ _ _ _ h => h) rfl (.pointer (some ⟨b2, o2, none⟩)) (fun wx => by unfold execOp; exact run_value_of (x2 wx)) hS.out ?_
              simp only [Act.put, List.getElem_toArray, List.getElem_cons_succ, List.getElem_cons_zero, List.setIfInBounds_toArray, List.set_cons_zero, List.set_cons_succ]
              refine reg_load (i := 7) rfl (by kernel_rfl) (by kernel_rfl) (by kernel_rfl) (fun _ _ _ _ h => h) rfl 53 _ rfl b2 o2 rfl y.cells _ (fun w' q => (hRd.out w' q).2) Try.underlying53 rfl infoX hS.out ?_
              simp only [Act.put, List.getElem_toArray, List.getElem_cons_succ, List.getElem_cons_zero, List.setIfInBounds_toArray, List.set_cons_zero, List.set_cons_succ]
              refine wpAnyH_ready (show Region.ready .any _ _ = [8, 9] by kernel_rfl) (by simp) (AllReadyH.cons rfl (arm_list rfl (wpList_alloc_big rfl 53 rfl zeroCl (wpList_nil (And.intro (bthen hS.out (boxed _ _)) fun _ => ?_)))) (AllReadyH.cons rfl (arm_list rfl (wpList_alloc_big rfl 53 rfl zeroCl (wpList_nil (And.intro (bthen hS.out (boxed _ _)) fun _ => ?_)))) AllReadyH.nil))
              · simp only [Act.put, List.getElem_toArray, List.getElem_cons_succ, List.getElem_cons_zero, List.setIfInBounds_toArray, List.set_cons_zero, List.set_cons_succ]
                refine reg_one (i := 9) (by kernel_rfl) rfl rfl (wpList_alloc_big rfl 53 rfl zeroCl (wpList_nil (And.intro (bthen (bthen hS.out (boxed _ _)) (boxed _ _)) fun _ => ?_)))
                simp only [Act.put, List.getElem_toArray, List.getElem_cons_succ, List.getElem_cons_zero, List.setIfInBounds_toArray, List.set_cons_zero, List.set_cons_succ]
                obtain ⟨V, hV⟩ : ∃ V, (wr.drew.alloc (.cells zCl 53)).alloc (.cells zCl 53) = V := ⟨_, rfl⟩
                have hA : Hid (Below wr.heap.size wr V ∧ V.heap[wr.drew.heap.size]? = some (.cells zCl 53) ∧ V.heap[(wr.drew.alloc (.cells zCl 53)).heap.size]? = some (.cells zCl 53) ∧ wr.drew.heap.size ≠ (wr.drew.alloc (.cells zCl 53)).heap.size ∧ wr.heap.size ≤ wr.drew.heap.size ∧ wr.heap.size ≤ (wr.drew.alloc (.cells zCl 53)).heap.size) := by (rw [← hV]; have e1 := World.size_alloc wr.drew (.cells zCl 53); have e2 := hS.out.size; exact ⟨bthen (bthen hS.out (boxed _ _)) (boxed _ _), blk_on (heap_alloc_new _ _) (boxed _ _), heap_alloc_new _ _, by omega, by omega, by omega⟩)
                rw [hV]
                generalize (wr.drew.alloc (.cells zCl 53)).heap.size = A8 at *
                generalize wr.drew.heap.size = A7 at *
                clear hV
                refine reg_one (i := 10) (by kernel_rfl) rfl rfl (wpList_store_row rfl 53 _ _ rfl A7 x.cells.toArray rfl rfl _ _ hA.out.2.1 infoX rfl (cl_one x) (wpList_nil (And.intro (below_setRow hA.out.1 hA.out.2.2.2.2.1 _) fun _ => ?_)))
                simp only [Act.put, List.getElem_toArray, List.getElem_cons_succ, List.getElem_cons_zero, List.setIfInBounds_toArray, List.set_cons_zero, List.set_cons_succ]
                have hA1 : Hid (Below wr.heap.size wr (V.setRow A7 x.cells.toArray) ∧ (V.setRow A7 x.cells.toArray).heap[A7]? = some (oCl x) ∧ (V.setRow A7 x.cells.toArray).heap[A8]? = some (.cells zCl 53)) := ⟨below_setRow hA.out.1 hA.out.2.2.2.2.1 _, setRow_heap _ _ _ _ _ _ hA.out.2.1, (setRow_other _ _ _ _ (Ne.symm hA.out.2.2.2.1)).trans hA.out.2.2.1⟩
                refine reg_one (i := 11) (by kernel_rfl) rfl rfl (wpList_store_row rfl 53 _ _ rfl A8 y.cells.toArray rfl rfl _ _ hA1.out.2.2 infoX rfl (cl_one y) (wpList_nil (And.intro (below_setRow hA1.out.1 hA.out.2.2.2.2.2 _) fun _ => ?_)))
                simp only [Act.put, List.getElem_toArray, List.getElem_cons_succ, List.getElem_cons_zero, List.setIfInBounds_toArray, List.set_cons_zero, List.set_cons_succ]
                refine wpAnyH_done (by kernel_rfl) (NoPanic.normal ?_) _
                have hA2 : Hid (Below wr.heap.size wr ((V.setRow A7 x.cells.toArray).setRow A8 y.cells.toArray) ∧ ((V.setRow A7 x.cells.toArray).setRow A8 y.cells.toArray).heap[A7]? = some (oCl x) ∧ ((V.setRow A7 x.cells.toArray).setRow A8 y.cells.toArray).heap[A8]? = some (oCl y)) := ⟨below_setRow hA1.out.1 hA.out.2.2.2.2.2 _, (setRow_other _ _ _ _ hA.out.2.2.2.1).trans hA1.out.2.1, setRow_heap _ _ _ _ _ _ hA1.out.2.2⟩
                generalize World.setRow (World.setRow V A7 x.cells.toArray) A8 y.cells.toArray = Y at *
                go_wp2_with fail
                go_meet
                case rel => exact ⟨A7, A8, rfl, rfl, hA2.out⟩
              · simp only [Act.put, List.getElem_toArray, List.getElem_cons_succ, List.getElem_cons_zero, List.setIfInBounds_toArray, List.set_cons_zero, List.set_cons_succ]
                refine reg_one (i := 8) (by kernel_rfl) rfl rfl (wpList_alloc_big rfl 53 rfl zeroCl (wpList_nil (And.intro (bthen (bthen hS.out (boxed _ _)) (boxed _ _)) fun _ => ?_)))
                simp only [Act.put, List.getElem_toArray, List.getElem_cons_succ, List.getElem_cons_zero, List.setIfInBounds_toArray, List.set_cons_zero, List.set_cons_succ]
                obtain ⟨V, hV⟩ : ∃ V, (wr.drew.alloc (.cells zCl 53)).alloc (.cells zCl 53) = V := ⟨_, rfl⟩
                have hA : Hid (Below wr.heap.size wr V ∧ V.heap[(wr.drew.alloc (.cells zCl 53)).heap.size]? = some (.cells zCl 53) ∧ V.heap[wr.drew.heap.size]? = some (.cells zCl 53) ∧ (wr.drew.alloc (.cells zCl 53)).heap.size ≠ wr.drew.heap.size ∧ wr.heap.size ≤ (wr.drew.alloc (.cells zCl 53)).heap.size ∧ wr.heap.size ≤ wr.drew.heap.size) := by (rw [← hV]; have e1 := World.size_alloc wr.drew (.cells zCl 53); have e2 := hS.out.size; exact ⟨bthen (bthen hS.out (boxed _ _)) (boxed _ _), heap_alloc_new _ _, blk_on (heap_alloc_new _ _) (boxed _ _), by omega, by omega, by omega⟩)
                rw [hV]
                generalize (wr.drew.alloc (.cells zCl 53)).heap.size = A7 at *
                generalize wr.drew.heap.size = A8 at *
                clear hV
                refine reg_one (i := 10) (by kernel_rfl) rfl rfl (wpList_store_row rfl 53 _ _ rfl A7 x.cells.toArray rfl rfl _ _ hA.out.2.1 infoX rfl (cl_one x) (wpList_nil (And.intro (below_setRow hA.out.1 hA.out.2.2.2.2.1 _) fun _ => ?_)))
                simp only [Act.put, List.getElem_toArray, List.getElem_cons_succ, List.getElem_cons_zero, List.setIfInBounds_toArray, List.set_cons_zero, List.set_cons_succ]
                have hA1 : Hid (Below wr.heap.size wr (V.setRow A7 x.cells.toArray) ∧ (V.setRow A7 x.cells.toArray).heap[A7]? = some (oCl x) ∧ (V.setRow A7 x.cells.toArray).heap[A8]? = some (.cells zCl 53)) := ⟨below_setRow hA.out.1 hA.out.2.2.2.2.1 _, setRow_heap _ _ _ _ _ _ hA.out.2.1, (setRow_other _ _ _ _ (Ne.symm hA.out.2.2.2.1)).trans hA.out.2.2.1⟩
                refine reg_one (i := 11) (by kernel_rfl) rfl rfl (wpList_store_row rfl 53 _ _ rfl A8 y.cells.toArray rfl rfl _ _ hA1.out.2.2 infoX rfl (cl_one y) (wpList_nil (And.intro (below_setRow hA1.out.1 hA.out.2.2.2.2.2 _) fun _ => ?_)))
                simp only [Act.put, List.getElem_toArray, List.getElem_cons_succ, List.getElem_cons_zero, List.setIfInBounds_toArray, List.set_cons_zero, List.set_cons_succ]
                refine wpAnyH_done (by kernel_rfl) (NoPanic.normal ?_) _
                have hA2 : Hid (Below wr.heap.size wr ((V.setRow A7 x.cells.toArray).setRow A8 y.cells.toArray) ∧ ((V.setRow A7 x.cells.toArray).setRow A8 y.cells.toArray).heap[A7]? = some (oCl x) ∧ ((V.setRow A7 x.cells.toArray).setRow A8 y.cells.toArray).heap[A8]? = some (oCl y)) := ⟨below_setRow hA1.out.1 hA.out.2.2.2.2.2 _, (setRow_other _ _ _ _ hA.out.2.2.2.1).trans hA1.out.2.1, setRow_heap _ _ _ _ _ _ hA1.out.2.2⟩
                generalize World.setRow (World.setRow V A7 x.cells.toArray) A8 y.cells.toArray = Y at *
                go_wp2_with fail
                go_meet
                case rel => exact ⟨A7, A8, rfl, rfl, hA2.out⟩
            case rest =>
              obtain ⟨A7, A8, rfl, rfl, hq0⟩ := hcut
              have hC : Hid (Below w.heap.size w wc ∧ wc.heap[A7]? = some (oCl x) ∧ wc.heap[A8]? = some (oCl y)) := ⟨bthen hst.out.1 hq0.out.1, hq0.out.2.1, hq0.out.2.2⟩
              have hGd : Hid (goodTo k h i ∧ ∀ j', j' < j → pairB (hf h i) (hf h j') = false) := hst.out.2
              clear hq0 hst
              generalize wc = Z at *
              obtain ⟨k0, _, _, _, _, k5, k6⟩ := cl7 hC.out.2.1
              obtain ⟨j0, _, _, _, _, j5, j6⟩ := cl7 hC.out.2.2
              have cA : ∀ wx, Calls Try.prog 27 #[x.val, y.val] wx _ := fun wx => rahead_any x y wx
              have cB : ∀ wx, Calls Try.prog 27 #[y.val, x.val] wx _ := fun wx => rahead_any y x wx
              obtain ⟨b1, h1⟩ : ∃ b, (x.bg == y.bg) = b := ⟨_, rfl⟩
              obtain ⟨b2, h2⟩ : ∃ b, (x.bg == y.en) = b := ⟨_, rfl⟩
              obtain ⟨b3, h3⟩ : ∃ b, (x.en == y.bg) = b := ⟨_, rfl⟩
              obtain ⟨b4, h4⟩ : ∃ b, (x.en == y.en) = b := ⟨_, rfl⟩
              obtain ⟨b5, h5⟩ : ∃ b, (x.en != -1) = b := ⟨_, rfl⟩
              obtain ⟨b6, h6⟩ : ∃ b, (x.go == y.go) = b := ⟨_, rfl⟩
              obtain ⟨b7, h7⟩ : ∃ b, endB x y = b := ⟨_, rfl⟩
              obtain ⟨b8, h8⟩ : ∃ b, endB y x = b := ⟨_, rfl⟩
              have hxy : Hid (pairB (hf h i) (hf h j) = ((b1 || b2 || b3 || (b4 && b5)) || (b6 && !b7 && !b8))) := by
                show _ = _
                rw [hxH.out, hyH.out]
                unfold pairB momB Cl.pend
                rw [← h1, ← h2, ← h3, ← h4, ← h5, ← h6, ← h7, ← h8]
                rfl
              rw [h7] at cA
              rw [h8] at cB
              clear h7 h8 hxH hyH
              cases b1 with
              | true =>
                have hN : Hid (¬ RightH k h) := not_right2 hlt2 hlt (by rw [hxy.out]; (try simp))
                go_wp2
                go_ret
                exact ⟨.inr ⟨hN.out, rfl⟩, hC.out.1⟩
              | false =>
                cases b2 with
                | true =>
                  have hN : Hid (¬ RightH k h) := not_right2 hlt2 hlt (by rw [hxy.out]; (try simp))
                  go_wp2
                  go_ret
                  exact ⟨.inr ⟨hN.out, rfl⟩, hC.out.1⟩
                | false =>
                  cases b3 with
                  | true =>
                    have hN : Hid (¬ RightH k h) := not_right2 hlt2 hlt (by rw [hxy.out]; (try simp))
                    go_wp2
                    go_ret
                    exact ⟨.inr ⟨hN.out, rfl⟩, hC.out.1⟩
                  | false =>
                    cases b4 with
                    | true =>
                      cases b5 with
                      | true =>
                        have hN : Hid (¬ RightH k h) := not_right2 hlt2 hlt (by rw [hxy.out]; (try simp))
                        go_wp2
                        go_ret
                        exact ⟨.inr ⟨hN.out, rfl⟩, hC.out.1⟩
                      | false =>
                        cases b6 with
                        | false =>
                          have hP : Hid (∀ j', j' < j + 1 → pairB (hf h i) (hf h j') = false) := fun j' hj' => by
                            by_cases e : j' = j
                            · rw [e, hxy.out]; (try simp)
                            · exact hGd.out.2 j' (by omega)
                          go_wp2
                          go_roundw
                          case rel => exact ⟨j + 1, by omega, by go_num, hC.out.1, hGd.out.1, hP.out⟩
                          case measure => simp [intOf]; omega
                        | true =>
                          cases b7 with
                          | true =>
                            have hP : Hid (∀ j', j' < j + 1 → pairB (hf h i) (hf h j') = false) := fun j' hj' => by
                              by_cases e : j' = j
                              · rw [e, hxy.out]; (try simp)
                              · exact hGd.out.2 j' (by omega)
                            go_wp2_with (first
                              | ((with_reducible refine at_loadL 53 (.tmp 7) rfl ?_); refine stopL_out ?_; refine wpList_load_row rfl 53 _ rfl A7 rfl _ _ _ _ hC5.out.2.1 huX.out rfl infoX ?_)
                              | ((with_reducible refine at_loadL 53 (.tmp 8) rfl ?_); refine stopL_out ?_; refine wpList_load_row rfl 53 _ rfl A8 rfl _ _ _ _ hC5.out.2.2 huX.out rfl infoX ?_)
                              | ((with_reducible refine at_loadL 53 (.tmp 7) rfl ?_); refine stopL_out ?_; refine wpList_load_row rfl 53 _ rfl A7 rfl _ _ _ _ hC.out.2.1 huX.out rfl infoX ?_)
                              | ((with_reducible refine at_loadL 53 (.tmp 8) rfl ?_); refine stopL_out ?_; refine wpList_load_row rfl 53 _ rfl A8 rfl _ _ _ _ hC.out.2.2 huX.out rfl infoX ?_)
                              | (go_at_call 27; (with_reducible refine (cA _).mono ?_); rintro e w5 ⟨rfl, hb5'⟩; (have hC5 : Hid (Below w.heap.size w w5 ∧ w5.heap[A7]? = some (oCl x) ∧ w5.heap[A8]? = some (oCl y)) := ⟨bthen hC.out.1 hb5', blk_on hC.out.2.1 hb5', blk_on hC.out.2.2 hb5'⟩); clear hb5'; (obtain ⟨m0, m1, m2, m3, m4, m5, m6⟩ := cl7 hC5.out.2.1); (obtain ⟨n0, n1, n2, n3, n4, n5, n6⟩ := cl7 hC5.out.2.2)))
                            go_roundw
                            case rel => exact ⟨j + 1, by omega, by go_num, hC5.out.1, hGd.out.1, hP.out⟩
                            case measure => simp [intOf]; omega
                          | false =>
                            cases b8 with
                            | true =>
                              have hP : Hid (∀ j', j' < j + 1 → pairB (hf h i) (hf h j') = false) := fun j' hj' => by
                                by_cases e : j' = j
                                · rw [e, hxy.out]; (try simp)
                                · exact hGd.out.2 j' (by omega)
                              go_wp2_with (first
                                | ((with_reducible refine at_loadL 53 (.tmp 7) rfl ?_); refine stopL_out ?_; refine wpList_load_row rfl 53 _ rfl A7 rfl _ _ _ _ hC5.out.2.1 huX.out rfl infoX ?_)
                                | ((with_reducible refine at_loadL 53 (.tmp 8) rfl ?_); refine stopL_out ?_; refine wpList_load_row rfl 53 _ rfl A8 rfl _ _ _ _ hC5.out.2.2 huX.out rfl infoX ?_)
                                | ((with_reducible refine at_loadL 53 (.tmp 7) rfl ?_); refine stopL_out ?_; refine wpList_load_row rfl 53 _ rfl A7 rfl _ _ _ _ hC.out.2.1 huX.out rfl infoX ?_)
                                | ((with_reducible refine at_loadL 53 (.tmp 8) rfl ?_); refine stopL_out ?_; refine wpList_load_row rfl 53 _ rfl A8 rfl _ _ _ _ hC.out.2.2 huX.out rfl infoX ?_)
                                | (go_at_call 27; (with_reducible refine (cB _).mono ?_); rintro e w6 ⟨rfl, hb6'⟩; (have hC6 : Hid (Below w.heap.size w w6) := bthen hC5.out.1 hb6'); clear hb6')
                                | (go_at_call 27; (with_reducible refine (cA _).mono ?_); rintro e w5 ⟨rfl, hb5'⟩; (have hC5 : Hid (Below w.heap.size w w5 ∧ w5.heap[A7]? = some (oCl x) ∧ w5.heap[A8]? = some (oCl y)) := ⟨bthen hC.out.1 hb5', blk_on hC.out.2.1 hb5', blk_on hC.out.2.2 hb5'⟩); clear hb5'; (obtain ⟨m0, m1, m2, m3, m4, m5, m6⟩ := cl7 hC5.out.2.1); (obtain ⟨n0, n1, n2, n3, n4, n5, n6⟩ := cl7 hC5.out.2.2)))
                              go_roundw
                              case rel => exact ⟨j + 1, by omega, by go_num, hC6.out, hGd.out.1, hP.out⟩
                              case measure => simp [intOf]; omega
                            | false =>
                              have hN : Hid (¬ RightH k h) := not_right2 hlt2 hlt (by rw [hxy.out]; (try simp))
                              go_wp2_with (first
                                | ((with_reducible refine at_loadL 53 (.tmp 7) rfl ?_); refine stopL_out ?_; refine wpList_load_row rfl 53 _ rfl A7 rfl _ _ _ _ hC5.out.2.1 huX.out rfl infoX ?_)
                                | ((with_reducible refine at_loadL 53 (.tmp 8) rfl ?_); refine stopL_out ?_; refine wpList_load_row rfl 53 _ rfl A8 rfl _ _ _ _ hC5.out.2.2 huX.out rfl infoX ?_)
                                | ((with_reducible refine at_loadL 53 (.tmp 7) rfl ?_); refine stopL_out ?_; refine wpList_load_row rfl 53 _ rfl A7 rfl _ _ _ _ hC.out.2.1 huX.out rfl infoX ?_)
                                | ((with_reducible refine at_loadL 53 (.tmp 8) rfl ?_); refine stopL_out ?_; refine wpList_load_row rfl 53 _ rfl A8 rfl _ _ _ _ hC.out.2.2 huX.out rfl infoX ?_)
                                | (go_at_call 27; (with_reducible refine (cB _).mono ?_); rintro e w6 ⟨rfl, hb6'⟩; (have hC6 : Hid (Below w.heap.size w w6) := bthen hC5.out.1 hb6'); clear hb6')
                                | (go_at_call 27; (with_reducible refine (cA _).mono ?_); rintro e w5 ⟨rfl, hb5'⟩; (have hC5 : Hid (Below w.heap.size w w5 ∧ w5.heap[A7]? = some (oCl x) ∧ w5.heap[A8]? = some (oCl y)) := ⟨bthen hC.out.1 hb5', blk_on hC.out.2.1 hb5', blk_on hC.out.2.2 hb5'⟩); clear hb5'; (obtain ⟨m0, m1, m2, m3, m4, m5, m6⟩ := cl7 hC5.out.2.1); (obtain ⟨n0, n1, n2, n3, n4, n5, n6⟩ := cl7 hC5.out.2.2)))
                              go_ret
                              exact ⟨.inr ⟨hN.out, rfl⟩, hC6.out⟩
                    | false =>
                      cases b6 with
                      | false =>
                        have hP : Hid (∀ j', j' < j + 1 → pairB (hf h i) (hf h j') = false) := fun j' hj' => by
                          by_cases e : j' = j
                          · rw [e, hxy.out]; (try simp)
                          · exact hGd.out.2 j' (by omega)
                        go_wp2
                        go_roundw
                        case rel => exact ⟨j + 1, by omega, by go_num, hC.out.1, hGd.out.1, hP.out⟩
                        case measure => simp [intOf]; omega
                      | true =>
                        cases b7 with
                        | true =>
                          have hP : Hid (∀ j', j' < j + 1 → pairB (hf h i) (hf h j') = false) := fun j' hj' => by
                            by_cases e : j' = j
                            · rw [e, hxy.out]; (try simp)
                            · exact hGd.out.2 j' (by omega)
                          go_wp2_with (first
                            | ((with_reducible refine at_loadL 53 (.tmp 7) rfl ?_); refine stopL_out ?_; refine wpList_load_row rfl 53 _ rfl A7 rfl _ _ _ _ hC5.out.2.1 huX.out rfl infoX ?_)
                            | ((with_reducible refine at_loadL 53 (.tmp 8) rfl ?_); refine stopL_out ?_; refine wpList_load_row rfl 53 _ rfl A8 rfl _ _ _ _ hC5.out.2.2 huX.out rfl infoX ?_)
                            | ((with_reducible refine at_loadL 53 (.tmp 7) rfl ?_); refine stopL_out ?_; refine wpList_load_row rfl 53 _ rfl A7 rfl _ _ _ _ hC.out.2.1 huX.out rfl infoX ?_)
                            | ((with_reducible refine at_loadL 53 (.tmp 8) rfl ?_); refine stopL_out ?_; refine wpList_load_row rfl 53 _ rfl A8 rfl _ _ _ _ hC.out.2.2 huX.out rfl infoX ?_)
                            | (go_at_call 27; (with_reducible refine (cA _).mono ?_); rintro e w5 ⟨rfl, hb5'⟩; (have hC5 : Hid (Below w.heap.size w w5 ∧ w5.heap[A7]? = some (oCl x) ∧ w5.heap[A8]? = some (oCl y)) := ⟨bthen hC.out.1 hb5', blk_on hC.out.2.1 hb5', blk_on hC.out.2.2 hb5'⟩); clear hb5'; (obtain ⟨m0, m1, m2, m3, m4, m5, m6⟩ := cl7 hC5.out.2.1); (obtain ⟨n0, n1, n2, n3, n4, n5, n6⟩ := cl7 hC5.out.2.2)))
                          go_roundw
                          case rel => exact ⟨j + 1, by omega, by go_num, hC5.out.1, hGd.out.1, hP.out⟩
                          case measure => simp [intOf]; omega
                        | false =>
                          cases b8 with
                          | true =>
                            have hP : Hid (∀ j', j' < j + 1 → pairB (hf h i) (hf h j') = false) := fun j' hj' => by
                              by_cases e : j' = j
                              · rw [e, hxy.out]; (try simp)
                              · exact hGd.out.2 j' (by omega)
                            go_wp2_with (first
                              | ((with_reducible refine at_loadL 53 (.tmp 7) rfl ?_); refine stopL_out ?_; refine wpList_load_row rfl 53 _ rfl A7 rfl _ _ _ _ hC5.out.2.1 huX.out rfl infoX ?_)
                              | ((with_reducible refine at_loadL 53 (.tmp 8) rfl ?_); refine stopL_out ?_; refine wpList_load_row rfl 53 _ rfl A8 rfl _ _ _ _ hC5.out.2.2 huX.out rfl infoX ?_)
                              | ((with_reducible refine at_loadL 53 (.tmp 7) rfl ?_); refine stopL_out ?_; refine wpList_load_row rfl 53 _ rfl A7 rfl _ _ _ _ hC.out.2.1 huX.out rfl infoX ?_)
                              | ((with_reducible refine at_loadL 53 (.tmp 8) rfl ?_); refine stopL_out ?_; refine wpList_load_row rfl 53 _ rfl A8 rfl _ _ _ _ hC.out.2.2 huX.out rfl infoX ?_)
                              | (go_at_call 27; (with_reducible refine (cB _).mono ?_); rintro e w6 ⟨rfl, hb6'⟩; (have hC6 : Hid (Below w.heap.size w w6) := bthen hC5.out.1 hb6'); clear hb6')
                              | (go_at_call 27; (with_reducible refine (cA _).mono ?_); rintro e w5 ⟨rfl, hb5'⟩; (have hC5 : Hid (Below w.heap.size w w5 ∧ w5.heap[A7]? = some (oCl x) ∧ w5.heap[A8]? = some (oCl y)) := ⟨bthen hC.out.1 hb5', blk_on hC.out.2.1 hb5', blk_on hC.out.2.2 hb5'⟩); clear hb5'; (obtain ⟨m0, m1, m2, m3, m4, m5, m6⟩ := cl7 hC5.out.2.1); (obtain ⟨n0, n1, n2, n3, n4, n5, n6⟩ := cl7 hC5.out.2.2)))
                            go_roundw
                            case rel => exact ⟨j + 1, by omega, by go_num, hC6.out, hGd.out.1, hP.out⟩
                            case measure => simp [intOf]; omega
                          | false =>
                            have hN : Hid (¬ RightH k h) := not_right2 hlt2 hlt (by rw [hxy.out]; (try simp))
                            go_wp2_with (first
                              | ((with_reducible refine at_loadL 53 (.tmp 7) rfl ?_); refine stopL_out ?_; refine wpList_load_row rfl 53 _ rfl A7 rfl _ _ _ _ hC5.out.2.1 huX.out rfl infoX ?_)
                              | ((with_reducible refine at_loadL 53 (.tmp 8) rfl ?_); refine stopL_out ?_; refine wpList_load_row rfl 53 _ rfl A8 rfl _ _ _ _ hC5.out.2.2 huX.out rfl infoX ?_)
                              | ((with_reducible refine at_loadL 53 (.tmp 7) rfl ?_); refine stopL_out ?_; refine wpList_load_row rfl 53 _ rfl A7 rfl _ _ _ _ hC.out.2.1 huX.out rfl infoX ?_)
                              | ((with_reducible refine at_loadL 53 (.tmp 8) rfl ?_); refine stopL_out ?_; refine wpList_load_row rfl 53 _ rfl A8 rfl _ _ _ _ hC.out.2.2 huX.out rfl infoX ?_)
                              | (go_at_call 27; (with_reducible refine (cB _).mono ?_); rintro e w6 ⟨rfl, hb6'⟩; (have hC6 : Hid (Below w.heap.size w w6) := bthen hC5.out.1 hb6'); clear hb6')
                              | (go_at_call 27; (with_reducible refine (cA _).mono ?_); rintro e w5 ⟨rfl, hb5'⟩; (have hC5 : Hid (Below w.heap.size w w5 ∧ w5.heap[A7]? = some (oCl x) ∧ w5.heap[A8]? = some (oCl y)) := ⟨bthen hC.out.1 hb5', blk_on hC.out.2.1 hb5', blk_on hC.out.2.2 hb5'⟩); clear hb5'; (obtain ⟨m0, m1, m2, m3, m4, m5, m6⟩ := cl7 hC5.out.2.1); (obtain ⟨n0, n1, n2, n3, n4, n5, n6⟩ := cl7 hC5.out.2.2)))
                            go_ret
                            exact ⟨.inr ⟨hN.out, rfl⟩, hC6.out⟩
          · have hje : j = i := by omega
            have hjI : ¬ (j : Int) < i := by omega
            have s2 : Hid (Below w.heap.size w wr ∧ goodTo k h (i + 1)) := ⟨hst.out.1, goodTo_next hst.out.2.1 hpH.out (by have := hst.out.2.2; rw [hje] at this; exact this)⟩
            clear hst
            go_wp2
            go_roundw
            case rel => exact ⟨i + 1, by omega, by go_num, s2.out⟩
            case measure => simp [intOf]; omega
    · have hie : i = h.length := by omega
      have hiI : ¬ (i : Int) < h.length := by omega
      have hR : Hid (RightH k h) := good_right hkH.out hn (by have := hst.out.2; rw [hie] at this; exact this)
      have hbb : Hid (Below w.heap.size w wr) := hst.out.1
      clear hst
      go_wp2
      go_ret
      exact ⟨.inl ⟨hR.out, rfl⟩, hbb.out⟩
theorem rcheckH_any (hh : Rows w 7 ha hc (h.map Cl.cells)) : Calls Try.prog 9 #[.int .i64 k, .slice ha h.length hc] w fun e w' => ChP k h e ∧ Below w.heap.size w w' := by
  by_cases hk : 1 ≤ k ∧ k ≤ 4
  · by_cases hn : h.length ≤ 8
    · exact rcheck_main hh hk hn
    · exact rcheck_long hk (by omega)
  · exact rcheck_kind hk
end
end Go.Proofs.Ytklpifammbnldaa.pg
