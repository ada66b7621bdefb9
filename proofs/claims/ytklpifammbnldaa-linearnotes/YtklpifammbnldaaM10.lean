/- Whether a history is right: package linear's look and Check. -/
import Derived.Test.YtklpifammbnldaaM9
import Derived.Test.YtklpifammbnldaaM6
namespace Go.Proofs.Ytklpifammbnldaa.pg
open Go.ChangeShapes Go.WideShapes Go.ChangeAt Go.RowKit
set_option linter.unusedVariables false
set_option linter.unusedSimpArgs false
set_option maxRecDepth 100000
attribute [local go_sem ↓] Go.wp_at_zero Go.wp_at_succ
set_option maxHeartbeats 2000000 in
theorem look_kind (k : Int) (h : List Cl) (ha : Option Addr) (hc : Nat) (w : World) (h1 : (k == 1) = false) (h2 : (k == 2) = false) (h3 : (k == 3) = false) (h4 : (k == 4) = false) (hn : ¬ (1 ≤ k ∧ k ≤ 4)) : Calls Try.prog 28 #[.int .i64 k, .slice ha h.length hc] w fun e w' => LookP k h e ∧ Below w.heap.size w w' := by
  have cT : ∀ wx, Calls Try.prog 41 #[.int .i64 k] wx _ := fun wx => thing_no k h1 h2 h3 h4 wx
  have hno : Hid (¬ RightH k h) := fun r => hn r.kd
  have huT : Hid (Try.prog.underlying 65 = _) := Try.underlying65
  have huX : Hid (Try.prog.underlying 53 = _) := Try.underlying53
  clear hn h1 h2 h3 h4
  go_enter Try.func28, Try.ntmps28
  go_wp2_with (first
    | (refine wpList_alloc_big rfl 65 rfl zeroT ?_)
    | (go_at_call 41; (with_reducible refine (cT _).mono ?_); rintro e w1 ⟨rfl, hb1⟩; (have s1 : Hid (w1.heap[w.heap.size]? = some (.cells zT TT) ∧ Below w.heap.size w w1) := ⟨blk_on (heap_alloc_new _ _) hb1, bthen (boxed _ _) hb1⟩); clear hb1 cT)
    | (refine wpList_store_row rfl 65 _ _ rfl w1.heap.size zT rfl rfl _ _ (heap_alloc_new _ _) infoT rfl (by simp [vT, Value.oneCell']) ?_; (obtain ⟨V2, hV2⟩ : ∃ V2, V2 = (w1.alloc (.cells zT TT)).setRow w1.heap.size zT := ⟨_, rfl⟩); rw [← hV2]; (have s2 : Hid (V2.heap[w.heap.size]? = some (.cells zT TT) ∧ V2.heap[w1.heap.size]? = some (.cells zT TT) ∧ Below w.heap.size w V2) := by (rw [hV2]; exact look_new s1.out.1 s1.out.2)); clear hV2 s1)
    | ((with_reducible refine at_storeL 65 (.tmp 4) _ rfl ?_); refine stopL_out ?_; refine wpList_store_row rfl 65 _ _ rfl w.heap.size zT rfl rfl _ _ s2.out.1 infoT rfl (by simp [Value.oneCell']) ?_))
  exact bodyPost_ret (look_res (setRow_heap _ _ _ zT _ _ s2.out.1) rfl rfl rfl) rfl ⟨.inr ⟨hno.out, rfl⟩, below_setRow s2.out.2.2 (Nat.le_refl _) _⟩
set_option maxHeartbeats 2000000 in
theorem look_long (k : Int) (h : List Cl) (ha : Option Addr) (hc : Nat) (w : World) (hk : 1 ≤ k ∧ k ≤ 4) (hn : 8 < h.length) : Calls Try.prog 28 #[.int .i64 k, .slice ha h.length hc] w fun e w' => LookP k h e ∧ Below w.heap.size w w' := by
  have cT : ∀ wx, Calls Try.prog 41 #[.int .i64 k] wx _ := fun wx => thing_any k hk wx
  have hno : Hid (¬ RightH k h) := fun r => by have := r.n; omega
  have hlt : (8 : Int) < h.length := by omega
  have huT : Hid (Try.prog.underlying 65 = _) := Try.underlying65
  have huX : Hid (Try.prog.underlying 53 = _) := Try.underlying53
  clear hn hk
  go_enter Try.func28, Try.ntmps28
  go_wp2_with (first
    | (refine wpList_alloc_big rfl 65 rfl zeroT ?_)
    | (go_at_call 41; (with_reducible refine (cT _).mono ?_); rintro e w1 ⟨rfl, hb1⟩; (have s1 : Hid (w1.heap[w.heap.size]? = some (.cells zT TT) ∧ Below w.heap.size w w1) := ⟨blk_on (heap_alloc_new _ _) hb1, bthen (boxed _ _) hb1⟩); clear hb1 cT)
    | (refine wpList_store_row rfl 65 _ _ rfl w1.heap.size (vT k) rfl rfl _ _ (heap_alloc_new _ _) infoT rfl (by simp [vT, Value.oneCell']) ?_; (obtain ⟨V2, hV2⟩ : ∃ V2, V2 = (w1.alloc (.cells zT TT)).setRow w1.heap.size (vT k) := ⟨_, rfl⟩); rw [← hV2]; (have s2 : Hid (V2.heap[w.heap.size]? = some (.cells zT TT) ∧ V2.heap[w1.heap.size]? = some (.cells (vT k) TT) ∧ Below w.heap.size w V2) := by (rw [hV2]; exact look_new s1.out.1 s1.out.2)); clear hV2 s1)
    | ((with_reducible refine at_storeL 65 (.tmp 4) _ rfl ?_); refine stopL_out ?_; refine wpList_store_row rfl 65 _ _ rfl w.heap.size zT rfl rfl _ _ s2.out.1 infoT rfl (by simp [Value.oneCell']) ?_))
  exact bodyPost_ret (look_res (setRow_heap _ _ _ zT _ _ s2.out.1) rfl rfl rfl) rfl ⟨.inr ⟨hno.out, rfl⟩, below_setRow s2.out.2.2 (Nat.le_refl _) _⟩
end Go.Proofs.Ytklpifammbnldaa.pg
/- Whether a history is right: package linear's look and Check. -/
namespace Go.Proofs.Ytklpifammbnldaa.pg
open Go.ChangeShapes Go.WideShapes Go.ChangeAt Go.RowKit
set_option linter.unusedVariables false
set_option linter.unusedSimpArgs false
set_option maxRecDepth 100000
attribute [local go_sem ↓] Go.wp_at_zero Go.wp_at_succ
set_option maxHeartbeats 8000000 in
theorem look_main (k : Int) (h : List Cl) (ha : Option Addr) (hc : Nat) (w : World) (hh : Rows w 7 ha hc (h.map Cl.cells)) (hk : 1 ≤ k ∧ k ≤ 4) (hn : h.length ≤ 8) : Calls Try.prog 28 #[.int .i64 k, .slice ha h.length hc] w fun e w' => LookP k h e ∧ Below w.heap.size w w' := by
  have cT : ∀ wx, Calls Try.prog 41 #[.int .i64 k] wx _ := fun wx => thing_any k hk wx
  have hle : (h.length : Int) ≤ 8 := by omega
  have hfin : Hid (goodTo k h h.length → RightH k h) := fun g => good_right hk hn g
  have hkH : Hid (1 ≤ k ∧ k ≤ 4) := hk
  have hbad1 : Hid (∀ i, i < h.length → (doesB k (hf h i).d = false ∨ rcB (hf h i) = false) → ¬ RightH k h) := fun i hi q r => by
    have := r.c _ (hf_mem hi)
    rcases q with q | q
    · rw [q] at this; exact absurd this.1 (by simp)
    · rw [q] at this; exact absurd this.2 (by simp)
  have hbad2 : Hid (∀ i j, j < i → i < h.length → pairB (hf h i) (hf h j) = true → ¬ RightH k h) := fun i j hj hi q r => by
    have := r.pair hj hi
    rw [q] at this; cases this
  have hcap := hh.2.1
  have hl1 : h.length ≤ hc := by have := hh.1; rw [List.length_map] at this; exact this
  have hhH : Hid (Rows w 7 ha hc (h.map Cl.cells)) := hh
  have huT : Hid (Try.prog.underlying 65 = _) := Try.underlying65
  have huX : Hid (Try.prog.underlying 53 = _) := Try.underlying53
  clear hk hh
  go_enter Try.func28, Try.ntmps28
  go_wp2_with (first
    | (refine wpList_alloc_big rfl 65 rfl zeroT ?_)
    | (go_at_call 41; (with_reducible refine (cT _).mono ?_); rintro e w1 ⟨rfl, hb1⟩; (have s1 : Hid (w1.heap[w.heap.size]? = some (.cells zT TT) ∧ Below w.heap.size w w1) := ⟨blk_on (heap_alloc_new _ _) hb1, bthen (boxed _ _) hb1⟩); clear hb1 cT)
    | (refine wpList_store_row rfl 65 _ _ rfl w1.heap.size (vT k) rfl rfl _ _ (heap_alloc_new _ _) infoT rfl (by simp [vT, Value.oneCell']) ?_; (obtain ⟨V2, hV2⟩ : ∃ V2, V2 = (w1.alloc (.cells zT TT)).setRow w1.heap.size (vT k) := ⟨_, rfl⟩); rw [← hV2]; (have s2 : Hid (V2.heap[w.heap.size]? = some (.cells zT TT) ∧ V2.heap[w1.heap.size]? = some (.cells (vT k) TT) ∧ Below w.heap.size w V2) := by (rw [hV2]; exact look_new s1.out.1 s1.out.2)); clear hV2 s1))
  have s0 : Hid (LkS w V2 k w1.heap.size ∧ goodTo k h 0) := ⟨⟨s2.out.1, s2.out.2.1, s2.out.2.2⟩, fun a ha => by omega⟩
  clear s2
  generalize w1.heap.size = Bk at *
  clear w1
  go_loopw [29] (fun u wr => ∃ i : Nat, i ≤ h.length ∧ u = .int .i64 (i : Int) ∧ Hid (LkS w wr k Bk ∧ goodTo k h i)) (fun u _ => h.length - (intOf u).toNat)
  case atStart => exact ⟨0, Nat.zero_le _, rfl, s0⟩
  case round =>
    obtain ⟨i, hi, rfl, s1⟩ := hrel
    clear s0
    have s2 : Hid (LkS w wr k Bk) := s1.out.1
    have hg : Hid (goodTo k h i) := s1.out.2
    clear s1
    by_cases hlt : i < h.length
    · have hltI : (i : Int) < h.length := by omega
      have hi8 : (i : Int) ≤ 8 := by omega
      obtain ⟨b1, o1, x1, _, r1⟩ := cl_ix (hhH.out.later s2.out.b) hlt
      have hb1 := hbad1.out i hlt
      have hb2 := fun j hj => hbad2.out i j hj hlt
      have hgn : Hid (doesB k (hf h i).d = true → rcB (hf h i) = true → (∀ b, b < i → pairB (hf h i) (hf h b) = false) → goodTo k h (i + 1)) := fun q1 q2 q3 a ha => by
        by_cases e : a = i
        · subst e; exact ⟨q1, q2, q3⟩
        · exact hg.out a (by omega)
      have cR0 : ∀ wx, Calls Try.prog 43 #[(hf h i).val] wx _ := fun wx => right1_any (hf h i) wx
      have hb1H : Hid _ := hb1
      have hb2H : Hid _ := hb2
      clear hb1 hb2 hg
      generalize hf h i = x at *
      have r1H : Hid (wr.rangeAt b1 o1 [.int .i64 x.go, .int .i64 x.d, .int .i64 x.inn, .int .i64 x.out, .bool x.em, .int .i64 x.bg, .int .i64 x.en]) := r1
      clear r1
      have kd : (wr.alloc (oCl x)).cell? ⟨wr.heap.size, 1, none⟩ = some (.int .i64 x.d) := cell_lc (k := 1) (heap_alloc_new _ _) rfl
      cases hdo : doesB k x.d with
      | false =>
        have cD : ∀ wx, Calls Try.prog 42 #[.agg (vT k), .int .i64 x.d] wx _ := fun wx => doesnt_deed hkH.out hdo wx
        have hno : Hid (¬ RightH k h) := hb1H.out (.inl hdo)
        clear hb1H hb2H hgn cR0 hdo kd
        go_wp2_with (first
          | (refine wpList_load_mid rfl 53 _ rfl b1 o1 rfl [.int .i64 x.go, .int .i64 x.d, .int .i64 x.inn, .int .i64 x.out, .bool x.em, .int .i64 x.bg, .int .i64 x.en] _ r1H.out huX.out rfl infoX ?_)
          | (refine wpList_load_row rfl 65 _ rfl Bk rfl _ _ _ _ (blk_on s2.out.t (boxed _ _)) huT.out rfl infoT ?_)
          | (go_at_call 42; (with_reducible refine (cD _).mono ?_); rintro e w3 ⟨rfl, hb3⟩; (have s3 : Hid (LkS w w3 k Bk ∧ w3.heap[wr.heap.size]? = some (oCl x) ∧ wr.heap.size < w3.heap.size) := ⟨(s2.out.later (boxed _ _)).later hb3, blk_on (heap_alloc_new _ _) hb3, (Array.getElem?_eq_some_iff.mp (blk_on (heap_alloc_new wr (oCl x)) hb3)).1⟩); clear hb3)
          | (refine wpList_store_row rfl 62 _ _ rfl w3.heap.size #[.int .i64 0, .nilFunc] rfl rfl _ _ (heap_alloc_new _ _) infoD rfl (by simp [Value.oneCell']) ?_; (obtain ⟨V4, hV4⟩ : ∃ V4, V4 = (w3.alloc (oD 0 .nilFunc)).setRow w3.heap.size #[.int .i64 0, .nilFunc] := ⟨_, rfl⟩); rw [← hV4]; (have s4 : Hid (LkS w V4 k Bk ∧ V4.heap[wr.heap.size]? = some (oCl x)) := by (rw [hV4]; exact ⟨(s3.out.1.later (boxed _ _)).set s3.out.1.lt.1 (Nat.ne_of_lt s3.out.1.lt.2), (setRow_other _ _ _ _ (Nat.ne_of_lt s3.out.2.2)).trans (blk_on s3.out.2.1 (boxed _ _))⟩)); clear hV4 s3; (obtain ⟨k0, k1, k2, k3, k4, k5, k6⟩ := cl7 s4.out.2))
          | ((with_reducible refine at_storeL 65 (.tmp 4) _ rfl ?_); refine stopL_out ?_; refine wpList_store_row rfl 65 _ _ rfl w.heap.size zT rfl rfl _ _ s4.out.1.r infoT rfl (by simp [Value.oneCell']) ?_))
        exact bodyPost_ret (look_res (setRow_heap _ _ _ zT _ _ s4.out.1.r) rfl rfl rfl) rfl ⟨.inr ⟨hno.out, rfl⟩, below_setRow s4.out.1.b (Nat.le_refl _) _⟩
      | true =>
        have cD : ∀ wx, Calls Try.prog 42 #[.agg (vT k), .int .i64 x.d] wx _ := fun wx => does_deed hdo wx
        have hdH : Hid (doesB k x.d = true) := hdo
        clear hdo kd
        generalize fnD k x.d = f at *
        cases hrc : rcB x with
        | false =>
          have cR : ∀ wx, Calls Try.prog 43 #[x.val] wx fun e w' => e = .returned (.bool false) ∧ Below wx.heap.size wx w' := fun wx => by rw [← hrc]; exact cR0 wx
          have hno : Hid (¬ RightH k h) := hb1H.out (.inr hrc)
          clear hb1H hb2H hgn cR0 hrc
          go_wp2_with (first
            | (refine wpList_load_mid rfl 53 _ rfl b1 o1 rfl [.int .i64 x.go, .int .i64 x.d, .int .i64 x.inn, .int .i64 x.out, .bool x.em, .int .i64 x.bg, .int .i64 x.en] _ r1H.out huX.out rfl infoX ?_)
            | (refine wpList_load_row rfl 65 _ rfl Bk rfl _ _ _ _ (blk_on s2.out.t (boxed _ _)) huT.out rfl infoT ?_)
            | (go_at_call 42; (with_reducible refine (cD _).mono ?_); rintro e w3 ⟨rfl, hb3⟩; (have s3 : Hid (LkS w w3 k Bk ∧ w3.heap[wr.heap.size]? = some (oCl x) ∧ wr.heap.size < w3.heap.size) := ⟨(s2.out.later (boxed _ _)).later hb3, blk_on (heap_alloc_new _ _) hb3, (Array.getElem?_eq_some_iff.mp (blk_on (heap_alloc_new wr (oCl x)) hb3)).1⟩); clear hb3)
            | (refine wpList_store_row rfl 62 _ _ rfl w3.heap.size #[.int .i64 x.d, fv f] rfl rfl _ _ (heap_alloc_new _ _) infoD rfl (by simp [Value.oneCell']) ?_; (obtain ⟨V4, hV4⟩ : ∃ V4, V4 = (w3.alloc (oD 0 .nilFunc)).setRow w3.heap.size #[.int .i64 x.d, fv f] := ⟨_, rfl⟩); rw [← hV4]; (have s4 : Hid (LkS w V4 k Bk ∧ V4.heap[wr.heap.size]? = some (oCl x)) := by (rw [hV4]; exact ⟨(s3.out.1.later (boxed _ _)).set s3.out.1.lt.1 (Nat.ne_of_lt s3.out.1.lt.2), (setRow_other _ _ _ _ (Nat.ne_of_lt s3.out.2.2)).trans (blk_on s3.out.2.1 (boxed _ _))⟩)); clear hV4 s3; (obtain ⟨k0, k1, k2, k3, k4, k5, k6⟩ := cl7 s4.out.2))
            | (go_at_call 43; (with_reducible refine (cR _).mono ?_); rintro e w5 ⟨rfl, hb5⟩; (have s5 : Hid (LkS w w5 k Bk ∧ w5.heap[wr.heap.size]? = some (oCl x)) := ⟨s4.out.1.later hb5, blk_on s4.out.2 hb5⟩); clear hb5 s4 k0 k1 k2 k3 k4 k5 k6)
            | ((with_reducible refine at_storeL 65 (.tmp 4) _ rfl ?_); refine stopL_out ?_; refine wpList_store_row rfl 65 _ _ rfl w.heap.size zT rfl rfl _ _ s5.out.1.r infoT rfl (by simp [Value.oneCell']) ?_))
          exact bodyPost_ret (look_res (setRow_heap _ _ _ zT _ _ s5.out.1.r) rfl rfl rfl) rfl ⟨.inr ⟨hno.out, rfl⟩, below_setRow s5.out.1.b (Nat.le_refl _) _⟩
        | true =>
          have cR : ∀ wx, Calls Try.prog 43 #[x.val] wx fun e w' => e = .returned (.bool true) ∧ Below wx.heap.size wx w' := fun wx => by rw [← hrc]; exact cR0 wx
          have xS := sub_call ha h.length hc i (by omega) hcap
          have hgn2 : Hid ((∀ b, b < i → pairB x (hf h b) = false) → goodTo k h (i + 1)) := hgn.out hdH.out hrc
          clear hb1H cR0 hrc hgn
          go_wp2_with (first
            | (refine wpList_load_mid rfl 53 _ rfl b1 o1 rfl [.int .i64 x.go, .int .i64 x.d, .int .i64 x.inn, .int .i64 x.out, .bool x.em, .int .i64 x.bg, .int .i64 x.en] _ r1H.out huX.out rfl infoX ?_)
            | (refine wpList_load_row rfl 65 _ rfl Bk rfl _ _ _ _ (blk_on s2.out.t (boxed _ _)) huT.out rfl infoT ?_)
            | (go_at_call 42; (with_reducible refine (cD _).mono ?_); rintro e w3 ⟨rfl, hb3⟩; (have s3 : Hid (LkS w w3 k Bk ∧ w3.heap[wr.heap.size]? = some (oCl x) ∧ wr.heap.size < w3.heap.size) := ⟨(s2.out.later (boxed _ _)).later hb3, blk_on (heap_alloc_new _ _) hb3, (Array.getElem?_eq_some_iff.mp (blk_on (heap_alloc_new wr (oCl x)) hb3)).1⟩); clear hb3)
            | (refine wpList_store_row rfl 62 _ _ rfl w3.heap.size #[.int .i64 x.d, fv f] rfl rfl _ _ (heap_alloc_new _ _) infoD rfl (by simp [Value.oneCell']) ?_; (obtain ⟨V4, hV4⟩ : ∃ V4, V4 = (w3.alloc (oD 0 .nilFunc)).setRow w3.heap.size #[.int .i64 x.d, fv f] := ⟨_, rfl⟩); rw [← hV4]; (have s4 : Hid (LkS w V4 k Bk ∧ V4.heap[wr.heap.size]? = some (oCl x)) := by (rw [hV4]; exact ⟨(s3.out.1.later (boxed _ _)).set s3.out.1.lt.1 (Nat.ne_of_lt s3.out.1.lt.2), (setRow_other _ _ _ _ (Nat.ne_of_lt s3.out.2.2)).trans (blk_on s3.out.2.1 (boxed _ _))⟩)); clear hV4 s3; (obtain ⟨k0, k1, k2, k3, k4, k5, k6⟩ := cl7 s4.out.2))
            | (go_at_call 43; (with_reducible refine (cR _).mono ?_); rintro e w5 ⟨rfl, hb5⟩; (have s5 : Hid (LkS w w5 k Bk ∧ w5.heap[wr.heap.size]? = some (oCl x)) := ⟨s4.out.1.later hb5, blk_on s4.out.2 hb5⟩); clear hb5 s4 k0 k1 k2 k3 k4 k5 k6))
          have t0 : Hid (LkS w w5 k Bk ∧ w5.heap[wr.heap.size]? = some (oCl x) ∧ ∀ b, b < 0 → pairB x (hf h b) = false) := ⟨s5.out.1, s5.out.2, fun b hb => by omega⟩
          clear s5 r1H x1 s2 xS cD cR
          generalize wr.heap.size = Bx at *
          go_loopw [53] (fun u wq => ∃ j : Nat, j ≤ i ∧ u = .int .i64 (j : Int) ∧ Hid (LkS w wq k Bk ∧ wq.heap[Bx]? = some (oCl x) ∧ ∀ b, b < j → pairB x (hf h b) = false)) (fun u _ => i - (intOf u).toNat)
          case atStart => exact ⟨0, Nat.zero_le _, rfl, t0⟩
          case round =>
            obtain ⟨j, hj, rfl, t1⟩ := hrel
            clear t0
            rename World => wq
            by_cases hjl : j < i
            · have hjI : (j : Int) < i := by omega
              have hj8 : (j : Int) ≤ 8 := by omega
              obtain ⟨b2, o2, x2, _, r2⟩ := cl_ixp (hhH.out.later t1.out.1.b) hjl (Nat.le_of_lt hlt)
              have hbp := hb2H.out j hjl
              have hnx : Hid (pairB x (hf h j) = false → ∀ b, b < j + 1 → pairB x (hf h b) = false) := fun q b hb => by
                by_cases e : b = j
                · subst e; exact q
                · exact t1.out.2.2 b (by omega)
              have t2 : Hid (LkS w wq k Bk ∧ wq.heap[Bx]? = some (oCl x)) := ⟨t1.out.1, t1.out.2.1⟩
              have hbpH : Hid _ := hbp
              clear t1 hbp
              generalize hf h j = y at *
              have r2H : Hid (wq.rangeAt b2 o2 [.int .i64 y.go, .int .i64 y.d, .int .i64 y.inn, .int .i64 y.out, .bool y.em, .int .i64 y.bg, .int .i64 y.en]) := r2
              have cM : ∀ wx, Calls Try.prog 44 #[x.val, y.val] wx _ := fun wx => mom_any x y wx
              have cE : ∀ wx, Calls Try.prog 30 #[x.val, y.val] wx _ := fun wx => end_any x y wx
              have cG : ∀ wx, Calls Try.prog 30 #[y.val, x.val] wx _ := fun wx => end_any y x wx
              obtain ⟨b1, h1⟩ : ∃ b, momB x y = b := ⟨_, rfl⟩
              obtain ⟨b2', h2⟩ : ∃ b, (x.go == y.go) = b := ⟨_, rfl⟩
              obtain ⟨b3, h3⟩ : ∃ b, endB x y = b := ⟨_, rfl⟩
              obtain ⟨b4, h4⟩ : ∃ b, endB y x = b := ⟨_, rfl⟩
              have hP : Hid (pairB x y = (b1 || (b2' && !b3 && !b4))) := by (show _ = _; unfold pairB; rw [h1, h2, h3, h4])
              rw [h1] at cM
              rw [h3] at cE
              rw [h4] at cG
              clear h1 h3 h4 r2
              have t3 : Hid (LkS w (wq.alloc (oCl y)) k Bk ∧ (wq.alloc (oCl y)).heap[Bx]? = some (oCl x) ∧ (wq.alloc (oCl y)).heap[wq.heap.size]? = some (oCl y)) := ⟨t2.out.1.later (boxed _ _), blk_on t2.out.2 (boxed _ _), heap_alloc_new _ _⟩
              obtain ⟨k0, k1, k2, k3, k4, k5, k6⟩ := cl7 t3.out.2.1
              cases b1 with
              | true =>
                have hno : Hid (¬ RightH k h) := hbpH.out (by rw [hP.out]; simp)
                clear h2 cE cG hnx hbpH hgn2 hb2H hP
                go_wp2_with (first
                  | ((with_reducible refine at_loadL 53 (.tmp 55) rfl ?_); refine stopL_out ?_; refine wpList_load_mid rfl 53 _ rfl b2 o2 rfl [.int .i64 y.go, .int .i64 y.d, .int .i64 y.inn, .int .i64 y.out, .bool y.em, .int .i64 y.bg, .int .i64 y.en] _ r2H.out huX.out rfl infoX ?_)
                  | (go_at_call 44; (with_reducible refine (cM _).mono ?_); rintro e w6 ⟨rfl, hb6⟩; (replace t3 : Hid (LkS w w6 k Bk) := t3.out.1.later hb6); clear hb6 k0 k1 k2 k3 k4 k5 k6 r2H x2 cM)
                  | ((with_reducible refine at_storeL 65 (.tmp 4) _ rfl ?_); refine stopL_out ?_; refine wpList_store_row rfl 65 _ _ rfl w.heap.size zT rfl rfl _ _ t3.out.r infoT rfl (by simp [Value.oneCell']) ?_))
                exact bodyPost_ret (look_res (setRow_heap _ _ _ zT _ _ t3.out.r) rfl rfl rfl) rfl ⟨.inr ⟨hno.out, rfl⟩, below_setRow t3.out.b (Nat.le_refl _) _⟩
              | false =>
                cases b2' with
                | false =>
                  go_wp2_with (first
                    | ((with_reducible refine at_loadL 53 (.tmp 55) rfl ?_); refine stopL_out ?_; refine wpList_load_mid rfl 53 _ rfl b2 o2 rfl [.int .i64 y.go, .int .i64 y.d, .int .i64 y.inn, .int .i64 y.out, .bool y.em, .int .i64 y.bg, .int .i64 y.en] _ r2H.out huX.out rfl infoX ?_)
                    | (go_at_call 44; (with_reducible refine (cM _).mono ?_); rintro e w6 ⟨rfl, hb6⟩; (replace t3 : Hid (LkS w w6 k Bk ∧ w6.heap[Bx]? = some (oCl x) ∧ w6.heap[wq.heap.size]? = some (oCl y)) := ⟨t3.out.1.later hb6, blk_on t3.out.2.1 hb6, blk_on t3.out.2.2 hb6⟩); clear hb6 k0 k1 k2 k3 k4 k5 k6; (try clear m0 m1 m2 m3 m4 m5 m6); (obtain ⟨k0, k1, k2, k3, k4, k5, k6⟩ := cl7 t3.out.2.1); (obtain ⟨m0, m1, m2, m3, m4, m5, m6⟩ := cl7 t3.out.2.2))
                    | (go_at_call 30; (with_reducible refine (cE _).mono ?_); rintro e w6 ⟨rfl, hb6⟩; (replace t3 : Hid (LkS w w6 k Bk ∧ w6.heap[Bx]? = some (oCl x) ∧ w6.heap[wq.heap.size]? = some (oCl y)) := ⟨t3.out.1.later hb6, blk_on t3.out.2.1 hb6, blk_on t3.out.2.2 hb6⟩); clear hb6 k0 k1 k2 k3 k4 k5 k6; (try clear m0 m1 m2 m3 m4 m5 m6); (obtain ⟨k0, k1, k2, k3, k4, k5, k6⟩ := cl7 t3.out.2.1); (obtain ⟨m0, m1, m2, m3, m4, m5, m6⟩ := cl7 t3.out.2.2))
                    | (go_at_call 30; (with_reducible refine (cG _).mono ?_); rintro e w6 ⟨rfl, hb6⟩; (replace t3 : Hid (LkS w w6 k Bk ∧ w6.heap[Bx]? = some (oCl x) ∧ w6.heap[wq.heap.size]? = some (oCl y)) := ⟨t3.out.1.later hb6, blk_on t3.out.2.1 hb6, blk_on t3.out.2.2 hb6⟩); clear hb6 k0 k1 k2 k3 k4 k5 k6; (try clear m0 m1 m2 m3 m4 m5 m6); (obtain ⟨k0, k1, k2, k3, k4, k5, k6⟩ := cl7 t3.out.2.1); (obtain ⟨m0, m1, m2, m3, m4, m5, m6⟩ := cl7 t3.out.2.2)))
                  go_roundw
                  case rel => exact ⟨j + 1, by omega, by go_num, t3.out.1, t3.out.2.1, hnx.out (by rw [hP.out]; rfl)⟩
                  case measure => simp [intOf]; omega
                | true =>
                  cases b3 with
                  | true =>
                    go_wp2_with (first
                      | ((with_reducible refine at_loadL 53 (.tmp 55) rfl ?_); refine stopL_out ?_; refine wpList_load_mid rfl 53 _ rfl b2 o2 rfl [.int .i64 y.go, .int .i64 y.d, .int .i64 y.inn, .int .i64 y.out, .bool y.em, .int .i64 y.bg, .int .i64 y.en] _ r2H.out huX.out rfl infoX ?_)
                      | (go_at_call 44; (with_reducible refine (cM _).mono ?_); rintro e w6 ⟨rfl, hb6⟩; (replace t3 : Hid (LkS w w6 k Bk ∧ w6.heap[Bx]? = some (oCl x) ∧ w6.heap[wq.heap.size]? = some (oCl y)) := ⟨t3.out.1.later hb6, blk_on t3.out.2.1 hb6, blk_on t3.out.2.2 hb6⟩); clear hb6 k0 k1 k2 k3 k4 k5 k6; (try clear m0 m1 m2 m3 m4 m5 m6); (obtain ⟨k0, k1, k2, k3, k4, k5, k6⟩ := cl7 t3.out.2.1); (obtain ⟨m0, m1, m2, m3, m4, m5, m6⟩ := cl7 t3.out.2.2))
                      | (go_at_call 30; (with_reducible refine (cE _).mono ?_); rintro e w6 ⟨rfl, hb6⟩; (replace t3 : Hid (LkS w w6 k Bk ∧ w6.heap[Bx]? = some (oCl x) ∧ w6.heap[wq.heap.size]? = some (oCl y)) := ⟨t3.out.1.later hb6, blk_on t3.out.2.1 hb6, blk_on t3.out.2.2 hb6⟩); clear hb6 k0 k1 k2 k3 k4 k5 k6; (try clear m0 m1 m2 m3 m4 m5 m6); (obtain ⟨k0, k1, k2, k3, k4, k5, k6⟩ := cl7 t3.out.2.1); (obtain ⟨m0, m1, m2, m3, m4, m5, m6⟩ := cl7 t3.out.2.2))
                      | (go_at_call 30; (with_reducible refine (cG _).mono ?_); rintro e w6 ⟨rfl, hb6⟩; (replace t3 : Hid (LkS w w6 k Bk ∧ w6.heap[Bx]? = some (oCl x) ∧ w6.heap[wq.heap.size]? = some (oCl y)) := ⟨t3.out.1.later hb6, blk_on t3.out.2.1 hb6, blk_on t3.out.2.2 hb6⟩); clear hb6 k0 k1 k2 k3 k4 k5 k6; (try clear m0 m1 m2 m3 m4 m5 m6); (obtain ⟨k0, k1, k2, k3, k4, k5, k6⟩ := cl7 t3.out.2.1); (obtain ⟨m0, m1, m2, m3, m4, m5, m6⟩ := cl7 t3.out.2.2)))
                    go_roundw
                    case rel => exact ⟨j + 1, by omega, by go_num, t3.out.1, t3.out.2.1, hnx.out (by rw [hP.out]; rfl)⟩
                    case measure => simp [intOf]; omega
                  | false =>
                    cases b4 with
                    | true =>
                      go_wp2_with (first
                        | ((with_reducible refine at_loadL 53 (.tmp 55) rfl ?_); refine stopL_out ?_; refine wpList_load_mid rfl 53 _ rfl b2 o2 rfl [.int .i64 y.go, .int .i64 y.d, .int .i64 y.inn, .int .i64 y.out, .bool y.em, .int .i64 y.bg, .int .i64 y.en] _ r2H.out huX.out rfl infoX ?_)
                        | (go_at_call 44; (with_reducible refine (cM _).mono ?_); rintro e w6 ⟨rfl, hb6⟩; (replace t3 : Hid (LkS w w6 k Bk ∧ w6.heap[Bx]? = some (oCl x) ∧ w6.heap[wq.heap.size]? = some (oCl y)) := ⟨t3.out.1.later hb6, blk_on t3.out.2.1 hb6, blk_on t3.out.2.2 hb6⟩); clear hb6 k0 k1 k2 k3 k4 k5 k6; (try clear m0 m1 m2 m3 m4 m5 m6); (obtain ⟨k0, k1, k2, k3, k4, k5, k6⟩ := cl7 t3.out.2.1); (obtain ⟨m0, m1, m2, m3, m4, m5, m6⟩ := cl7 t3.out.2.2))
                        | (go_at_call 30; (with_reducible refine (cE _).mono ?_); rintro e w6 ⟨rfl, hb6⟩; (replace t3 : Hid (LkS w w6 k Bk ∧ w6.heap[Bx]? = some (oCl x) ∧ w6.heap[wq.heap.size]? = some (oCl y)) := ⟨t3.out.1.later hb6, blk_on t3.out.2.1 hb6, blk_on t3.out.2.2 hb6⟩); clear hb6 k0 k1 k2 k3 k4 k5 k6; (try clear m0 m1 m2 m3 m4 m5 m6); (obtain ⟨k0, k1, k2, k3, k4, k5, k6⟩ := cl7 t3.out.2.1); (obtain ⟨m0, m1, m2, m3, m4, m5, m6⟩ := cl7 t3.out.2.2))
                        | (go_at_call 30; (with_reducible refine (cG _).mono ?_); rintro e w6 ⟨rfl, hb6⟩; (replace t3 : Hid (LkS w w6 k Bk ∧ w6.heap[Bx]? = some (oCl x) ∧ w6.heap[wq.heap.size]? = some (oCl y)) := ⟨t3.out.1.later hb6, blk_on t3.out.2.1 hb6, blk_on t3.out.2.2 hb6⟩); clear hb6 k0 k1 k2 k3 k4 k5 k6; (try clear m0 m1 m2 m3 m4 m5 m6); (obtain ⟨k0, k1, k2, k3, k4, k5, k6⟩ := cl7 t3.out.2.1); (obtain ⟨m0, m1, m2, m3, m4, m5, m6⟩ := cl7 t3.out.2.2)))
                      go_roundw
                      case rel => exact ⟨j + 1, by omega, by go_num, t3.out.1, t3.out.2.1, hnx.out (by rw [hP.out]; rfl)⟩
                      case measure => simp [intOf]; omega
                    | false =>
                      have hno : Hid (¬ RightH k h) := hbpH.out (by rw [hP.out]; rfl)
                      go_wp2_with (first
                        | ((with_reducible refine at_loadL 53 (.tmp 55) rfl ?_); refine stopL_out ?_; refine wpList_load_mid rfl 53 _ rfl b2 o2 rfl [.int .i64 y.go, .int .i64 y.d, .int .i64 y.inn, .int .i64 y.out, .bool y.em, .int .i64 y.bg, .int .i64 y.en] _ r2H.out huX.out rfl infoX ?_)
                        | (go_at_call 44; (with_reducible refine (cM _).mono ?_); rintro e w6 ⟨rfl, hb6⟩; (replace t3 : Hid (LkS w w6 k Bk ∧ w6.heap[Bx]? = some (oCl x) ∧ w6.heap[wq.heap.size]? = some (oCl y)) := ⟨t3.out.1.later hb6, blk_on t3.out.2.1 hb6, blk_on t3.out.2.2 hb6⟩); clear hb6 k0 k1 k2 k3 k4 k5 k6; (try clear m0 m1 m2 m3 m4 m5 m6); (obtain ⟨k0, k1, k2, k3, k4, k5, k6⟩ := cl7 t3.out.2.1); (obtain ⟨m0, m1, m2, m3, m4, m5, m6⟩ := cl7 t3.out.2.2))
                        | (go_at_call 30; (with_reducible refine (cE _).mono ?_); rintro e w6 ⟨rfl, hb6⟩; (replace t3 : Hid (LkS w w6 k Bk ∧ w6.heap[Bx]? = some (oCl x) ∧ w6.heap[wq.heap.size]? = some (oCl y)) := ⟨t3.out.1.later hb6, blk_on t3.out.2.1 hb6, blk_on t3.out.2.2 hb6⟩); clear hb6 k0 k1 k2 k3 k4 k5 k6; (try clear m0 m1 m2 m3 m4 m5 m6); (obtain ⟨k0, k1, k2, k3, k4, k5, k6⟩ := cl7 t3.out.2.1); (obtain ⟨m0, m1, m2, m3, m4, m5, m6⟩ := cl7 t3.out.2.2))
                        | (go_at_call 30; (with_reducible refine (cG _).mono ?_); rintro e w6 ⟨rfl, hb6⟩; (replace t3 : Hid (LkS w w6 k Bk ∧ w6.heap[Bx]? = some (oCl x) ∧ w6.heap[wq.heap.size]? = some (oCl y)) := ⟨t3.out.1.later hb6, blk_on t3.out.2.1 hb6, blk_on t3.out.2.2 hb6⟩); clear hb6 k0 k1 k2 k3 k4 k5 k6; (try clear m0 m1 m2 m3 m4 m5 m6); (obtain ⟨k0, k1, k2, k3, k4, k5, k6⟩ := cl7 t3.out.2.1); (obtain ⟨m0, m1, m2, m3, m4, m5, m6⟩ := cl7 t3.out.2.2))
                        | ((with_reducible refine at_storeL 65 (.tmp 4) _ rfl ?_); refine stopL_out ?_; refine wpList_store_row rfl 65 _ _ rfl w.heap.size zT rfl rfl _ _ t3.out.1.r infoT rfl (by simp [Value.oneCell']) ?_))
                      exact bodyPost_ret (look_res (setRow_heap _ _ _ zT _ _ t3.out.1.r) rfl rfl rfl) rfl ⟨.inr ⟨hno.out, rfl⟩, below_setRow t3.out.1.b (Nat.le_refl _) _⟩
            · have hje : j = i := by omega
              subst hje
              have t2 : Hid (LkS w wq k Bk ∧ goodTo k h (j + 1)) := ⟨t1.out.1, hgn2.out t1.out.2.2⟩
              have hjI : ¬ (j : Int) < j := by omega
              clear t1 hgn2
              go_wp2
              go_roundw
              case rel => exact ⟨j + 1, by omega, by go_num, t2⟩
              case measure => simp [intOf]; omega
    · have hie : i = h.length := by omega
      have hnI : ¬ (i : Int) < h.length := by omega
      have hR : Hid (RightH k h) := hfin.out (by have := hg.out; rw [hie] at this; exact this)
      clear hg hie
      go_wp2_with (first
        | (refine wpList_load_row rfl 65 _ rfl Bk rfl _ _ _ _ s2.out.t huT.out rfl infoT ?_)
        | (refine wpList_store_row rfl 65 _ _ rfl w.heap.size (vT k) rfl rfl _ _ s2.out.r infoT rfl (by simp [vT, Value.oneCell']) ?_))
      exact bodyPost_ret (look_res (setRow_heap _ _ _ (vT k) _ _ s2.out.r) rfl rfl rfl) rfl ⟨.inl ⟨hR.out, rfl⟩, below_setRow s2.out.b (Nat.le_refl _) _⟩
theorem lookH_any (k : Int) (h : List Cl) (ha : Option Addr) (hc : Nat) (w : World) (hh : Rows w 7 ha hc (h.map Cl.cells)) : Calls Try.prog 28 #[.int .i64 k, .slice ha h.length hc] w fun e w' => LookP k h e ∧ Below w.heap.size w w' := by
  rcases kinds4 k with q | q
  · have hk : 1 ≤ k ∧ k ≤ 4 := by omega
    by_cases hn : h.length ≤ 8
    · exact look_main k h ha hc w hh hk hn
    · exact look_long k h ha hc w hk (by omega)
  · exact look_kind k h ha hc w q.1 q.2.1 q.2.2.1 q.2.2.2.1 q.2.2.2.2
end Go.Proofs.Ytklpifammbnldaa.pg
/- Events as plain data, where they lie, and what they touch. -/
namespace Go.Proofs.Ytklpifammbnldaa.pg
open Go.ChangeShapes Go.WideShapes Go.ChangeAt Go.RowKit
set_option linter.unusedVariables false
set_option linter.unusedSimpArgs false
set_option maxRecDepth 100000
/-- An event. -/
structure Ev where
  go : Int
  fn : Int
  pc : Int
  op : Int
  alt : Int
  vl : Int
  tag : Int
  t0 : Acc
  t1 : Acc
  t2 : Acc
  t3 : Acc
  t4 : Acc
  t5 : Acc
  n : Int
def Ev.cells (x : Ev) : List Value := [.int .i64 x.go, .int .i64 x.fn, .int .i64 x.pc, .int .i64 x.op, .int .i64 x.alt, .int .i64 x.vl, .int .i64 x.tag, .int .i64 x.t0.kind, .int .i64 x.t0.num, .bool x.t0.wr, .int .i64 x.t1.kind, .int .i64 x.t1.num, .bool x.t1.wr, .int .i64 x.t2.kind, .int .i64 x.t2.num, .bool x.t2.wr, .int .i64 x.t3.kind, .int .i64 x.t3.num, .bool x.t3.wr, .int .i64 x.t4.kind, .int .i64 x.t4.num, .bool x.t4.wr, .int .i64 x.t5.kind, .int .i64 x.t5.num, .bool x.t5.wr, .int .i64 x.n]
abbrev Ev.val (x : Ev) : Value := .agg #[.int .i64 x.go, .int .i64 x.fn, .int .i64 x.pc, .int .i64 x.op, .int .i64 x.alt, .int .i64 x.vl, .int .i64 x.tag, .int .i64 x.t0.kind, .int .i64 x.t0.num, .bool x.t0.wr, .int .i64 x.t1.kind, .int .i64 x.t1.num, .bool x.t1.wr, .int .i64 x.t2.kind, .int .i64 x.t2.num, .bool x.t2.wr, .int .i64 x.t3.kind, .int .i64 x.t3.num, .bool x.t3.wr, .int .i64 x.t4.kind, .int .i64 x.t4.num, .bool x.t4.wr, .int .i64 x.t5.kind, .int .i64 x.t5.num, .bool x.t5.wr, .int .i64 x.n]
abbrev objE (x : Ev) : Obj := .cells #[.int .i64 x.go, .int .i64 x.fn, .int .i64 x.pc, .int .i64 x.op, .int .i64 x.alt, .int .i64 x.vl, .int .i64 x.tag, .int .i64 x.t0.kind, .int .i64 x.t0.num, .bool x.t0.wr, .int .i64 x.t1.kind, .int .i64 x.t1.num, .bool x.t1.wr, .int .i64 x.t2.kind, .int .i64 x.t2.num, .bool x.t2.wr, .int .i64 x.t3.kind, .int .i64 x.t3.num, .bool x.t3.wr, .int .i64 x.t4.kind, .int .i64 x.t4.num, .bool x.t4.wr, .int .i64 x.t5.kind, .int .i64 x.t5.num, .bool x.t5.wr, .int .i64 x.n] 92
def Ev.list (x : Ev) : List Acc := [x.t0, x.t1, x.t2, x.t3, x.t4, x.t5]
def Ev.wf (x : Ev) : Prop := (I64 x.go ∧ I64 x.fn ∧ I64 x.pc ∧ I64 x.op ∧ I64 x.alt ∧ I64 x.vl ∧ I64 x.tag) ∧ (∀ t ∈ x.list, t.wf) ∧ I64 x.n
def BoxE (w : World) (B : Nat) (x : Ev) : Prop := w.cell? ⟨B, 0, none⟩ = some (.int .i64 x.go) ∧ w.cell? ⟨B, 1, none⟩ = some (.int .i64 x.fn) ∧ w.cell? ⟨B, 2, none⟩ = some (.int .i64 x.pc) ∧ w.cell? ⟨B, 3, none⟩ = some (.int .i64 x.op) ∧ w.cell? ⟨B, 4, none⟩ = some (.int .i64 x.alt) ∧ w.cell? ⟨B, 5, none⟩ = some (.int .i64 x.vl) ∧ w.cell? ⟨B, 6, none⟩ = some (.int .i64 x.tag) ∧ w.cell? ⟨B, 7, none⟩ = some (.int .i64 x.t0.kind) ∧ w.cell? ⟨B, 8, none⟩ = some (.int .i64 x.t0.num) ∧ w.cell? ⟨B, 9, none⟩ = some (.bool x.t0.wr) ∧ w.cell? ⟨B, 10, none⟩ = some (.int .i64 x.t1.kind) ∧ w.cell? ⟨B, 11, none⟩ = some (.int .i64 x.t1.num) ∧ w.cell? ⟨B, 12, none⟩ = some (.bool x.t1.wr) ∧ w.cell? ⟨B, 13, none⟩ = some (.int .i64 x.t2.kind) ∧ w.cell? ⟨B, 14, none⟩ = some (.int .i64 x.t2.num) ∧ w.cell? ⟨B, 15, none⟩ = some (.bool x.t2.wr) ∧ w.cell? ⟨B, 16, none⟩ = some (.int .i64 x.t3.kind) ∧ w.cell? ⟨B, 17, none⟩ = some (.int .i64 x.t3.num) ∧ w.cell? ⟨B, 18, none⟩ = some (.bool x.t3.wr) ∧ w.cell? ⟨B, 19, none⟩ = some (.int .i64 x.t4.kind) ∧ w.cell? ⟨B, 20, none⟩ = some (.int .i64 x.t4.num) ∧ w.cell? ⟨B, 21, none⟩ = some (.bool x.t4.wr) ∧ w.cell? ⟨B, 22, none⟩ = some (.int .i64 x.t5.kind) ∧ w.cell? ⟨B, 23, none⟩ = some (.int .i64 x.t5.num) ∧ w.cell? ⟨B, 24, none⟩ = some (.bool x.t5.wr) ∧ w.cell? ⟨B, 25, none⟩ = some (.int .i64 x.n)
theorem BoxE.at {w : World} {B : Nat} {x : Ev} (h : BoxE w B x) : ∀ i v, x.cells[i]? = some v → w.cell? ⟨B, i, none⟩ = some v := by
  intro i v hv
  match i with
  | 0 => simp only [Ev.cells, List.getElem?_cons_zero, List.getElem?_cons_succ, Option.some.injEq] at hv; subst hv; exact h.1
  | 1 => simp only [Ev.cells, List.getElem?_cons_zero, List.getElem?_cons_succ, Option.some.injEq] at hv; subst hv; exact h.2.1
  | 2 => simp only [Ev.cells, List.getElem?_cons_zero, List.getElem?_cons_succ, Option.some.injEq] at hv; subst hv; exact h.2.2.1
  | 3 => simp only [Ev.cells, List.getElem?_cons_zero, List.getElem?_cons_succ, Option.some.injEq] at hv; subst hv; exact h.2.2.2.1
  | 4 => simp only [Ev.cells, List.getElem?_cons_zero, List.getElem?_cons_succ, Option.some.injEq] at hv; subst hv; exact h.2.2.2.2.1
  | 5 => simp only [Ev.cells, List.getElem?_cons_zero, List.getElem?_cons_succ, Option.some.injEq] at hv; subst hv; exact h.2.2.2.2.2.1
  | 6 => simp only [Ev.cells, List.getElem?_cons_zero, List.getElem?_cons_succ, Option.some.injEq] at hv; subst hv; exact h.2.2.2.2.2.2.1
  | 7 => simp only [Ev.cells, List.getElem?_cons_zero, List.getElem?_cons_succ, Option.some.injEq] at hv; subst hv; exact h.2.2.2.2.2.2.2.1
  | 8 => simp only [Ev.cells, List.getElem?_cons_zero, List.getElem?_cons_succ, Option.some.injEq] at hv; subst hv; exact h.2.2.2.2.2.2.2.2.1
  | 9 => simp only [Ev.cells, List.getElem?_cons_zero, List.getElem?_cons_succ, Option.some.injEq] at hv; subst hv; exact h.2.2.2.2.2.2.2.2.2.1
  | 10 => simp only [Ev.cells, List.getElem?_cons_zero, List.getElem?_cons_succ, Option.some.injEq] at hv; subst hv; exact h.2.2.2.2.2.2.2.2.2.2.1
  | 11 => simp only [Ev.cells, List.getElem?_cons_zero, List.getElem?_cons_succ, Option.some.injEq] at hv; subst hv; exact h.2.2.2.2.2.2.2.2.2.2.2.1
  | 12 => simp only [Ev.cells, List.getElem?_cons_zero, List.getElem?_cons_succ, Option.some.injEq] at hv; subst hv; exact h.2.2.2.2.2.2.2.2.2.2.2.2.1
  | 13 => simp only [Ev.cells, List.getElem?_cons_zero, List.getElem?_cons_succ, Option.some.injEq] at hv; subst hv; exact h.2.2.2.2.2.2.2.2.2.2.2.2.2.1
  | 14 => simp only [Ev.cells, List.getElem?_cons_zero, List.getElem?_cons_succ, Option.some.injEq] at hv; subst hv; exact h.2.2.2.2.2.2.2.2.2.2.2.2.2.2.1
  | 15 => simp only [Ev.cells, List.getElem?_cons_zero, List.getElem?_cons_succ, Option.some.injEq] at hv; subst hv; exact h.2.2.2.2.2.2.2.2.2.2.2.2.2.2.2.1
  | 16 => simp only [Ev.cells, List.getElem?_cons_zero, List.getElem?_cons_succ, Option.some.injEq] at hv; subst hv; exact h.2.2.2.2.2.2.2.2.2.2.2.2.2.2.2.2.1
  | 17 => simp only [Ev.cells, List.getElem?_cons_zero, List.getElem?_cons_succ, Option.some.injEq] at hv; subst hv; exact h.2.2.2.2.2.2.2.2.2.2.2.2.2.2.2.2.2.1
  | 18 => simp only [Ev.cells, List.getElem?_cons_zero, List.getElem?_cons_succ, Option.some.injEq] at hv; subst hv; exact h.2.2.2.2.2.2.2.2.2.2.2.2.2.2.2.2.2.2.1
  | 19 => simp only [Ev.cells, List.getElem?_cons_zero, List.getElem?_cons_succ, Option.some.injEq] at hv; subst hv; exact h.2.2.2.2.2.2.2.2.2.2.2.2.2.2.2.2.2.2.2.1
  | 20 => simp only [Ev.cells, List.getElem?_cons_zero, List.getElem?_cons_succ, Option.some.injEq] at hv; subst hv; exact h.2.2.2.2.2.2.2.2.2.2.2.2.2.2.2.2.2.2.2.2.1
  | 21 => simp only [Ev.cells, List.getElem?_cons_zero, List.getElem?_cons_succ, Option.some.injEq] at hv; subst hv; exact h.2.2.2.2.2.2.2.2.2.2.2.2.2.2.2.2.2.2.2.2.2.1
  | 22 => simp only [Ev.cells, List.getElem?_cons_zero, List.getElem?_cons_succ, Option.some.injEq] at hv; subst hv; exact h.2.2.2.2.2.2.2.2.2.2.2.2.2.2.2.2.2.2.2.2.2.2.1
  | 23 => simp only [Ev.cells, List.getElem?_cons_zero, List.getElem?_cons_succ, Option.some.injEq] at hv; subst hv; exact h.2.2.2.2.2.2.2.2.2.2.2.2.2.2.2.2.2.2.2.2.2.2.2.1
  | 24 => simp only [Ev.cells, List.getElem?_cons_zero, List.getElem?_cons_succ, Option.some.injEq] at hv; subst hv; exact h.2.2.2.2.2.2.2.2.2.2.2.2.2.2.2.2.2.2.2.2.2.2.2.2.1
  | 25 => simp only [Ev.cells, List.getElem?_cons_zero, List.getElem?_cons_succ, Option.some.injEq] at hv; subst hv; exact h.2.2.2.2.2.2.2.2.2.2.2.2.2.2.2.2.2.2.2.2.2.2.2.2.2
  | i + 26 => simp [Ev.cells] at hv
theorem boxE_of {w : World} {B : Nat} {x : Ev} (h : ∀ i v, x.cells[i]? = some v → w.cell? ⟨B, i, none⟩ = some v) : BoxE w B x := ⟨h 0 _ rfl, h 1 _ rfl, h 2 _ rfl, h 3 _ rfl, h 4 _ rfl, h 5 _ rfl, h 6 _ rfl, h 7 _ rfl, h 8 _ rfl, h 9 _ rfl, h 10 _ rfl, h 11 _ rfl, h 12 _ rfl, h 13 _ rfl, h 14 _ rfl, h 15 _ rfl, h 16 _ rfl, h 17 _ rfl, h 18 _ rfl, h 19 _ rfl, h 20 _ rfl, h 21 _ rfl, h 22 _ rfl, h 23 _ rfl, h 24 _ rfl, h 25 _ rfl⟩
theorem BoxE.later {w w' : World} {B : Nat} {x : Ev} (h : BoxE w B x) (hb : Below w.heap.size w w') : BoxE w' B x := boxE_of fun i v hv => cell_later hb (h.at i v hv)
theorem boxE_new (w : World) (x : Ev) : BoxE (w.alloc (objE x)) w.heap.size x := boxE_of fun i v hv => (World.cell?_alloc_at _ _ _ _ rfl).trans ((by simp [Ev.cells] : _ = x.cells[i]?).trans hv)
/-- How many accesses an event has, whatever it says. -/
def tN (n : Int) : Nat := (max 0 (min n 6)).toNat
theorem tN_le (n : Int) : tN n ≤ 6 := by unfold tN; rw [Int.max_def, Int.min_def]; split <;> split <;> omega
theorem tN_int (n : Int) : ((tN n : Nat) : Int) = max 0 (min n 6) := by unfold tN; rw [Int.toNat_of_nonneg (by rw [Int.max_def]; split <;> omega)]
/-- What an event touches. -/
def Ev.of (x : Ev) : List Acc := x.list.take (tN x.n)
theorem Ev.of_len (x : Ev) : x.of.length = tN x.n := by
  have := tN_le x.n
  unfold Ev.of Ev.list
  rw [List.length_take]
  simp only [List.length_cons, List.length_nil]
  omega
theorem Ev.list_at (x : Ev) {w : World} {B : Nat} (h : BoxE w B x) (i : Nat) (a : Acc) (hi : x.list[i]? = some a) (j : Nat) (u : Value) (hj : a.cells[j]? = some u) : w.cell? ⟨B, 7 + (i * 3 + j), none⟩ = some u := by
  refine h.at _ _ ?_
  match i with
  | 0 => simp only [Ev.list, List.getElem?_cons_zero, List.getElem?_cons_succ, Option.some.injEq] at hi; subst hi; match j with | 0 => exact hj | 1 => exact hj | 2 => exact hj | j + 3 => simp [Acc.cells] at hj
  | 1 => simp only [Ev.list, List.getElem?_cons_zero, List.getElem?_cons_succ, Option.some.injEq] at hi; subst hi; match j with | 0 => exact hj | 1 => exact hj | 2 => exact hj | j + 3 => simp [Acc.cells] at hj
  | 2 => simp only [Ev.list, List.getElem?_cons_zero, List.getElem?_cons_succ, Option.some.injEq] at hi; subst hi; match j with | 0 => exact hj | 1 => exact hj | 2 => exact hj | j + 3 => simp [Acc.cells] at hj
  | 3 => simp only [Ev.list, List.getElem?_cons_zero, List.getElem?_cons_succ, Option.some.injEq] at hi; subst hi; match j with | 0 => exact hj | 1 => exact hj | 2 => exact hj | j + 3 => simp [Acc.cells] at hj
  | 4 => simp only [Ev.list, List.getElem?_cons_zero, List.getElem?_cons_succ, Option.some.injEq] at hi; subst hi; match j with | 0 => exact hj | 1 => exact hj | 2 => exact hj | j + 3 => simp [Acc.cells] at hj
  | 5 => simp only [Ev.list, List.getElem?_cons_zero, List.getElem?_cons_succ, Option.some.injEq] at hi; subst hi; match j with | 0 => exact hj | 1 => exact hj | 2 => exact hj | j + 3 => simp [Acc.cells] at hj
  | i + 6 => simp [Ev.list] at hi
/-- The accesses of an event in its box. -/
theorem rowsE {w : World} {B : Nat} {x : Ev} (h : BoxE w B x) : Rows w 3 (some ⟨B, 7, none⟩) 6 (x.of.map Acc.cells) := by
  have hl := tN_le x.n
  refine ⟨by rw [List.length_map, Ev.of_len]; exact hl, by omega, by simp, .inr ⟨B, 7, rfl, World.block_lt_of_cell? _ _ h.1, fun i row hi => ?_⟩⟩
  rw [List.getElem?_map, Option.map_eq_some_iff] at hi
  obtain ⟨a, ha, rfl⟩ := hi
  refine ⟨rfl, fun j u hj => x.list_at h i a ?_ j u hj⟩
  unfold Ev.of at ha
  rw [List.getElem?_take] at ha
  split at ha
  · exact ha
  · cases ha
theorem boxE_cls {W : World} {B : Nat} {x : Ev} (h : BoxE W B x) : (∀ s : Cls (Bey W), s.w.cell? ⟨B, 0, none⟩ = some (.int .i64 x.go)) ∧ (∀ s : Cls (Bey W), s.w.cell? ⟨B, 1, none⟩ = some (.int .i64 x.fn)) ∧ (∀ s : Cls (Bey W), s.w.cell? ⟨B, 2, none⟩ = some (.int .i64 x.pc)) ∧ (∀ s : Cls (Bey W), s.w.cell? ⟨B, 3, none⟩ = some (.int .i64 x.op)) ∧ (∀ s : Cls (Bey W), s.w.cell? ⟨B, 4, none⟩ = some (.int .i64 x.alt)) ∧ (∀ s : Cls (Bey W), s.w.cell? ⟨B, 5, none⟩ = some (.int .i64 x.vl)) ∧ (∀ s : Cls (Bey W), s.w.cell? ⟨B, 6, none⟩ = some (.int .i64 x.tag)) ∧ (∀ s : Cls (Bey W), s.w.cell? ⟨B, 7, none⟩ = some (.int .i64 x.t0.kind)) ∧ (∀ s : Cls (Bey W), s.w.cell? ⟨B, 8, none⟩ = some (.int .i64 x.t0.num)) ∧ (∀ s : Cls (Bey W), s.w.cell? ⟨B, 9, none⟩ = some (.bool x.t0.wr)) ∧ (∀ s : Cls (Bey W), s.w.cell? ⟨B, 10, none⟩ = some (.int .i64 x.t1.kind)) ∧ (∀ s : Cls (Bey W), s.w.cell? ⟨B, 11, none⟩ = some (.int .i64 x.t1.num)) ∧ (∀ s : Cls (Bey W), s.w.cell? ⟨B, 12, none⟩ = some (.bool x.t1.wr)) ∧ (∀ s : Cls (Bey W), s.w.cell? ⟨B, 13, none⟩ = some (.int .i64 x.t2.kind)) ∧ (∀ s : Cls (Bey W), s.w.cell? ⟨B, 14, none⟩ = some (.int .i64 x.t2.num)) ∧ (∀ s : Cls (Bey W), s.w.cell? ⟨B, 15, none⟩ = some (.bool x.t2.wr)) ∧ (∀ s : Cls (Bey W), s.w.cell? ⟨B, 16, none⟩ = some (.int .i64 x.t3.kind)) ∧ (∀ s : Cls (Bey W), s.w.cell? ⟨B, 17, none⟩ = some (.int .i64 x.t3.num)) ∧ (∀ s : Cls (Bey W), s.w.cell? ⟨B, 18, none⟩ = some (.bool x.t3.wr)) ∧ (∀ s : Cls (Bey W), s.w.cell? ⟨B, 19, none⟩ = some (.int .i64 x.t4.kind)) ∧ (∀ s : Cls (Bey W), s.w.cell? ⟨B, 20, none⟩ = some (.int .i64 x.t4.num)) ∧ (∀ s : Cls (Bey W), s.w.cell? ⟨B, 21, none⟩ = some (.bool x.t4.wr)) ∧ (∀ s : Cls (Bey W), s.w.cell? ⟨B, 22, none⟩ = some (.int .i64 x.t5.kind)) ∧ (∀ s : Cls (Bey W), s.w.cell? ⟨B, 23, none⟩ = some (.int .i64 x.t5.num)) ∧ (∀ s : Cls (Bey W), s.w.cell? ⟨B, 24, none⟩ = some (.bool x.t5.wr)) ∧ (∀ s : Cls (Bey W), s.w.cell? ⟨B, 25, none⟩ = some (.int .i64 x.n)) :=
  ⟨fun s => (h.later s.h).at 0 _ rfl, fun s => (h.later s.h).at 1 _ rfl, fun s => (h.later s.h).at 2 _ rfl, fun s => (h.later s.h).at 3 _ rfl, fun s => (h.later s.h).at 4 _ rfl, fun s => (h.later s.h).at 5 _ rfl, fun s => (h.later s.h).at 6 _ rfl, fun s => (h.later s.h).at 7 _ rfl, fun s => (h.later s.h).at 8 _ rfl, fun s => (h.later s.h).at 9 _ rfl, fun s => (h.later s.h).at 10 _ rfl, fun s => (h.later s.h).at 11 _ rfl, fun s => (h.later s.h).at 12 _ rfl, fun s => (h.later s.h).at 13 _ rfl, fun s => (h.later s.h).at 14 _ rfl, fun s => (h.later s.h).at 15 _ rfl, fun s => (h.later s.h).at 16 _ rfl, fun s => (h.later s.h).at 17 _ rfl, fun s => (h.later s.h).at 18 _ rfl, fun s => (h.later s.h).at 19 _ rfl, fun s => (h.later s.h).at 20 _ rfl, fun s => (h.later s.h).at 21 _ rfl, fun s => (h.later s.h).at 22 _ rfl, fun s => (h.later s.h).at 23 _ rfl, fun s => (h.later s.h).at 24 _ rfl, fun s => (h.later s.h).at 25 _ rfl⟩
section
variable {H : Type} {enc : TypeId × Value → H} {w : World} {base : Nat} {spare : Nat → Bool} {held : Bool}
/-- A part of a struct, at its place. -/
theorem part_in {P : Program} {t : TypeId} {fs : Array Field} {fuel : Nat} {cs : List Value} {x : DataW H × List MemPlace} (ht : P.underlying t = some (.struct fs)) (h : DataW.trod enc P w base spare held fuel t cs = some x)
    (i : Nat) (f : Field) (hi : fs[i]? = some f) : ∃ y n, DataW.trod enc P w base spare held n f.type ((cs.drop f.offset).take (P.cellsOf f.type)) = some y := by
  obtain ⟨xs, n, _, _, _, hlen, hf⟩ := DataW.trod_struct ht h
  have h1 := hf i f hi
  have hlt : i < xs.length := by rw [hlen]; exact (Array.getElem?_eq_some_iff.mp hi).1
  rw [List.getElem?_eq_getElem hlt] at h1
  exact ⟨_, n, h1⟩

theorem ev_in {n : Nat} {cs : List Value} {y : DataW H × List MemPlace} (hl : cs.length = 26) (h : DataW.trod enc Try.prog w base spare held n 92 cs = some y) : ∃ x : Ev, cs = x.cells ∧ x.wf := by
  match cs, hl, h with
  | [c0, c1, c2, c3, c4, c5, c6, c7, c8, c9, c10, c11, c12, c13, c14, c15, c16, c17, c18, c19, c20, c21, c22, c23, c24, c25], _, h =>
    have hc3 : Try.prog.cellsOf 89 = 3 := by kernel_rfl
    have hc18 : Try.prog.cellsOf 90 = 18 := by kernel_rfl
    have hc1 : Try.prog.cellsOf 3 = 1 := by kernel_rfl
    obtain ⟨v0, _, _, e0, t0⟩ := field_in Try.underlying92 h 0 _ rfl rfl (by kernel_rfl) (by simp)
    obtain ⟨z0, rfl, b0⟩ := int_in Try.underlying3 t0
    obtain rfl : c0 = .int .i64 z0 := by simpa using e0
    obtain ⟨v1, _, _, e1, t1⟩ := field_in Try.underlying92 h 1 _ rfl rfl (by kernel_rfl) (by simp)
    obtain ⟨z1, rfl, b1⟩ := int_in Try.underlying3 t1
    obtain rfl : c1 = .int .i64 z1 := by simpa using e1
    obtain ⟨v2, _, _, e2, t2⟩ := field_in Try.underlying92 h 2 _ rfl rfl (by kernel_rfl) (by simp)
    obtain ⟨z2, rfl, b2⟩ := int_in Try.underlying3 t2
    obtain rfl : c2 = .int .i64 z2 := by simpa using e2
    obtain ⟨v3, _, _, e3, t3⟩ := field_in Try.underlying92 h 3 _ rfl rfl (by kernel_rfl) (by simp)
    obtain ⟨z3, rfl, b3⟩ := int_in Try.underlying87 t3
    obtain rfl : c3 = .int .i64 z3 := by simpa using e3
    obtain ⟨v4, _, _, e4, t4⟩ := field_in Try.underlying92 h 4 _ rfl rfl (by kernel_rfl) (by simp)
    obtain ⟨z4, rfl, b4⟩ := int_in Try.underlying3 t4
    obtain rfl : c4 = .int .i64 z4 := by simpa using e4
    obtain ⟨v5, _, _, e5, t5⟩ := field_in Try.underlying92 h 5 _ rfl rfl (by kernel_rfl) (by simp)
    obtain ⟨z5, rfl, b5⟩ := int_in Try.underlying2 t5
    obtain rfl : c5 = .int .i64 z5 := by simpa using e5
    obtain ⟨v6, _, _, e6, t6⟩ := field_in Try.underlying92 h 6 _ rfl rfl (by kernel_rfl) (by simp)
    obtain ⟨z6, rfl, b6⟩ := int_in Try.underlying2 t6
    obtain rfl : c6 = .int .i64 z6 := by simpa using e6
    obtain ⟨ya, na, ha⟩ := part_in Try.underlying92 h 7 _ rfl
    obtain ⟨yn, nn, hn⟩ := part_in Try.underlying92 h 8 _ rfl
    obtain ⟨zn, rfl, bn⟩ := int_in Try.underlying3 hn
    obtain ⟨xs, m, _, _, _, hlen, hf⟩ := DataW.trod_array Try.underlying90 ha
    rw [hc3] at hf
    have g0 := hf 0 (by omega)
    rw [List.getElem?_eq_getElem (by omega)] at g0
    simp only [Nat.reduceMul, List.drop_succ_cons, List.drop_zero, List.take_succ_cons, List.take_zero] at g0
    obtain ⟨a0, q0, p0⟩ := acc_in rfl g0
    simp only [Acc.cells, List.cons.injEq, and_true] at q0
    obtain ⟨rfl, rfl, rfl⟩ := q0
    have g1 := hf 1 (by omega)
    rw [List.getElem?_eq_getElem (by omega)] at g1
    simp only [Nat.reduceMul, List.drop_succ_cons, List.drop_zero, List.take_succ_cons, List.take_zero] at g1
    obtain ⟨a1, q1, p1⟩ := acc_in rfl g1
    simp only [Acc.cells, List.cons.injEq, and_true] at q1
    obtain ⟨rfl, rfl, rfl⟩ := q1
    have g2 := hf 2 (by omega)
    rw [List.getElem?_eq_getElem (by omega)] at g2
    simp only [Nat.reduceMul, List.drop_succ_cons, List.drop_zero, List.take_succ_cons, List.take_zero] at g2
    obtain ⟨a2, q2, p2⟩ := acc_in rfl g2
    simp only [Acc.cells, List.cons.injEq, and_true] at q2
    obtain ⟨rfl, rfl, rfl⟩ := q2
    have g3 := hf 3 (by omega)
    rw [List.getElem?_eq_getElem (by omega)] at g3
    simp only [Nat.reduceMul, List.drop_succ_cons, List.drop_zero, List.take_succ_cons, List.take_zero] at g3
    obtain ⟨a3, q3, p3⟩ := acc_in rfl g3
    simp only [Acc.cells, List.cons.injEq, and_true] at q3
    obtain ⟨rfl, rfl, rfl⟩ := q3
    have g4 := hf 4 (by omega)
    rw [List.getElem?_eq_getElem (by omega)] at g4
    simp only [Nat.reduceMul, List.drop_succ_cons, List.drop_zero, List.take_succ_cons, List.take_zero] at g4
    obtain ⟨a4, q4, p4⟩ := acc_in rfl g4
    simp only [Acc.cells, List.cons.injEq, and_true] at q4
    obtain ⟨rfl, rfl, rfl⟩ := q4
    have g5 := hf 5 (by omega)
    rw [List.getElem?_eq_getElem (by omega)] at g5
    simp only [Nat.reduceMul, List.drop_succ_cons, List.drop_zero, List.take_succ_cons, List.take_zero] at g5
    obtain ⟨a5, q5, p5⟩ := acc_in rfl g5
    simp only [Acc.cells, List.cons.injEq, and_true] at q5
    obtain ⟨rfl, rfl, rfl⟩ := q5
    exact ⟨⟨z0, z1, z2, z3, z4, z5, z6, a0, a1, a2, a3, a4, a5, zn⟩, rfl, ⟨b0, b1, b2, b3, b4, b5, b6⟩, fun t ht => by simp only [Ev.list, List.mem_cons, List.not_mem_nil, or_false] at ht; rcases ht with rfl | rfl | rfl | rfl | rfl | rfl <;> assumption, bn⟩
/-- An event that came in, opened. -/
theorem ev_arg {n : Nat} {cs : List Value} {y : DataW H × List MemPlace} (h : DataW.trod enc Try.prog w base spare held n 92 cs = some y) : ∃ x : Ev, Value.agg cs.toArray = x.val ∧ x.wf := by
  have hl : cs.length = 26 := by
    obtain ⟨xs, n, _, _, hl, _⟩ := DataW.trod_struct Try.underlying92 h
    rw [hl]
    kernel_rfl
  obtain ⟨x, rfl, hw⟩ := ev_in hl h
  exact ⟨x, rfl, hw⟩
end
end Go.Proofs.Ytklpifammbnldaa.pg
