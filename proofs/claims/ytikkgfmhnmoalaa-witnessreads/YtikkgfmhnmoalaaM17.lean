/- A witness is read from bytes that are fit. -/
import Derived.Test.YtikkgfmhnmoalaaM16
import Derived.Test.YtikkgfmhnmoalaaM5
namespace Go.Proofs.Ytikkgfmhnmoalaa.pg
open Go.ChangeShapes Go.WideShapes Go.ChangeAt Go.RowKit
set_option linter.unusedVariables false
set_option linter.unusedSimpArgs false
set_option maxRecDepth 100000
abbrev bndF (k r : Nat) : Value := .func (.func k) #[.pointer (some ⟨r, 0, none⟩)] #[]
theorem unf_fit {f : Nat → Nat} {n : Nat} (h : (unfP f n).1 = 0) : unfP f n = (0, 0) ∧ 12 ≤ n ∧ n ≤ 65536 ∧ magB f n = true ∧ sumK f n = true := by
  unfold unfP at h ⊢
  by_cases h1 : 65536 < n
  · rw [if_pos h1] at h; cases h
  · rw [if_neg h1] at h ⊢
    by_cases h2 : magB f n = false
    · rw [if_pos h2] at h; cases h
    · rw [if_neg h2] at h ⊢
      by_cases h3 : n < 12
      · rw [if_pos h3] at h; cases h
      · rw [if_neg h3] at h ⊢
        by_cases h4 : sumK f n = false
        · rw [if_pos h4] at h; cases h
        · rw [if_neg h4]
          exact ⟨rfl, by omega, by omega, by simpa using h2, by simpa using h4⟩
theorem rdL_at {f : Nat → Nat} (hf : ∀ i, f i < 256) (n : Nat) : ∀ (B : List (Int × Int)) (a k : Nat), a ≤ n → k ≤ n → (rdL f n B a k).at_ ≤ n ∧ (rdL f n B a k).k ≤ n
  | [], a, k, ha, hk => ⟨ha, hk⟩
  | b :: t, a, k, ha, hk => by
    obtain ⟨X, E, R, h⟩ : ∃ X E R, octet.gotten f n (k : Int) = (X, E, R) := ⟨_, _, _, rfl⟩
    by_cases hR : R = 0
    · subst hR
      obtain ⟨x, h1, h2, h3, h4⟩ := gotten_once hf h
      have hE : E.toNat ≤ n := by have := h4.1; rw [putB_len] at this; omega
      by_cases hb : b.1 ≤ capI X ∧ capI X ≤ b.2
      · rw [rdL_ok h hb]; exact rdL_at hf n t k E.toNat hk hE
      · rw [rdL_bad h hb]; exact ⟨hk, hE⟩
    · rw [rdL_err h hR]; exact ⟨hk, hk⟩
theorem rdP_at {f : Nat → Nat} (hf : ∀ i, f i < 256) (n a k : Nat) (ha : a ≤ n) (hk : k ≤ n) : (rdP f n a k).at_ ≤ n ∧ (rdP f n a k).k ≤ n := by
  have h1 := rdL_at hf n [(0, 256)] a k ha hk
  unfold rdP
  split
  · exact rdL_at hf n _ _ _ h1.1 h1.2
  · exact h1
/-- How Read stands ahead of each of its three parts, and behind them. -/
def ReS (V0 : World) (r q : Nat) (ba : Option Addr) (bc N : Nat) (g : Nat → Nat) (M : Wi) (R1 R2 : RL) (X : Int) (i : Nat) (W : World) : Prop :=
  (i = 0 ∧ RdW V0 W r q ba bc N g (fillW X []) none 0 0 0) ∨ (i = 1 ∧ R1.e = 0 ∧ RdW V0 W r q ba bc N g M none 0 R1.at_ R1.k) ∨ (i = 2 ∧ R1.e = 0 ∧ R2.e = 0 ∧ ∃ pk pa pc, RdW V0 W r q ba bc N g { M with pk := pk } pa pc R2.at_ R2.k ∧ pk.flatMap (fun p => [p.1, p.2]) = R2.vs) ∨
  (i = 3 ∧ R1.e = 0 ∧ R2.e = 0 ∧ ¬ R2.k < N ∧ ∃ pk pa pc, RdW V0 W r q ba bc N g { M with pk := pk } pa pc R2.k R2.k ∧ pk.flatMap (fun p => [p.1, p.2]) = R2.vs)
/-- What Read finds in memory that none of its parts touches. -/
structure ReK (w W : World) (r q L : Nat) : Prop where
  z : W.heap[w.heap.size]? = some objZ
  l : W.heap[L]? = some (.cells #[bndF 27 r, bndF 28 r, bndF 29 r] 71)
  b : Below w.heap.size w W
theorem ReK.next {w V0 W : World} {r q L : Nat} {ba : Option Addr} {bc N : Nat} {g : Nat → Nat} {M : Wi} {pa : Option Addr} {pc a k : Nat} (h : ReK w V0 r q L) (hd : RdW V0 W r q ba bc N g M pa pc a k) (hr : w.heap.size < r) (hq : w.heap.size < q) (hL : L ≠ r ∧ L ≠ q) : ReK w W r q L :=
  ⟨(hd.fr _ (Array.getElem?_eq_some_iff.mp h.z).1 (by omega) (by omega)).trans h.z, (hd.fr _ (Array.getElem?_eq_some_iff.mp h.l).1 hL.1 hL.2).trans h.l, ⟨hd.be.os.trans h.b.os, hd.be.tape.trans h.b.tape, hd.be.output.trans h.b.output, Nat.le_trans h.b.size hd.be.size, fun x hx => (hd.fr x (Nat.lt_of_lt_of_le hx h.b.size) (by omega) (by omega)).trans (h.b.block x hx)⟩⟩
theorem ixF (L : Nat) (i : Nat) (hi : i < 3) : ∀ wx, (Instr.indexAt 72 (.slice (some ⟨L, 0, none⟩) 3 3) (.int .i64 (i : Int))).run Try.prog wx = .ok (.pointer (some ⟨L, i, none⟩)) wx := by
  match i, hi with
  | 0, _ => exact fun _ => by kernel_rfl
  | 1, _ => exact fun _ => by kernel_rfl
  | 2, _ => exact fun _ => by kernel_rfl
set_option maxHeartbeats 4000000 in
theorem read_fit (a : Option Addr) (n c : Nat) (f : Nat → Nat) (w : World) (hr : octet.Row w a n f) (hnc : n ≤ c) (hc : (c : Int) ≤ 9223372036854775807) (hu : (unfP f n).1 = 0) : Calls Try.prog 11 #[.slice a n c] w fun e w' => Below w.heap.size w w' ∧ ((rdE f n).1 ≠ 0 → e = .returned (.tuple #[.agg (zeroWi.cells none 0).toArray, .int .i64 (rdE f n).1, .int .i64 (rdE f n).2])) ∧ ((rdE f n).1 = 0 → ∃ pk pa pc, e = .returned (.tuple #[.agg ({ rdM f n with pk := pk }.cells pa pc).toArray, .int .i64 0, .int .i64 0]) ∧ OwnL w' w.heap.size 66 2 pa pc (pk.map pkC) ∧ pk.flatMap (fun p => [p.1, p.2]) = (rdP (partF f) (n - 12) (rdL (partF f) (n - 12) headB 0 0).at_ (rdL (partF f) (n - 12) headB 0 0).k).vs) := by
  obtain ⟨hu0, hn12, hn65, _, _⟩ := unf_fit hu
  obtain ⟨b, off, rfl⟩ := row_addr hr (by omega)
  have hb := boxed w objZ
  have hz : Hid ((w.alloc objZ).heap[w.heap.size]? = some objZ) := heap_alloc_new _ _
  have cU : Calls Try.prog 25 #[.slice (some ⟨b, off, none⟩) n c] (w.alloc objZ) _ := unfit_any _ n c f _ (hr.later hb) hnc hc
  rw [hu0] at cU
  have cR : ∀ wx, Below w.heap.size w wx → Calls Try.prog 26 #[.slice (some ⟨b, off, none⟩) n c] wx _ := fun wx hx => readerOf_any b off n c f wx (hr.later hx) hn12 hn65 hnc hc
  obtain ⟨N, hN⟩ : ∃ N, N = n - 12 := ⟨_, rfl⟩
  obtain ⟨R1, hR1⟩ : ∃ R1, rdL (partF f) N headB 0 0 = R1 := ⟨_, rfl⟩
  obtain ⟨R2, hR2⟩ : ∃ R2, rdP (partF f) N R1.at_ R1.k = R2 := ⟨_, rfl⟩
  have hE : rdE f n = if R1.e ≠ 0 then (R1.e, 8 + (R1.at_ : Int)) else if R2.e ≠ 0 then (R2.e, 8 + (R2.at_ : Int)) else if R2.k < N then (13, 8 + (R2.k : Int)) else (0, 0) := by
    unfold rdE
    rw [if_neg (by rw [hu0]; simp), ← hN, hR1, hR2]
  have hM : rdM f n = fillW (sumW f) R1.vs := by unfold rdM; rw [← hN, hR1]
  have hsv : R2 = rdP (partF f) (n - 12) (rdL (partF f) (n - 12) headB 0 0).at_ (rdL (partF f) (n - 12) headB 0 0).k := by rw [← hN, hR1, hR2]
  rw [← hsv]
  obtain ⟨M, hMd⟩ : ∃ M, M = rdM f n := ⟨_, rfl⟩
  rw [← hMd]
  rw [← hMd] at hM
  obtain ⟨ER, hER⟩ : ∃ ER, ER = rdE f n := ⟨_, rfl⟩
  rw [← hER]
  rw [← hER] at hE
  have hNH : Hid (N = n - 12 ∧ N ≤ 65536) := ⟨hN, by omega⟩
  have hR1H : Hid (rdL (partF f) N headB 0 0 = R1) := hR1
  have hR2H : Hid (rdP (partF f) N R1.at_ R1.k = R2) := hR2
  have hEH : Hid (ER = if R1.e ≠ 0 then (R1.e, 8 + (R1.at_ : Int)) else if R2.e ≠ 0 then (R2.e, 8 + (R2.at_ : Int)) else if R2.k < N then (13, 8 + (R2.k : Int)) else (0, 0)) := hE
  have hMH : Hid (M = fillW (sumW f) R1.vs) := hM
  have hat : Hid ((R1.at_ ≤ N ∧ R1.k ≤ N) ∧ R2.at_ ≤ N ∧ R2.k ≤ N) := by
    have h1 := rdL_at (f := partF f) (fun i => hr.2.1 _) N headB 0 0 (by omega) (by omega)
    rw [hR1] at h1
    have h2 := rdP_at (f := partF f) (fun i => hr.2.1 _) N R1.at_ R1.k h1.1 h1.2
    rw [hR2] at h2
    exact ⟨h1, h2⟩
  clear hr hu hsv hMd hER hE hM hN hR1 hR2
  go_enter Try.func11, Try.ntmps11
  go_wp2_with (first
    | (go_at_call 25; (with_reducible refine cU.mono ?_); rintro e w1 ⟨rfl, hb1⟩; (have hz1 : Hid (w1.heap[w.heap.size]? = some objZ) := (hb1.block _ (by rw [World.size_alloc]; omega)).trans hz.out))
    | (go_at_call 26; (with_reducible refine (cR _ (bthen hb hb1)).mono ?_); rintro e w2 ⟨r, q, ba, bc, rfl, hd2, hr2, hq2, hb2⟩))
  obtain ⟨V0, hV0⟩ : ∃ V0, V0 = w2.alloc (.cells #[bndF 27 r, bndF 28 r, bndF 29 r] 71) := ⟨_, rfl⟩
  obtain ⟨L, hL⟩ : ∃ L, L = w2.heap.size := ⟨_, rfl⟩
  have hbV : Below w2.heap.size w2 V0 := by rw [hV0]; exact boxed _ _
  have hw1 : w.heap.size < w1.heap.size := by have := hb1.size; rw [World.size_alloc] at this; omega
  have hrl := (Array.getElem?_eq_some_iff.mp hd2.rb).1
  have hql := hd2.d.lt
  have hd0 := (hd2.later hbV).base rfl
  have hk0 : ReK w V0 r q L := ⟨(hbV.block _ (by have := hb2.size; omega)).trans ((hb2.block _ hw1).trans hz1.out), by rw [hV0, hL]; exact heap_alloc_new _ _, (bthen (bthen hb hb1) hb2).trans (hbV.mono (by have := hb2.size; omega))⟩
  have hLr : Hid (L ≠ r ∧ L ≠ q) := ⟨by omega, by omega⟩
  have hwr : Hid (w.heap.size < r) := by show _ < _; omega
  have hwq : Hid (w.heap.size < q) := by show _ < _; omega
  rw [← hNH.out.1] at hd0
  rw [← hL]
  refine Eq.mp (congrArg (Code.wp Try.prog _ _ _) hV0) ?_
  have cH : ∀ W, RdW V0 W r q ba bc N (partF f) (fillW (sumW f) []) none 0 0 0 → Calls Try.prog 27 #[.pointer (some ⟨r, 0, none⟩)] W _ := fun W h => whead_any (sumW f) h R1 hR1H.out
  have cP : ∀ W, RdW V0 W r q ba bc N (partF f) M none 0 R1.at_ R1.k → Calls Try.prog 28 #[.pointer (some ⟨r, 0, none⟩)] W _ := fun W h => wpicks_any h (by rw [hMH.out]; rfl) R2 hR2H.out
  have hs0 : Hid (ReS V0 r q ba bc N (partF f) M R1 R2 (sumW f) 0 V0) := .inl ⟨rfl, hd0⟩
  have hk0H : Hid (ReK w V0 r q L) := hk0
  clear hd0 hk0 hL hV0 hbV hd2 hr2 hq2 hb2 hb1 hz1 hz cU cR hb hu0 hrl hql hw1 hn12 hn65
  go_loopw [31] (fun u wr => ∃ i : Nat, i ≤ 3 ∧ u = .int .i64 (i : Int) ∧ Hid (ReS V0 r q ba bc N (partF f) M R1 R2 (sumW f) i wr)) (fun u _ => 3 - (intOf u).toNat)
  case atStart => exact ⟨0, by omega, rfl, hs0⟩
  case round =>
    clear hs0
    obtain ⟨i, hi, rfl, hs⟩ := hrel
    rcases hs.out with ⟨rfl, hd⟩ | ⟨rfl, he1, hd⟩ | ⟨rfl, he1, he2, pk, pa, pc, hd, hpk⟩ | ⟨rfl, he1, he2, he3, pk, pa, pc, hd, hpk⟩
    · have hk := hk0H.out.next hd hwr.out hwq.out hLr.out
      have ix := ixF L 0 (by decide)
      have cF : wr.cell? ⟨L, 0, none⟩ = some (bndF 27 r) := by rw [cell_of_row wr L 0 _ _ _ hk.l]; rfl
      have cC := cH _ hd
      clear hs hd hk
      by_cases he : R1.e = 0
      · go_wp2_with (go_at_call 27; (with_reducible refine cC.mono ?_); rintro e w5 ⟨rfl, vs, hv, hv2⟩)
        refine ⟨⟨1, by omega, rfl, .inr (.inl ⟨rfl, he, ?_⟩)⟩, by simp [intOf]⟩
        rw [hMH.out, ← hv2 he]
        exact hv
      · have heb : (R1.e != 0) = true := by simpa using he
        go_wp2_with (first
          | (go_at_call 27; (with_reducible refine cC.mono ?_); rintro e w5 ⟨rfl, vs, hv, hv2⟩; (have hk5 := hk0H.out.next hv hwr.out hwq.out hLr.out); (have cPl := place_anyW w5 (hv.cell 13 _ rfl) (by omega) (by have h1 := hat.out.1.1; have h2 := hNH.out.2; omega)))
          | (go_at_call 30; (with_reducible refine cPl.mono ?_); rintro e w6 ⟨rfl, hw6⟩; rw [hw6]; clear hw6 w6)
          | (refine wpList_store_row rfl 31 _ _ rfl w.heap.size _ rfl rfl _ _ hk5.z infoW12 rfl (oneW zeroWi none 0) ?_))
        have hER : ER = (R1.e, 8 + (R1.at_ : Int)) := by rw [hEH.out, if_pos he]
        refine bodyPost_ret (results_w Try.results11 _ _ w.heap.size (zeroWi.cells none 0).toArray (.int .i64 (R1.e)) (.int .i64 (8 + (R1.at_ : Int))) rfl rfl rfl rfl (setRow_heap _ _ _ _ _ _ hk5.z)) rfl ⟨below_setRow hk5.b (Nat.le_refl _) _, fun _ => by rw [hER], fun h => ?_⟩
        rw [hER] at h
        exact (he h).elim
    · have hk := hk0H.out.next hd hwr.out hwq.out hLr.out
      have ix := ixF L 1 (by decide)
      have cF : wr.cell? ⟨L, 1, none⟩ = some (bndF 28 r) := by rw [cell_of_row wr L 1 _ _ _ hk.l]; rfl
      have cC := cP _ hd
      clear hs hd hk
      by_cases he : R2.e = 0
      · go_wp2_with (go_at_call 28; (with_reducible refine cC.mono ?_); rintro e w5 ⟨rfl, pk, pa, pc, hv, hv2⟩)
        exact ⟨⟨2, by omega, rfl, .inr (.inr (.inl ⟨rfl, he1, he, pk, pa, pc, hv, hv2 he⟩))⟩, by simp [intOf]⟩
      · have heb : (R2.e != 0) = true := by simpa using he
        go_wp2_with (first
          | (go_at_call 28; (with_reducible refine cC.mono ?_); rintro e w5 ⟨rfl, pk, pa, pc, hv, hv2⟩; (have hk5 := hk0H.out.next hv hwr.out hwq.out hLr.out); (have cPl := place_anyW w5 (hv.cell 13 _ rfl) (by omega) (by have h1 := hat.out.2.1; have h2 := hNH.out.2; omega)))
          | (go_at_call 30; (with_reducible refine cPl.mono ?_); rintro e w6 ⟨rfl, hw6⟩; rw [hw6]; clear hw6 w6)
          | (refine wpList_store_row rfl 31 _ _ rfl w.heap.size _ rfl rfl _ _ hk5.z infoW12 rfl (oneW zeroWi none 0) ?_))
        have hER : ER = (R2.e, 8 + (R2.at_ : Int)) := by rw [hEH.out, if_neg (by simp [he1]), if_pos he]
        refine bodyPost_ret (results_w Try.results11 _ _ w.heap.size (zeroWi.cells none 0).toArray (.int .i64 (R2.e)) (.int .i64 (8 + (R2.at_ : Int))) rfl rfl rfl rfl (setRow_heap _ _ _ _ _ _ hk5.z)) rfl ⟨below_setRow hk5.b (Nat.le_refl _) _, fun _ => by rw [hER], fun h => ?_⟩
        rw [hER] at h
        exact (he h).elim
    · have hk := hk0H.out.next hd hwr.out hwq.out hLr.out
      have ix := ixF L 2 (by decide)
      have cF : wr.cell? ⟨L, 2, none⟩ = some (bndF 29 r) := by rw [cell_of_row wr L 2 _ _ _ hk.l]; rfl
      have cC := wend_any hd hNH.out.2
      clear hs hd hk
      by_cases he : R2.k < N
      · have hen : octet.endOf N R2.k = 13 := by unfold octet.endOf; rw [if_pos he]
        rw [hen] at cC
        clear hen
        go_wp2_with (first
          | (go_at_call 29; (with_reducible refine cC.mono ?_); rintro e w5 ⟨rfl, hv⟩; (have hk5 := hk0H.out.next hv hwr.out hwq.out hLr.out); (have cPl := place_anyW w5 (hv.cell 13 _ rfl) (by omega) (by have h1 := hat.out.2.2; have h2 := hNH.out.2; omega)))
          | (go_at_call 30; (with_reducible refine cPl.mono ?_); rintro e w6 ⟨rfl, hw6⟩; rw [hw6]; clear hw6 w6)
          | (refine wpList_store_row rfl 31 _ _ rfl w.heap.size _ rfl rfl _ _ hk5.z infoW12 rfl (oneW zeroWi none 0) ?_))
        have hER : ER = (13, 8 + (R2.k : Int)) := by rw [hEH.out, if_neg (by simp [he1]), if_neg (by simp [he2]), if_pos he]
        refine bodyPost_ret (results_w Try.results11 _ _ w.heap.size (zeroWi.cells none 0).toArray (.int .i64 (13)) (.int .i64 (8 + (R2.k : Int))) rfl rfl rfl rfl (setRow_heap _ _ _ _ _ _ hk5.z)) rfl ⟨below_setRow hk5.b (Nat.le_refl _) _, fun _ => by rw [hER], fun h => ?_⟩
        rw [hER] at h
        have h13 : (13 : Int) = 0 := h
        omega
      · have hen : octet.endOf N R2.k = 0 := by unfold octet.endOf; rw [if_neg he]
        rw [hen] at cC
        clear hen
        go_wp2_with (go_at_call 29; (with_reducible refine cC.mono ?_); rintro e w5 ⟨rfl, hv⟩)
        exact ⟨⟨3, by omega, rfl, .inr (.inr (.inr ⟨rfl, he1, he2, he, pk, pa, pc, hv, hpk⟩))⟩, by simp [intOf]⟩
    · have hk := hk0H.out.next hd hwr.out hwq.out hLr.out
      have hkz : Hid (wr.heap[w.heap.size]? = some objZ) := hk.z
      have hrg : Hid (wr.rangeAt r 1 ({ M with pk := pk }.cells pa pc)) := fun j v hj => hd.cell (1 + j) v (by
        rw [Nat.add_comm]
        show ({ M with pk := pk }.cells pa pc ++ [_])[j]? = _
        rw [List.getElem?_append_left (List.getElem?_eq_some_iff.mp hj).1]
        exact hj)
      have hfin : Hid (OwnL wr w.heap.size 66 2 pa pc (pk.map pkC) ∧ Below w.heap.size w wr ∧ (∀ x ∈ blk pa, x ≠ w.heap.size)) := ⟨own_mono_q hd.ow hk0H.out.b.size, hk.b, fun x hx => by have h1 := (blk_lt hd.ow x hx).1; have h2 := (Array.getElem?_eq_some_iff.mp hk0H.out.z).1; omega⟩
      have hER : Hid (ER.1 = 0) := by rw [hEH.out, if_neg (by simp [he1]), if_neg (by simp [he2]), if_neg he3]; rfl
      have huW : Hid (Try.prog.underlying 31 = _) := Try.underlying31
      have hiC : Hid ((Try.prog.info? 31).map (·.size) = some ({ M with pk := pk }.cells pa pc).length) := infoW12
      clear hs hd hk
      go_wp2_with (first
        | (refine wpList_load_mid rfl 31 _ rfl r 1 rfl ({ M with pk := pk }.cells pa pc) _ hrg.out huW.out rfl hiC.out ?_)
        | (refine wpList_store_row rfl 31 _ _ rfl w.heap.size _ rfl rfl _ _ hkz.out infoW12 rfl (oneW { M with pk := pk } pa pc) ?_))
      refine bodyPost_ret (results_w Try.results11 _ _ w.heap.size ({ M with pk := pk }.cells pa pc).toArray (.int .i64 0) (.int .i64 0) rfl rfl rfl rfl (setRow_heap _ _ _ _ _ _ hkz.out)) rfl ⟨below_setRow hfin.out.2.1 (Nat.le_refl _) _, fun h => (h hER.out).elim, fun _ => ⟨pk, pa, pc, rfl, own_keep hfin.out.1 (fun x hx => ?_), hpk⟩⟩
      exact setRow_other _ _ _ _ (hfin.out.2.2 x hx)
end Go.Proofs.Ytikkgfmhnmoalaa.pg
/- The sum's turns are linear and one to one: two lists of bytes that part in four neighbouring bytes alone have the same sum just if they are the same. -/
namespace Go.Proofs.Ytikkgfmhnmoalaa.octet
set_option linter.unusedVariables false
theorem xor_half (a b : Nat) : (a ^^^ b) / 2 = a / 2 ^^^ b / 2 := by
  have := @Nat.shiftRight_xor_distrib 1 a b
  simpa [Nat.shiftRight_eq_div_pow] using this
theorem st_xor (a b : Nat) : st (a ^^^ b) = st a ^^^ st b := by
  have hm : (a ^^^ b) % 2 = (a % 2) ^^^ (b % 2) := by
    have := @Nat.xor_mod_two_pow a b 1
    simpa using this
  unfold st
  rw [xor_half, hm]
  rcases (by omega : a % 2 = 0 ∨ a % 2 = 1) with h | h <;> rcases (by omega : b % 2 = 0 ∨ b % 2 = 1) with g | g <;> rw [h, g]
  · simp
  · simp [Nat.xor_assoc]
  · simp only [Nat.xor_zero, if_true, Nat.zero_ne_one, if_false]
    rw [Nat.xor_assoc, Nat.xor_assoc, Nat.xor_comm (b / 2)]
  · simp only [Nat.xor_self, if_true, Nat.zero_ne_one, if_false, Nat.xor_zero]
    rw [Nat.xor_assoc, Nat.xor_comm (3988292384 : Nat), Nat.xor_assoc (b / 2), Nat.xor_self, Nat.xor_zero]
theorem iter_xor (n a b : Nat) : iter n (a ^^^ b) = iter n a ^^^ iter n b := by
  induction n with
  | zero => rfl
  | succ n ih => show st _ = st _ ^^^ st _; rw [ih, st_xor]
theorem st_inj0 (c : Nat) (h : c < 4294967296) (e : st c = 0) : c = 0 := by
  rcases (by omega : c % 2 = 0 ∨ c % 2 = 1) with g | g
  · rw [st_even c g] at e; omega
  · rw [st_odd c g] at e
    have : c / 2 = 3988292384 := by
      have h2 : c / 2 ^^^ 3988292384 ^^^ 3988292384 = 0 ^^^ 3988292384 := by rw [e]
      rw [Nat.xor_assoc, Nat.xor_self, Nat.xor_zero, Nat.zero_xor] at h2
      exact h2
    omega
theorem iter_inj0 (n c : Nat) (h : c < 4294967296) (e : iter n c = 0) : c = 0 := by
  induction n with
  | zero => exact e
  | succ n ih => exact ih (st_inj0 _ (iter_lt n c h) e)
theorem iter_mul (n b : Nat) : iter n (b * 2 ^ n) = b := by
  induction n generalizing b with
  | zero => show b * 1 = b; omega
  | succ n ih =>
    show st (iter n _) = b
    rw [show b * 2 ^ (n + 1) = (2 * b) * 2 ^ n by rw [Nat.pow_succ, Nat.mul_comm 2 b, Nat.mul_assoc, Nat.mul_comm (2 ^ n) 2], ih, st_even _ (by omega)]
    omega
theorem iter_add (n m c : Nat) : iter n (iter m c) = iter (n + m) c := by
  induction n with
  | zero => rw [Nat.zero_add]; rfl
  | succ n ih => rw [show n + 1 + m = (n + m) + 1 by omega]; show st _ = st _; rw [ih]
theorem iter_zero (n : Nat) : iter n 0 = 0 := by have := iter_mul n 0; rwa [Nat.zero_mul] at this
/-- What parts two sums behind n bytes. -/
def df (h : Nat → Nat) : Nat → Nat
  | 0 => 0
  | n + 1 => iter 8 (df h n ^^^ h n)
theorem df_eq (f g : Nat → Nat) (n : Nat) : crc f n ^^^ crc g n = df (fun i => f i ^^^ g i) n := by
  induction n with
  | zero => show (4294967295 : Nat) ^^^ 4294967295 = 0; exact Nat.xor_self _
  | succ n ih =>
    show iter 8 _ ^^^ iter 8 _ = iter 8 _
    rw [← iter_xor, ← ih]
    congr 1
    rw [Nat.xor_assoc, Nat.xor_assoc]
    congr 1
    rw [← Nat.xor_assoc, ← Nat.xor_assoc, Nat.xor_comm (f n)]
theorem df_lt (h : Nat → Nat) (hh : ∀ i, h i < 256) (n : Nat) : df h n < 4294967296 := by
  induction n with
  | zero => show (0 : Nat) < 4294967296; decide
  | succ n ih => exact iter_lt _ _ (xor_lt32 ih (by have := hh n; omega))
theorem df_zero (h : Nat → Nat) (n : Nat) (hz : ∀ i, i < n → h i = 0) : df h n = 0 := by
  induction n with
  | zero => rfl
  | succ n ih =>
    show iter 8 _ = 0
    rw [ih fun i hi => hz i (by omega), hz n (by omega)]
    exact iter_zero 8
theorem df_part (h : Nat → Nat) (hh : ∀ i, h i < 256) (s : Nat) (h0 : df h s = 0) (m : Nat) : ∃ T, T < 2 ^ (8 * m) ∧ df h (s + m) = iter (8 * m) T ∧ (T = 0 → ∀ i, i < m → h (s + i) = 0) := by
  induction m with
  | zero => exact ⟨0, by decide, by rw [Nat.add_zero, h0]; rfl, fun _ i hi => by omega⟩
  | succ m ih =>
    obtain ⟨T, hT, e, hz⟩ := ih
    have hb := hh (s + m)
    have hx : T ^^^ h (s + m) * 2 ^ (8 * m) = 2 ^ (8 * m) * h (s + m) + T := by
      rw [Nat.mul_comm (h (s + m)), Nat.two_pow_add_eq_or_of_lt hT, Nat.or_comm]
      refine Nat.eq_of_testBit_eq fun i => ?_
      rw [Nat.testBit_xor, Nat.testBit_or, Nat.testBit_two_pow_mul]
      by_cases hi : 8 * m ≤ i
      · rw [Nat.testBit_lt_two_pow (Nat.lt_of_lt_of_le hT (Nat.pow_le_pow_right (by decide) hi))]; simp
      · simp [hi]
    refine ⟨2 ^ (8 * m) * h (s + m) + T, ?_, ?_, ?_⟩
    · have : 2 ^ (8 * (m + 1)) = 2 ^ (8 * m) * 256 := by rw [show 8 * (m + 1) = 8 * m + 8 by omega, Nat.pow_add]
      rw [this]
      have h2 : 2 ^ (8 * m) * h (s + m) + 2 ^ (8 * m) ≤ 2 ^ (8 * m) * 256 := by
        rw [← Nat.mul_succ]; exact Nat.mul_le_mul_left _ hb
      omega
    · rw [← Nat.add_assoc]
      show iter 8 (df h (s + m) ^^^ h (s + m)) = _
      rw [e, ← hx, show 8 * (m + 1) = 8 + 8 * m by omega, ← iter_add, iter_xor (8 * m), iter_mul]
    · intro hT0 i hi
      have hT' : T = 0 := by omega
      by_cases h1 : i < m
      · exact hz hT' i h1
      · have : 2 ^ (8 * m) * h (s + m) = 0 := by omega
        rcases Nat.mul_eq_zero.mp this with h3 | h3
        · have := Nat.two_pow_pos (8 * m); omega
        · rw [show i = m by omega]; exact h3
theorem df_all (h : Nat → Nat) (hh : ∀ i, h i < 256) (s n : Nat) (ho : ∀ i, i < s ∨ s + 4 ≤ i → h i = 0) (e : df h n = 0) : ∀ i, i < n → h i = 0 := by
  have hs : df h s = 0 := df_zero h s fun i hi => ho i (.inl hi)
  have low : ∀ m, m ≤ 4 → df h (s + m) = 0 → ∀ i, i < s + m → h i = 0 := by
    intro m hm e i hi
    obtain ⟨T, hT, e2, hz⟩ := df_part h hh s hs m
    have hT2 : T < 4294967296 := Nat.lt_of_lt_of_le hT (by have := Nat.pow_le_pow_right (n := 2) (by decide) (show 8 * m ≤ 32 by omega); exact this)
    have := iter_inj0 _ T hT2 (e2 ▸ e)
    by_cases h1 : i < s
    · exact ho i (.inl h1)
    · have := hz this (i - s) (by omega)
      rwa [show s + (i - s) = i by omega] at this
  have high : ∀ m, df h (s + 4 + m) = 0 → df h (s + 4) = 0 := by
    intro m
    induction m with
    | zero => exact id
    | succ m ih =>
      intro e
      refine ih ?_
      have e' : iter 8 (df h (s + 4 + m) ^^^ h (s + 4 + m)) = 0 := e
      rw [ho _ (.inr (by omega)), Nat.xor_zero] at e'
      exact iter_inj0 8 _ (df_lt h hh _) e'
  intro i hi
  by_cases h1 : n ≤ s
  · exact ho i (.inl (by omega))
  · by_cases h2 : n ≤ s + 4
    · exact low (n - s) (by omega) (by rw [show s + (n - s) = n by omega]; exact e) i (by omega)
    · have e4 := high (n - (s + 4)) (by rw [show s + 4 + (n - (s + 4)) = n by omega]; exact e)
      by_cases h3 : i < s + 4
      · exact low 4 (by omega) e4 i h3
      · exact ho i (.inr (by omega))
/-- Two lists of bytes that part in four neighbouring bytes alone have the same sum just if they are the same. -/
theorem burst (f g : Nat → Nat) (hf : ∀ i, f i < 256) (hg : ∀ i, g i < 256) (s n : Nat) (ho : ∀ i, i < s ∨ s + 4 ≤ i → f i = g i) : (4294967295 - crc f n = 4294967295 - crc g n) ↔ ∀ i, i < n → f i = g i := by
  have hx0 : ∀ a b : Nat, a ^^^ b = 0 ↔ a = b := fun a b => by
    constructor
    · intro h
      have h2 : a ^^^ b ^^^ b = 0 ^^^ b := by rw [h]
      rwa [Nat.xor_assoc, Nat.xor_self, Nat.xor_zero, Nat.zero_xor] at h2
    · rintro rfl; exact Nat.xor_self a
  have l1 := crc_lt f hf n
  have l2 := crc_lt g hg n
  have hh : ∀ i, f i ^^^ g i < 256 := fun i => Nat.xor_lt_two_pow (n := 8) (hf i) (hg i)
  constructor
  · intro e i hi
    have e1 : crc f n = crc g n := by omega
    have e2 : df (fun i => f i ^^^ g i) n = 0 := by rw [← df_eq, e1, Nat.xor_self]
    exact (hx0 _ _).1 (df_all _ hh s n (fun i h => (hx0 _ _).2 (ho i h)) e2 i hi)
  · intro h
    have e2 : df (fun i => f i ^^^ g i) n = 0 := df_zero _ n fun i hi => (hx0 _ _).2 (h i hi)
    rw [← df_eq, hx0] at e2
    rw [e2]
end Go.Proofs.Ytikkgfmhnmoalaa.octet
/- There and back, and what a changed byte does: pure. -/
namespace Go.Proofs.Ytikkgfmhnmoalaa.pg
open Go.ChangeShapes Go.WideShapes Go.ChangeAt Go.RowKit
set_option linter.unusedVariables false
set_option linter.unusedSimpArgs false
set_option maxRecDepth 100000
theorem has_self (L : List Nat) : Has (fl L) L.length 0 L := ⟨by omega, fun i b hb => by unfold fl; rw [Nat.zero_add, List.getD_eq_getElem?_getD, hb]; rfl⟩
theorem has_same {f g : Nat → Nat} {n k : Nat} {L : List Nat} (h : Has f n k L) (e : ∀ i, k ≤ i → i < k + L.length → f i = g i) : Has g n k L := ⟨h.1, fun i b hb => by rw [← e (k + i) (by omega) (by have := (List.getElem?_eq_some_iff.mp hb).1; omega)]; exact h.2 i b hb⟩
theorem crc_congr {f g : Nat → Nat} : ∀ n, (∀ i, i < n → f i = g i) → octet.crc f n = octet.crc g n
  | 0, _ => rfl
  | n + 1, h => by
    unfold octet.crc
    rw [crc_congr n (fun i hi => h i (by omega)), h n (by omega)]
theorem sameB_has {f : Nat → Nat} (hf : ∀ i, f i < 256) {L : List Nat} (hL : Bt L) (k : Nat) : octet.sameB (fun i => f (k + i)) L.length (fl L) L.length = true ↔ ∀ (i b : Nat), L[i]? = some b → f (k + i) = b := by
  rw [octet.sameB_iff _ _ _ _ (fun i => hf _) (fl_lt hL)]
  constructor
  · rintro ⟨_, h⟩ i b hb
    rw [h i (List.getElem?_eq_some_iff.mp hb).1]
    unfold fl
    rw [List.getD_eq_getElem?_getD, hb]; rfl
  · intro h
    refine ⟨rfl, fun i hi => ?_⟩
    rw [h i L[i] (List.getElem?_eq_getElem hi)]
    unfold fl
    rw [List.getD_eq_getElem?_getD, List.getElem?_eq_getElem hi]; rfl
theorem bt_magW : Bt magW := by intro b hb; simp at hb; omega
theorem magB_iff {f : Nat → Nat} (hf : ∀ i, f i < 256) {n : Nat} : magB f n = true ↔ Has f n 0 magW := by
  unfold magB
  have e : octet.sameB f 4 (fl magW) 4 = octet.sameB (fun i => f (0 + i)) 4 (fl magW) 4 := by simp only [Nat.zero_add]
  rw [Bool.and_eq_true, decide_eq_true_eq, e]
  have := sameB_has hf bt_magW 0
  constructor
  · rintro ⟨h1, h2⟩
    exact ⟨by show 0 + 4 ≤ n; omega, this.mp h2⟩
  · rintro ⟨h1, h2⟩
    exact ⟨by have : 0 + 4 ≤ n := h1; omega, this.mpr h2⟩
theorem sumOf_lt (f : Nat → Nat) (n : Nat) : sumOf f n < 4294967296 := by unfold sumOf; omega
theorem sumK_iff {f : Nat → Nat} (hf : ∀ i, f i < 256) {n : Nat} (hn : 4 ≤ n) : sumK f n = true ↔ Has f n (n - 4) (sumB (sumOf f (n - 4))) := by
  unfold sumK
  have := sameB_has hf (bt_sum _ (sumOf_lt f (n - 4))) (n - 4)
  constructor
  · intro h
    exact ⟨by show n - 4 + 4 ≤ n; omega, this.mp h⟩
  · rintro ⟨h1, h2⟩
    exact this.mpr h2
theorem unf_ok {f : Nat → Nat} (hf : ∀ i, f i < 256) {n : Nat} (h1 : n ≤ 65536) (h2 : 12 ≤ n) (h3 : Has f n 0 magW) (h4 : Has f n (n - 4) (sumB (sumOf f (n - 4)))) : unfP f n = (0, 0) := by
  unfold unfP
  rw [if_neg (by omega), if_neg (by rw [(magB_iff hf).mpr h3]; simp), if_neg (by omega), if_neg (by rw [(sumK_iff hf (by omega)).mpr h4]; simp)]
theorem big4 (g : Nat → Nat) : octet.big g 4 = ((g 0 * 256 + g 1) * 256 + g 2) * 256 + g 3 := by simp [octet.big]
theorem sumB_big {f : Nat → Nat} {n k x : Nat} (hx : x < 4294967296) (h : Has f n k (sumB x)) : octet.big (fun i => f (k + i)) 4 = x := by
  rw [big4]
  have e0 := h.2 0 _ rfl
  have e1 := h.2 1 _ rfl
  have e2 := h.2 2 _ rfl
  have e3 := h.2 3 _ rfl
  simp only [e0, e1, e2, e3]
  omega
theorem part_has {f : Nat → Nat} {n k : Nat} {L : List Nat} (h : Has f n (8 + k) L) (hl : 8 + k + L.length ≤ n - 4) : Has (partF f) (n - 12) k L := ⟨by omega, fun i b hb => by show f (8 + (k + i)) = b; rw [← Nat.add_assoc]; exact h.2 i b hb⟩
theorem has_part {f : Nat → Nat} {n k : Nat} {L : List Nat} (h : Has (partF f) (n - 12) k L) (hn : 12 ≤ n) : Has f n (8 + k) L := ⟨by have := h.1; omega, fun i b hb => by rw [Nat.add_assoc]; exact h.2 i b hb⟩
/-- Its numbers ahead of how many picks there are. -/
def Wi.head10 (M : Wi) : List (Int × Int × Int) := [(1, 5, M.kd), (0, 64, M.af), (0, 64, M.ap), (0, 64, M.bf), (0, 64, M.bp), (0, 255, M.nm), (0, 255, M.wy), (0, 256, M.st), (0, 4096, M.fu), (0, 65536, M.ru)]
theorem nums_split (M : Wi) : M.nums = M.head10 ++ ([(0, 256, (M.pk.length : Int))] ++ pairs M.pk) := rfl
theorem ok_bnd {M : Wi} (h : M.ok = true) : ∀ x ∈ M.nums, 0 ≤ x.1 ∧ x.1 ≤ x.2.2 ∧ x.2.2 ≤ x.2.1 ∧ x.2.1 ≤ 65536 := fun x hx => by
  obtain ⟨h1, h2⟩ := ok_all h hx
  refine ⟨?_, h1, h2, ?_⟩
  all_goals
    clear h1 h2
    unfold Wi.nums at hx
    rcases List.mem_append.mp hx with q | q
    · simp only [Wi.head, List.mem_cons, List.not_mem_nil, or_false] at q
      rcases q with rfl | rfl | rfl | rfl | rfl | rfl | rfl | rfl | rfl | rfl | rfl <;> simp
    · unfold pairs at q
      obtain ⟨p, _, hp⟩ := List.mem_flatMap.mp q
      simp only [List.mem_cons, List.not_mem_nil, or_false] at hp
      rcases hp with rfl | rfl <;> simp
theorem pairs_bnd (l : List (Int × Int)) : (pairs l).map (fun x => (x.1, x.2.1)) = repB l.length := by
  induction l with
  | nil => rfl
  | cons a t ih =>
    rw [List.length_cons, repB_more, ← ih]
    rfl
theorem pairs_val (l : List (Int × Int)) : (pairs l).map (fun x => x.2.2) = l.flatMap fun p => [p.1, p.2] := by
  induction l with
  | nil => rfl
  | cons a t ih =>
    rw [List.flatMap_cons, ← ih]
    rfl
/-- A right witness's bytes are read as it was. -/
theorem back_pure (M : Wi) (h0 : 0 ≤ M.s) (h1 : M.s < 4294967296) (hok : M.ok = true) : (unfP (fl M.bytes) M.bytes.length).1 = 0 ∧ rdE (fl M.bytes) M.bytes.length = (0, 0) ∧ rdM (fl M.bytes) M.bytes.length = { M with pk := [] } ∧ (rdP (partF (fl M.bytes)) (M.bytes.length - 12) (rdL (partF (fl M.bytes)) (M.bytes.length - 12) headB 0 0).at_ (rdL (partF (fl M.bytes)) (M.bytes.length - 12) headB 0 0).k).vs = M.pk.flatMap fun p => [p.1, p.2] := by
  have hbt : Bt M.bytes := bt_app (bt_body M h0 h1) (bt_sum _ (sumOf_lt _ _))
  have hf := fl_lt hbt
  have hs := has_self M.bytes
  have hbl := body_len hok
  have hl : M.bytes.length = M.body.length + 4 := by unfold Wi.bytes; rw [List.length_append]; rfl
  generalize hfe : fl M.bytes = f at *
  generalize hne : M.bytes.length = n at *
  have hs' : Has f n 0 (M.body ++ sumB (sumOf (fl M.body) M.body.length)) := hs
  obtain ⟨a1, a2⟩ := Has.app.mp hs'
  rw [Nat.zero_add] at a2
  have hbf : ∀ i, i < M.body.length → fl M.body i = f i := fun i hi => by
    have := a1.2 i M.body[i] (List.getElem?_eq_getElem hi)
    rw [Nat.zero_add] at this
    rw [this]
    unfold fl
    rw [List.getD_eq_getElem?_getD, List.getElem?_eq_getElem hi]; rfl
  have hse : sumOf (fl M.body) M.body.length = sumOf f M.body.length := by unfold sumOf; rw [crc_congr _ hbf]
  rw [hse] at a2
  have hm : n - 4 = M.body.length := by omega
  have a1' : Has f n 0 ((magW ++ sumB M.s.toNat) ++ M.nums.flatMap fun x => numB x.2.2) := a1
  obtain ⟨b1, b2⟩ := Has.app.mp a1'
  obtain ⟨c1, c2⟩ := Has.app.mp b1
  have hbody : M.body.length = 8 + (M.nums.flatMap fun x => numB x.2.2).length := by unfold Wi.body; rw [List.length_append]; rfl
  have hu := unf_ok hf (n := n) (by omega) (by omega) c1 (by rw [hm]; exact a2)
  have hsum : sumW f = M.s.toNat := sumB_big (by omega) (k := 4) c2
  have p0 : Has (partF f) (n - 12) 0 (M.nums.flatMap fun x => numB x.2.2) := part_has b2 (by omega)
  rw [nums_split, List.flatMap_append, List.flatMap_append] at p0
  obtain ⟨p1, p2⟩ := Has.app.mp p0
  obtain ⟨p3, p4⟩ := Has.app.mp p2
  have hb := ok_bnd hok
  rw [nums_split] at hb
  obtain ⟨r1, r2, r3⟩ := rdL_has (f := partF f) (n := n - 12) M.head10 0 0 (fun x hx => hb x (by simp [hx])) p1
  have e1 : M.head10.map (fun x => (x.1, x.2.1)) = headB := rfl
  rw [e1] at r1 r2 r3
  generalize hR1 : rdL (partF f) (n - 12) headB 0 0 = R1 at *
  rw [Nat.zero_add] at r3 p3
  rw [← r3] at p3 p4
  rw [Nat.zero_add] at p4
  obtain ⟨s1, s2, s3⟩ := rdL_has (f := partF f) (n := n - 12) [(0, 256, (M.pk.length : Int))] R1.at_ R1.k (fun x hx => hb x (by simp at hx; simp [hx])) p3
  have e2 : ([((0 : Int), (256 : Int), (M.pk.length : Int))].map fun x => (x.1, x.2.1)) = [(0, 256)] := rfl
  rw [e2] at s1 s2 s3
  rw [← s3] at p4
  obtain ⟨t1, t2, t3⟩ := rdL_has (f := partF f) (n := n - 12) (pairs M.pk) (rdL (partF f) (n - 12) [(0, 256)] R1.at_ R1.k).at_ (rdL (partF f) (n - 12) [(0, 256)] R1.at_ R1.k).k (fun x hx => hb x (by simp [hx])) p4
  rw [pairs_bnd] at t1 t2 t3
  have hP : rdP (partF f) (n - 12) R1.at_ R1.k = rdL (partF f) (n - 12) (repB M.pk.length) (rdL (partF f) (n - 12) [(0, 256)] R1.at_ R1.k).at_ (rdL (partF f) (n - 12) [(0, 256)] R1.at_ R1.k).k := by
    unfold rdP
    rw [if_pos s1, s2]
    rfl
  rw [hP]
  have hk : (rdL (partF f) (n - 12) (repB M.pk.length) (rdL (partF f) (n - 12) [(0, 256)] R1.at_ R1.k).at_ (rdL (partF f) (n - 12) [(0, 256)] R1.at_ R1.k).k).k = n - 12 := by
    rw [t3, s3, r3]
    rw [nums_split, List.flatMap_append, List.flatMap_append, List.length_append, List.length_append] at hbody
    omega
  refine ⟨by rw [hu], ?_, ?_, by rw [t2, pairs_val]⟩
  · unfold rdE
    rw [if_neg (by rw [hu]; simp), hR1, hP, if_neg (by rw [r1]; simp), if_neg (by rw [t1]; simp), hk, if_neg (by omega)]
  · unfold rdM
    rw [hR1, hsum, r2, show ((M.s.toNat : Nat) : Int) = M.s by omega]
    rfl
end Go.Proofs.Ytikkgfmhnmoalaa.pg
