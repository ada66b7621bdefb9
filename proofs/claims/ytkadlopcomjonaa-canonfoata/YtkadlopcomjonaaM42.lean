/- Foata's levels, by the document: walked. -/
import Derived.Test.YtkadlopcomjonaaM41
import Derived.Test.YtkadlopcomjonaaM32
import Derived.Test.YtkadlopcomjonaaM33
import Derived.Test.YtkadlopcomjonaaM23
namespace Go.Proofs.Ytkadlopcomjonaa.pg
open Go.ChangeShapes Go.WideShapes Go.ChangeAt Go.RowKit Go.Shelf
set_option linter.unusedVariables false
set_option linter.unusedSimpArgs false
set_option maxRecDepth 100000
set_option maxHeartbeats 1000000 in
theorem rlevels_bad (l : List Ev) (la : Option Addr) (lc : Nat) (w : World) (hl : Rows w 26 la lc (l.map Ev.cells)) (c : Int) (hc : checkP l c) (h0 : c = 2 ∨ c = 7) :
    Calls Try.prog 22 #[.slice la l.length lc] w fun e w' => e = .returned (.tuple #[.slice none 0 0, .int .i64 c]) ∧ Below w.heap.size w w' := by
  have c1 := rcheck_any l la lc w hl c hc
  have d : (c != 0) = true := by rcases h0 with rfl | rfl <;> rfl
  clear hl hc h0
  go_enter Try.func22, Try.ntmps22
  go_wp2_with (go_at_call 13; (with_reducible refine c1.mono ?_); rintro e w1 ⟨rfl, hb1⟩; (have hbH : Hid (Below w.heap.size w w1) := hb1); clear hb1)
  go_ret2
  exact ⟨rfl, hbH.out⟩
set_option maxHeartbeats 8000000 in
theorem rlevels_ok (l : List Ev) (la : Option Addr) (lc : Nat) (w : World) (hl : Rows w 26 la lc (l.map Ev.cells)) (hlen : l.length ≤ 256) (hrt : ∀ x ∈ l, rightP x) {B : Nat → Nat → Bool} (hB : Tells (dpf l) B) (hf : Nat → Int) (H : Nat) (hT : LvT l B hf H) :
    Calls Try.prog 22 #[.slice la l.length lc] w fun e w' => ∃ (va : Option Addr) (vc : Nat), e = .returned (.tuple #[.slice va H vc, .int .i64 0]) ∧ Hid (Mx w' va vc H (lvL l hf) ∧ Below w.heap.size w w') := by
  have c1 := rcheck_any l la lc w hl 0 (.inr (.inr ⟨hlen, hrt, rfl⟩))
  have cM : ∀ wx, Below w.heap.size w wx → Calls Try.prog 50 #[.slice la l.length lc] wx _ := fun wx hb => rbef_any l la lc wx (hl.later hb) hlen B hB
  have hlI : (l.length : Int) ≤ 256 := by omega
  have hvb : Hid (∀ j, j < l.length → vC hf B j j = hf j ∧ ∀ k, k ≤ j → 0 ≤ vC hf B j k ∧ vC hf B j k ≤ hf j) := fun j hj => vC_is hB hT.1 hj
  have hHl : Hid (H ≤ l.length) := top_le hB hT.1 hT.2
  have hfp : Hid (∀ j, j < l.length → 0 ≤ hf j ∧ hf j + 1 ≤ H) := fun j hj => ⟨hT.1.pos j hj, hT.2.top j hj⟩
  have hmst : Hid (mst hf l.length = (H : Int)) := top_mst hT.2 hT.1.pos
  have hgo : Hid (∀ j, j < l.length → (evf l j).go = ((gof l j : Nat) : Int)) := fun j hj => by
    have := (hrt _ (List.mem_of_getElem? (evf_at hj))).1.1
    show _ = _
    unfold gof
    omega
  have hlH : Hid (Rows w 26 la lc (l.map Ev.cells)) := hl
  obtain ⟨iN, hiN, hzN, hsN, hbN⟩ := info_q infoN_u
  obtain ⟨iS, hiS, hzS, hsS, hbS⟩ := info_q infoSi
  have iNH : Hid (Try.prog.info? 3 = some iN ∧ iN.zero = some (.int .i64 0) ∧ iN.size = 1 ∧ iN.bytes = 8 ∧ iN.bytes * l.length ≤ 281474976710656) := ⟨hiN, hzN, hsN, hbN, by rw [hbN]; omega⟩
  have iSH : Hid (Try.prog.info? 39 = some iS ∧ iS.zero = some (.slice none 0 0) ∧ iS.size = 1 ∧ iS.bytes = 24) := ⟨hiS, hzS, hsS, hbS⟩
  have hlenH : Hid (l.length ≤ 256) := hlen
  have hHI : (H : Int) ≤ 256 := by have := hHl.out; omega
  clear hl hB hrt hiN hzN hsN hbN hiS hzS hsS hbS hT
  go_enter Try.func22, Try.ntmps22
  go_wp2_with (first
    | (go_at_call 13; (with_reducible refine c1.mono ?_); rintro e w0 ⟨rfl, hb0⟩; (have hbH : Hid (Below w.heap.size w w0) := hb0); clear hb0 c1)
    | (go_at_call 50; (refine (cM _ hbH.out).mono ?_); rintro e w1 ⟨M, rb, rfl, hm'⟩; (have hm : Hid (RbS w0 w1 M l.length l.length rb B) := hm'); clear hm' cM)
    | (refine wpList_mk _ rfl _ _ 39 rfl 3 iN (.int .i64 0) Try.underlying39 iNH.out.1 iNH.out.2.1 rfl iNH.out.2.2.1 l.length rfl rfl iNH.out.2.2.2.2 (by omega) ?_; intro W hwh hbW hsW))
  have s0 : Hid (IntK w1 W w1.heap.size (lgT hf l.length 0)) := ⟨by rw [hwh, lgT_zero], hbW, Nat.le_refl _⟩
  have hm0 : mst hf 0 = 0 := rfl
  have hbw1 : Hid (Below w.heap.size w w1) := bthen hbH.out hm.out.b
  obtain ⟨A, hA⟩ : ∃ A, w1.heap.size = A := ⟨_, rfl⟩
  rw [hA] at s0 ⊢
  clear hA hwh hbW hsW hbH
  go_loopw [7, 27] (fun m u wr => ∃ j : Nat, j ≤ l.length ∧ u = .int .i64 j ∧ m = .int .i64 (mst hf j) ∧ Hid (IntK w1 wr A (lgT hf l.length j))) (fun _ u _ => l.length - (intOf u).toNat)
  case atStart => exact ⟨0, Nat.zero_le _, rfl, by rw [hm0], s0⟩
  case round =>
    obtain ⟨j, hj, rfl, rfl, hs⟩ := hrel
    clear s0 hm0
    by_cases hlt : j < l.length
    · have hjI : (j : Int) < l.length := by omega
      have s2 : Hid (IntK w1 wr A ((lgT hf l.length j).set j (vC hf B j 0))) := by
        show IntK w1 wr A ((lgT hf l.length j).set j 0)
        rw [lgT_set0 hlt]; exact hs.out
      clear hs
      go_wp2_with fail
      go_loopw [9] (fun u wq => ∃ k : Nat, k ≤ j ∧ u = .int .i64 k ∧ Hid (IntK w1 wq A ((lgT hf l.length j).set j (vC hf B j k)))) (fun u _ => j - (intOf u).toNat)
      case atStart => exact ⟨0, Nat.zero_le _, rfl, s2⟩
      case round =>
        rename World => wq
        obtain ⟨k, hk, rfl, hs3⟩ := hrel
        clear s2
        have xJ := ix_int A l.length j hlt
        have hll : ((lgT hf l.length j).set j (vC hf B j k)).length = l.length := by rw [List.length_set, lgT_len]
        have cJ := hs3.out.cell (j := j) (by rw [hll]; exact hlt)
        have eJ : ((lgT hf l.length j).set j (vC hf B j k)).getD j 0 = vC hf B j k := by rw [getD_set0 _ _ _ (by rw [lgT_len]; exact hlt), if_pos rfl]
        rw [eJ] at cJ
        by_cases hkt : k < j
        · have hkI : (k : Int) < j := by omega
          have hmW := hm.out.m.later hs3.out.b
          have xA := ix_row M l.length k (by omega)
          have rA := hmW.row (i := k) (by omega) (by omega)
          have xR := ix_bool (rb k) l.length j hlt
          have cR := (hmW.cell (i := k) (j := j) (by omega) hlt).1
          have cI := hs3.out.cell (j := k) (by rw [hll]; omega)
          have eI : ((lgT hf l.length j).set j (vC hf B j k)).getD k 0 = hf k := by rw [getD_set0 _ _ _ (by rw [lgT_len]; exact hlt), if_neg (by omega), lgT_get (by omega), if_pos (by omega)]
          rw [eI] at cI
          have xI := ix_int A l.length k (by omega)
          have hfk := hfp.out k (by omega)
          have hvk := ((hvb.out j hlt).2 k (by omega))
          have hfj := hfp.out j hlt
          have hmore : Hid (vC hf B j (k + 1) = if B k j = true ∧ vC hf B j k ≤ hf k then hf k + 1 else vC hf B j k) := rfl
          have hw3 : wrap64 (hf k + 1) = hf k + 1 := by simp only [wrap64]; omega
          have nx : Hid (∀ (v : Int) nq W', W' = (wq.drewN nq).setCell ⟨A, j, none⟩ (.int .i64 v) → IntK w1 W' A ((lgT hf l.length j).set j v)) := fun v nq W' e => by
            have := (hs3.out.later (below_drewN (Below.refl _ _) nq)).set j v
            rw [List.set_set] at this
            rw [e]; exact this
          obtain ⟨P, hP⟩ : ∃ P, B k j = P := ⟨_, rfl⟩
          rw [hP] at cR hmore
          have cI1 := cI.1
          have cJ1 := cJ.1
          have cJ2 := cJ.2
          clear hmW eI eJ cI cJ hll hP
          generalize vC hf B j k = v at *
          generalize hf k = hi at *
          cases P with
          | false =>
            have hN : Hid (vC hf B j (k + 1) = v) := by show _ = _; rw [hmore.out, if_neg (fun q => Bool.false_ne_true q.1)]
            clear hmore
            go_wp2_with fail
            go_quiet (fail)
            rename_i nq
            go_wp2
            go_roundw
            case rel => exact ⟨k + 1, by omega, by go_num, by rw [hN.out]; exact hs3.out.later (below_drewN (Below.refl _ _) nq)⟩
            case measure => simp [intOf]; omega
          | true =>
            by_cases hv : v ≤ hi
            · have hN : Hid (vC hf B j (k + 1) = hi + 1) := by show _ = _; rw [hmore.out, if_pos ⟨rfl, hv⟩]
              clear hmore
              have hd : decide (v ≤ hi) = true := by simpa using hv
              go_wp2_with fail
              go_quiet (fail)
              rename_i nq
              have cI3 : (wq.drewN nq).cell? ⟨A, k, none⟩ = some (.int .i64 hi) := cI1
              have cJ3 : (wq.drewN nq).cell? ⟨A, j, none⟩ = some (.int .i64 v) := cJ1
              have cJ4 : (wq.drewN nq).frozen? ⟨A, j, none⟩ = false := cJ2
              go_wp2_with (refine wpList_puti rfl 3 _ _ rfl ⟨A, j, none⟩ rfl (hi + 1) (by first | rfl | (show Value.int .i64 (wrap64 (hi + 1)) = _; rw [hw3])) (by kernel_rfl) _ cJ3 cJ4 ?_; intro W2 hW2; (have s5 : Hid (IntK w1 W2 A ((lgT hf l.length j).set j (hi + 1))) := nx.out _ _ W2 hW2); clear hW2 nx)
              go_roundw
              case rel => exact ⟨k + 1, by omega, by go_num, by rw [hN.out]; exact s5⟩
              case measure => simp [intOf]; omega
            · have hN : Hid (vC hf B j (k + 1) = v) := by show _ = _; rw [hmore.out, if_neg (fun q => hv q.2)]
              have hd : decide (v ≤ hi) = false := by simpa using hv
              clear hmore hv
              go_wp2_with fail
              go_quiet (fail)
              rename_i nq
              go_wp2
              go_roundw
              case rel => exact ⟨k + 1, by omega, by go_num, by rw [hN.out]; exact hs3.out.later (below_drewN (Below.refl _ _) nq)⟩
              case measure => simp [intOf]; omega
        · have hk2 : k = j := by omega
          subst hk2
          have hvj := (hvb.out k hlt).1
          have s5 : Hid (IntK w1 wq A (lgT hf l.length (k + 1))) := by
            have := hs3.out
            rwa [lgT_more hlt hvj] at this
          have cJ1 : wq.cell? ⟨A, k, none⟩ = some (.int .i64 (hf k)) := by rw [cJ.1, hvj]
          have hmm : Hid (mst hf (k + 1) = if mst hf k < hf k + 1 then hf k + 1 else mst hf k) := rfl
          have hfk := hfp.out k hlt
          clear cJ eJ hll hvj hs3
          obtain ⟨mm, hmj⟩ : ∃ mm, mst hf k = mm := ⟨_, rfl⟩
          have hmm2 : Hid (mst hf (k + 1) = if mm < hf k + 1 then hf k + 1 else mm) := by show _ = _; rw [hmm.out, hmj]
          rw [hmj]
          clear hmm hmj
          have hw3 : wrap64 (hf k + 1) = hf k + 1 := by simp only [wrap64]; omega
          generalize hf k = hv at *
          by_cases hmv : mm ≤ hv
          · have hN : Hid (mst hf (k + 1) = hv + 1) := by show _ = _; rw [hmm2.out, if_pos (by omega)]
            have hd : decide (mm ≤ hv) = true := by simpa using hmv
            clear hmm2
            go_wp2
            go_roundw
            case rel => exact ⟨k + 1, by omega, by go_num, by rw [hN.out], s5⟩
            case measure => simp [intOf]; omega
          · have hN : Hid (mst hf (k + 1) = mm) := by show _ = _; rw [hmm2.out, if_neg (by omega)]
            have hd : decide (mm ≤ hv) = false := by simpa using hmv
            clear hmm2
            go_wp2
            go_roundw
            case rel => exact ⟨k + 1, by omega, by go_num, by rw [hN.out], s5⟩
            case measure => simp [intOf]; omega
    · have hj2 : j = l.length := by omega
      subst hj2
      rw [hmst.out]
      have hsA : Hid (IntK w1 wr A (lgT hf l.length l.length)) := hs
      have m0 : Hid (RfM wr wr 0 none 0 (fun _ => none) (fun _ => 0) (lvL l hf) none 0 []) := ⟨own_nil_q _ _ _ _, fun k hk => absurd hk (by omega), own_nil_q _ _ _ _, fun k hk => absurd hk (by omega), Below.refl _ _⟩
      clear hs hm hvb
      go_wp2_with fail
      go_loopw [10, 11] (fun o u wq => ∃ (N : Nat) (va : Option Addr) (vc : Nat) (pa : Nat → Option Addr) (pc : Nat → Nat), N ≤ H ∧ o = .slice va N vc ∧ u = .int .i64 (N : Int) ∧ Hid (RfM wr wq N va vc pa pc (lvL l hf) none 0 [])) (fun _ u _ => H - (intOf u).toNat)
      case atStart => exact ⟨0, _, _, _, _, Nat.zero_le _, rfl, rfl, m0⟩
      case round =>
        rename World => wq
        obtain ⟨N, va, vc, pa, pc, hN, rfl, rfl, hmq⟩ := hrel
        clear m0
        by_cases hNH : N < H
        · have hNI : (N : Int) < H := by omega
          have hm0 : Hid (RfM wr wq N va vc pa pc (lvL l hf) none 0 (rwI l hf N 0 0)) := hmq.out.congr (fun _ _ => rfl) (rwI_zero l hf N).symm
          have hl0 : (rwI l hf N 0 0).length = 0 := by rw [rwI_zero]; rfl
          clear hmq
          go_wp2_with fail
          go_loopw [12, 13] (fun o u wz => ∃ (a : Nat) (ra : Option Addr) (rc : Nat), a ≤ 6 ∧ o = .slice ra (rwI l hf N a 0).length rc ∧ u = .int .i64 (a : Int) ∧ Hid (RfM wr wz N va vc pa pc (lvL l hf) ra rc (rwI l hf N a 0))) (fun _ u _ => 6 - (intOf u).toNat)
          case atStart => exact ⟨0, none, 0, Nat.zero_le _, by rw [hl0], rfl, hm0⟩
          case round =>
            rename World => wz
            obtain ⟨a, ra, rc, ha, rfl, rfl, hmz⟩ := hrel
            clear hm0 hl0
            by_cases ha6 : a < 6
            · have haI : (a : Int) < 6 := by omega
              have hm0 : Hid (RfM wr wz N va vc pa pc (lvL l hf) ra rc (rwI l hf N a 0)) := hmz
              clear hmz
              go_wp2_with fail
              go_loopw [12, 84] (fun o u wy => ∃ (i : Nat) (ra : Option Addr) (rc : Nat), i ≤ l.length ∧ o = .slice ra (rwI l hf N a i).length rc ∧ u = .int .i64 (i : Int) ∧ Hid (RfM wr wy N va vc pa pc (lvL l hf) ra rc (rwI l hf N a i))) (fun _ u _ => l.length - (intOf u).toNat)
              case atStart => exact ⟨0, ra, rc, Nat.zero_le _, rfl, rfl, hm0⟩
              case round =>
                rename World => wy
                obtain ⟨i, ra, rc, hi, rfl, rfl, hmy⟩ := hrel
                clear hm0
                by_cases hil : i < l.length
                · have hiI : (i : Int) < l.length := by omega
                  have xI := ix_int A l.length i hil
                  have cI := ((hsA.out.later hmy.out.b).cell (j := i) (by rw [lgT_len]; exact hil)).1
                  rw [lgT_get hil, if_pos hil] at cI
                  obtain ⟨b1, o1, x1, l1, r1⟩ := evs_ix (hlH.out.later (bthen (bthen hbw1.out hsA.out.b) hmy.out.b)) i (evf l i) (evf_at hil)
                  have c2 := r1 0 (.int .i64 (evf l i).go) rfl
                  rw [Nat.add_zero, hgo.out i hil] at c2
                  have hlen5 : Hid ((rwI l hf N a i).length ≤ 512) := rwI_len l hf N a i hlenH.out hi
                  by_cases hy : hf i = (N : Int)
                  · by_cases hg : gof l i = a
                    · have hyes : Hid (rwI l hf N a (i + 1) = rwI l hf N a i ++ [(i : Int)]) := rwI_yes hy hg
                      rw [hy] at cI
                      rw [hg] at c2
                      have d1 : ((N : Int) == (N : Int)) = true := by simp
                      have d2 : ((a : Int) == (a : Int)) = true := by simp
                      clear r1 hy hg
                      go_wp2_with (first
                        | (refine wpList_buildSlice rfl 39 3 1 _ rfl (chCells (i : Int)).toArray iN _ Try.underlying39 iNH.out.1 iNH.out.2.1 (by rw [iNH.out.2.2.1]; omega) (by rw [iNH.out.2.2.1]; omega) (by simp only [iNH.out.2.2.1]; kernel_rfl) ?_)
                        | (at_builtin; (refine wpList_app1 rfl (.tmp 102) (.tmp 104) 39 rfl wr.heap.size 3 iN _ 1 8 Try.underlying39 iNH.out.1 iNH.out.2.1 iNH.out.2.2.1 iNH.out.2.2.2.1 rfl (by decide) ra rc ((rwI l hf N a i).map chCells) (by rw [List.length_map]; rfl) hmy.out.x (chCells (i : Int)) rfl rfl (one1u _) (by rw [List.length_map]; have := hlen5.out; unfold maxLen; omega) (by rw [List.length_map]; have := hlen5.out; omega) hmy.out.b.size ?_); intro ra' rc' w3 hg; rw [List.length_map]; (have hg2 : Hid (RfM wr w3 N va vc pa pc (lvL l hf) ra' rc' (rwI l hf N a (i + 1)) ∧ (rwI l hf N a (i + 1)).length = (rwI l hf N a i).length + 1) := (by rw [hyes.out, List.length_append]; exact ⟨hmy.out.more hg, rfl⟩)); clear hg))
                      go_roundw
                      case rel => exact ⟨i + 1, ra', rc', by omega, by rw [hg2.out.2], by go_num, hg2.out.1⟩
                      case measure => simp [intOf]; omega
                    · have hno : Hid (rwI l hf N a (i + 1) = rwI l hf N a i) := rwI_no fun q => hg q.1
                      rw [hy] at cI
                      have d1 : ((N : Int) == (N : Int)) = true := by simp
                      have d2 : (((gof l i : Nat) : Int) == (a : Int)) = false := by simp; omega
                      have hmy2 : Hid (RfM wr wy N va vc pa pc (lvL l hf) ra rc (rwI l hf N a (i + 1))) := hmy.out.congr (fun _ _ => rfl) hno.out.symm
                      clear r1 hy hg hmy
                      go_wp2_with fail
                      go_roundw
                      case rel => exact ⟨i + 1, ra, rc, by omega, by rw [hno.out], by go_num, hmy2⟩
                      case measure => simp [intOf]; omega
                  · have hno : Hid (rwI l hf N a (i + 1) = rwI l hf N a i) := rwI_no fun q => hy q.2
                    have d1 : (hf i == (N : Int)) = false := by simpa using hy
                    have hmy2 : Hid (RfM wr wy N va vc pa pc (lvL l hf) ra rc (rwI l hf N a (i + 1))) := hmy.out.congr (fun _ _ => rfl) hno.out.symm
                    clear r1 hy hmy
                    go_wp2_with fail
                    go_roundw
                    case rel => exact ⟨i + 1, ra, rc, by omega, by rw [hno.out], by go_num, hmy2⟩
                    case measure => simp [intOf]; omega
                · have hie : i = l.length := by omega
                  subst hie
                  have hmy2 : Hid (RfM wr wy N va vc pa pc (lvL l hf) ra rc (rwI l hf N (a + 1) 0)) := hmy.out.congr (fun _ _ => rfl) (rwI_next l hf N a)
                  have hll : Hid ((rwI l hf N a l.length).length = (rwI l hf N (a + 1) 0).length) := by show _ = _; rw [rwI_next]
                  clear hmy
                  go_wp2_with fail
                  go_roundw
                  case rel => exact ⟨a + 1, ra, rc, by omega, by rw [← hll.out], by go_num, hmy2⟩
                  case measure => simp [intOf]; omega
            · have hae : a = 6 := by omega
              subst hae
              have hlen5 : Hid ((lvL l hf N).length = (rwI l hf N 6 0).length) := by show _ = _; rw [rwI_end]
              have hmz2 : Hid (RfM wr wz N va vc pa pc (lvL l hf) ra rc (rwI l hf N 6 0)) := hmz
              have hup : Hid (∀ k, k < N + 1 → updF (lvL l hf) N (rwI l hf N 6 0) k = lvL l hf k) := fun k _ => by
                by_cases c : k = N
                · subst c; rw [updF_at, rwI_end]
                · rw [updF_ne _ _ c]
              have hnn : Hid (N ≤ 256) := by have := hHl.out; have := hlenH.out; show N ≤ 256; omega
              have hsl : Hid (((slC N pa pc (lvL l hf)).map fun v => [v]).length = N) := by show _ = _; rw [List.length_map, slC_len]
              clear hmz
              generalize rwI l hf N 6 0 = RR at *
              go_wp2_with (first
                | (refine wpList_buildSlice rfl 44 39 1 _ rfl #[.slice ra RR.length rc] iS _ Try.underlying44 iSH.out.1 iSH.out.2.1 (by rw [iSH.out.2.2.1]; omega) (by rw [iSH.out.2.2.1]; omega) (by simp only [iSH.out.2.2.1]; kernel_rfl) ?_)
                | (at_builtin; (refine wpList_app1 rfl (.tmp 107) (.tmp 109) 44 rfl wr.heap.size 39 iS _ 1 24 Try.underlying44 iSH.out.1 iSH.out.2.1 iSH.out.2.2.1 iSH.out.2.2.2 rfl (by decide) va vc ((slC N pa pc (lvL l hf)).map fun v => [v]) (by rw [hsl.out]; rfl) hmz2.out.o [Value.slice ra RR.length rc] rfl rfl (by intro u hu; rw [List.mem_singleton] at hu; subst hu; rfl) (by rw [hsl.out]; have := hnn.out; unfold maxLen; omega) (by rw [hsl.out]; have := hnn.out; omega) hmz2.out.b.size ?_); intro va' vc' w3 hg; rw [hsl.out]; (have hg2 : Hid (RfM wr w3 (N + 1) va' vc' (updF pa N ra) (updF pc N rc) (lvL l hf) none 0 []) := (hmz2.out.row hg).congr hup.out rfl); clear hg))
              go_roundw
              case rel => exact ⟨N + 1, va', vc', _, _, by omega, rfl, by go_num, hg2⟩
              case measure => simp [intOf]; omega
        · have hNe : N = H := by omega
          subst hNe
          have hfin : Hid (Mx wq va vc N (lvL l hf) ∧ Below w.heap.size w wq) := ⟨hmq.out.told, bthen (bthen hbw1.out hsA.out.b) hmq.out.b⟩
          clear hmq
          go_wp2
          go_ret2
          exact ⟨va, vc, rfl, hfin⟩
end Go.Proofs.Ytkadlopcomjonaa.pg
/- Form and Levels on both sides: CanonForms, walked. -/
namespace Go.Proofs.Ytkadlopcomjonaa.pg
open Go.ChangeShapes Go.WideShapes Go.ChangeAt Go.RowKit Go.Shelf
set_option linter.unusedVariables false
set_option linter.unusedSimpArgs false
set_option maxRecDepth 100000
/-- A list of events in memory, no greater than memory. -/
def EvsZ (w : World) (b : Option Addr) (c : Nat) (l : List Ev) : Prop := EvsIn w b c l ∧ l.length * 208 ≤ reachBytes
section
variable {H : Type} {enc : TypeId × Value → H} {w : World} {base : Nat} {spare : Nat → Bool} {held : Bool}
theorem evs_zz {n : Nat} {a : Option Addr} {len cap : Nat} {y : DataW H × List MemPlace} (h : DataW.trod enc Try.prog w base spare held n 22 [.slice a len cap] = some y) (hs : Sz Try.prog 22 y.1) : ∃ l : List Ev, l.length = len ∧ EvsZ w a cap l := by
  obtain ⟨l, rfl, h1, h2, h3⟩ := rows_sz (k := 26) ev0 Ev.cells Ev.wf Try.underlying22 (by kernel_rfl) (by omega) (fun n cs y hl h _ => ev_in hl h) h hs
  have hb : Try.prog.bytesOf 70 = 208 := by kernel_rfl
  rw [hb] at h3
  exact ⟨l, rfl, ⟨h1, h2⟩, h3⟩
end
theorem sl_ix {w : World} {a : Option Addr} {cap N : Nat} {pa : Nat → Option Addr} {pc : Nat → Nat} {L : Nat → List Int} (h : Rows w 1 a cap ((slC N pa pc L).map fun v => [v])) (i : Nat) (hi : i < N) :
    ∃ b o, (∀ wx, (Instr.indexAt 44 (.slice a N cap) (.int .i64 (i : Int))).run Try.prog wx = .ok (.pointer (some ⟨b, o, none⟩)) wx) ∧ b < w.heap.size ∧ w.cell? ⟨b, o, none⟩ = some (.slice (pa i) (L i).length (pc i)) := by
  obtain ⟨b, o, hr, hlt, hc⟩ := h.ix 44 39 Try.underlying44 (by kernel_rfl) (fun wx => Try.sizeOf39 wx) i (row := [slv pa pc L i]) (by simp [slC, hi])
  rw [List.length_map, slC_len] at hr
  refine ⟨b, o, hr, hlt, ?_⟩
  have := hc 0 (slv pa pc L i) rfl
  rw [Nat.add_zero] at this
  exact this
set_option maxHeartbeats 1000000 in
theorem own_ok (l : List Ev) (la : Option Addr) (lc : Nat) (w : World) (hl : Rows w 26 la lc (l.map Ev.cells)) (hz : l.length * 208 ≤ reachBytes) :
    Calls Try.prog 18 #[.slice la l.length lc] w fun e w' => ∃ va vc, e = .returned (.slice va l.length vc) ∧ Hid (Rows w' 26 va vc (l.map Ev.cells) ∧ Below w.heap.size w w') := by
  obtain ⟨iE, hiE, hzE, hsE, hbE⟩ := info_q infoEv
  have hlen : Hid ((l.map Ev.cells).length = l.length) := by show _ = _; simp
  have hN : Hid (Rows w 26 la lc (l.map Ev.cells) ∧ l.length ≤ maxLen ∧ l.length * 208 ≤ 140737488355328) := by
    have h1 := rows_len hl
    unfold reachBytes at hz
    refine ⟨hl, by unfold maxLen; omega, by omega⟩
  have hk : Hid ((∀ row ∈ l.map Ev.cells, row.length = 26) ∧ ∀ row ∈ l.map Ev.cells, ∀ u ∈ row, u.oneCell' = true) := by
    refine ⟨fun row hr => ?_, fun row hr u hu => ?_⟩
    · obtain ⟨x, _, rfl⟩ := List.mem_map.mp hr; rfl
    · obtain ⟨x, _, rfl⟩ := List.mem_map.mp hr
      have := ev_one x
      rw [Array.all_eq_true_iff_forall_mem] at this
      exact this u (by simpa using hu)
  have hiH : Hid (Try.prog.info? 70 = some iE ∧ iE.zero = some (.agg stEvZ.cells.toArray) ∧ iE.size = 26 ∧ iE.bytes = 208) := ⟨hiE, hzE, hsE, hbE⟩
  clear hl hz hiE hzE hsE hbE
  go_enter Try.func18, Try.ntmps18
  go_wp2_with (at_builtin; (refine wpList_app rfl (.tmp 4) (.tmp 5) 22 rfl w.heap.size 70 iE _ 26 208 Try.underlying22 hiH.out.1 hiH.out.2.1 hiH.out.2.2.1 hiH.out.2.2.2 rfl (by decide) none 0 [] rfl (own_nil_q _ _ _ _) la lc (l.map Ev.cells) (by rw [hlen.out]; rfl) hN.out.1 hk.out.1 hk.out.2 (by rw [hlen.out]; simpa using hN.out.2.1) (by rw [hlen.out]; simpa using hN.out.2.2) (Nat.le_refl _) ?_); intro va' vc' w2 h1 h2 h3 h4; (have hq : Hid (Rows w2 26 va' vc' (l.map Ev.cells) ∧ Below w.heap.size w w2) := ⟨own_rows h1 hk.out.1, h3.mono (by omega)⟩); rw [List.nil_append, hlen.out]; clear h1 h2 h3 h4)
  go_ret
  exact ⟨va', vc', rfl, hq⟩
set_option maxHeartbeats 1000000 in
theorem sameRows_u (N : Nat) (L : Nat → List Int) (a b : Option Addr) (ca cb : Nat) (w : World) (ha : Mx w a ca N L) (hb : Mx w b cb N L) (hNI : (N : Int) ≤ 9223372036854775807) :
    Calls Try.prog 24 #[.slice a N ca, .slice b N cb] w fun e w' => e = .returned (.bool true) ∧ Below w.heap.size w w' := by
  obtain ⟨pa, pc, ha1, ha2⟩ := ha
  obtain ⟨qa, qc, hb1, hb2⟩ := hb
  have haH : Hid (Rows w 1 a ca ((slC N pa pc L).map fun v => [v]) ∧ ∀ k, k < N → Rows w 1 (pa k) (pc k) ((L k).map chCells)) := ⟨ha1, ha2⟩
  have hbH : Hid (Rows w 1 b cb ((slC N qa qc L).map fun v => [v]) ∧ ∀ k, k < N → Rows w 1 (qa k) (qc k) ((L k).map chCells)) := ⟨hb1, hb2⟩
  clear ha1 ha2 hb1 hb2
  go_enter Try.func24, Try.ntmps24
  go_wp2_with fail
  go_loopw [13] (fun u wr => ∃ k : Nat, k ≤ N ∧ u = .int .i64 k ∧ Hid (Below w.heap.size w wr)) (fun u _ => N - (intOf u).toNat)
  case atStart => exact ⟨0, Nat.zero_le _, rfl, Below.refl _ _⟩
  case round =>
    obtain ⟨k, hk, rfl, hbe⟩ := hrel
    by_cases hlt : k < N
    · have hkI : (k : Int) < N := by omega
      obtain ⟨b1, o1, x1, l1, c1⟩ := sl_ix (haH.out.1.later hbe.out) k hlt
      obtain ⟨b2, o2, x2, l2, c2⟩ := sl_ix (hbH.out.1.later hbe.out) k hlt
      have z1 : ∀ q : Cls (Bey wr), q.w.cell? ⟨b1, o1, none⟩ = some (.slice (pa k) (L k).length (pc k)) := fun q => bey_cell c1 q
      have z2 : ∀ q : Cls (Bey wr), q.w.cell? ⟨b2, o2, none⟩ = some (.slice (qa k) (L k).length (qc k)) := fun q => bey_cell c2 q
      have cD : ∀ q : Cls (Bey wr), Calls Try.prog 23 #[.slice (pa k) (L k).length (pc k), .slice (qa k) (L k).length (qc k)] q.w fun e w' => e = .returned (.bool true) ∧ Below q.w.heap.size q.w w' := fun q => sameInts_u (L k) (pa k) (qa k) (pc k) (qc k) q.w ((haH.out.2 k hlt).later (bthen hbe.out q.h)) ((hbH.out.2 k hlt).later (bthen hbe.out q.h))
      have hne := bey_some wr
      have hbn : Hid (∀ W', Below wr.heap.size wr W' → Below w.heap.size w W') := fun W' q => bthen hbe.out q
      clear c1 c2 l1 l2 hbe
      go_wp2_with fail
      refine wp_region_cls (Bey wr) (by kernel_rfl) (by kernel_rfl) (bey_drew wr) ?_
      repeat (go_big_quiet_step ((go_at_call 23; exact calls_bey (cD _))))
      refine wpQuiet_nil ?_
      intro _ hw'
      obtain ⟨sq, hw''⟩ := hw'
      subst hw''
      clear x1 x2 z1 z2 cD hne
      go_wp2
      go_roundw
      case rel => exact ⟨k + 1, by omega, by go_num, hbn.out _ sq.h⟩
      case measure => simp [intOf]; omega
    · have hke : k = N := by omega
      subst hke
      go_wp2
      go_ret
      exact ⟨rfl, hbe.out⟩
set_option maxHeartbeats 2000000 in
theorem forms_told (l : List Ev) (hwf : ∀ x ∈ l, x.wf) (la : Option Addr) (lc : Nat) (w : World) (hl : Rows w 26 la lc (l.map Ev.cells)) (hz : l.length * 208 ≤ reachBytes) (fs : List Int) (N : Nat) (hNI : (N : Int) ≤ 9223372036854775807) (L : Nat → List Int) (c : Int)
    (c1 : ∀ wx xa xc, Rows wx 26 xa xc (l.map Ev.cells) → Calls Try.prog 19 #[.slice xa l.length xc] wx fun e w' => ∃ va vc, e = .returned (.tuple #[.slice va fs.length vc, .int .i64 c]) ∧ Hid (Rows w' 1 va vc (fs.map chCells) ∧ Below wx.heap.size wx w'))
    (c2 : ∀ wx, Below w.heap.size w wx → Calls Try.prog 20 #[.slice la l.length lc] wx fun e w' => ∃ va vc, e = .returned (.tuple #[.slice va fs.length vc, .int .i64 c]) ∧ Hid (Rows w' 1 va vc (fs.map chCells) ∧ Below wx.heap.size wx w'))
    (c3 : ∀ wx xa xc, Rows wx 26 xa xc (l.map Ev.cells) → Calls Try.prog 21 #[.slice xa l.length xc] wx fun e w' => ∃ va vc, e = .returned (.tuple #[.slice va N vc, .int .i64 c]) ∧ Hid (Mx w' va vc N L ∧ Below wx.heap.size wx w'))
    (c4 : ∀ wx, Below w.heap.size w wx → Calls Try.prog 22 #[.slice la l.length lc] wx fun e w' => ∃ va vc, e = .returned (.tuple #[.slice va N vc, .int .i64 c]) ∧ Hid (Mx w' va vc N L ∧ Below wx.heap.size wx w')) :
    Calls Try.prog 4 #[.slice la l.length lc] w fun e w' => e = .returned (.bool true) ∧ Below w.heap.size w w' := by
  have c0 := own_ok l la lc w hl hz
  have c5 : ∀ wx a b ca cb, Rows wx 1 a ca (fs.map chCells) → Rows wx 1 b cb (fs.map chCells) → Calls Try.prog 23 #[.slice a fs.length ca, .slice b fs.length cb] wx _ := fun wx a b ca cb h1 h2 => sameInts_u fs a b ca cb wx h1 h2
  have c6 : ∀ wx a b ca cb, Mx wx a ca N L → Mx wx b cb N L → Calls Try.prog 24 #[.slice a N ca, .slice b N cb] wx _ := fun wx a b ca cb h1 h2 => sameRows_u N L a b ca cb wx h1 h2 hNI
  have c7 : ∀ wx a b ca cb, Rows wx 26 a ca (l.map Ev.cells) → Rows wx 26 b cb (l.map Ev.cells) → Calls Try.prog 25 #[.slice a l.length ca, .slice b l.length cb] wx _ := fun wx a b ca cb h1 h2 => sameEvs_u l hwf a b ca cb wx h1 h2
  have cS : ∀ wx, Calls Try.prog 26 #[] wx fun e w' => e = .returned (.bool true) ∧ Below wx.heap.size wx w' := fun wx => small_any wx
  have dc : (c == c) = true := by simp
  have hlH : Hid (Rows w 26 la lc (l.map Ev.cells)) := hl
  clear hl hz hwf hNI
  go_enter Try.func4, Try.ntmps4
  go_wp2_with (first
    | (go_at_call 18; (with_reducible refine c0.mono ?_); rintro e w1 ⟨xa, xc, rfl, h1⟩; (have k1 : Hid (Below w.heap.size w w1) := h1.out.2); clear c0)
    | (go_at_call 19; (refine (c1 _ xa xc h1.out.1).mono ?_); rintro e w2 ⟨fa, fc, rfl, h2⟩; (have k2 : Hid (Below w.heap.size w w2 ∧ Rows w2 26 xa xc (l.map Ev.cells)) := ⟨bthen k1.out h2.out.2, h1.out.1.later h2.out.2⟩); clear c1)
    | (go_at_call 20; (refine (c2 _ k2.out.1).mono ?_); rintro e w3 ⟨ga, gc, rfl, h3⟩; (have k3 : Hid (Below w.heap.size w w3 ∧ Rows w3 26 xa xc (l.map Ev.cells) ∧ Rows w3 1 fa fc (fs.map chCells)) := ⟨bthen k2.out.1 h3.out.2, k2.out.2.later h3.out.2, h2.out.1.later h3.out.2⟩); clear c2)
    | (go_at_call 21; (refine (c3 _ xa xc k3.out.2.1).mono ?_); rintro e w4 ⟨va, vc, rfl, h4⟩; (have k4 : Hid (Below w.heap.size w w4 ∧ Rows w4 26 xa xc (l.map Ev.cells) ∧ Rows w4 1 fa fc (fs.map chCells) ∧ Rows w4 1 ga gc (fs.map chCells)) := ⟨bthen k3.out.1 h4.out.2, k3.out.2.1.later h4.out.2, k3.out.2.2.later h4.out.2, h3.out.1.later h4.out.2⟩); clear c3)
    | (go_at_call 22; (refine (c4 _ k4.out.1).mono ?_); rintro e w5 ⟨ua, uc, rfl, h5⟩; (have k5 : Hid (Below w.heap.size w w5 ∧ Rows w5 26 xa xc (l.map Ev.cells) ∧ Rows w5 1 fa fc (fs.map chCells) ∧ Rows w5 1 ga gc (fs.map chCells) ∧ Mx w5 va vc N L ∧ Mx w5 ua uc N L) := ⟨bthen k4.out.1 h5.out.2, k4.out.2.1.later h5.out.2, k4.out.2.2.1.later h5.out.2, k4.out.2.2.2.later h5.out.2, h4.out.1.later h5.out.2, h5.out.1⟩); clear c4)
    | (go_at_call 23; (refine (c5 _ fa ga fc gc k5.out.2.2.1 k5.out.2.2.2.1).mono ?_); rintro e w6 ⟨rfl, h6⟩; (have k6 : Hid (Below w5.heap.size w5 w6) := h6); clear h6 c5)
    | (go_at_call 24; (refine (c6 _ va ua vc uc (k5.out.2.2.2.2.1.later k6.out) (k5.out.2.2.2.2.2.later k6.out)).mono ?_); rintro e w7 ⟨rfl, h7⟩; (have k7 : Hid (Below w5.heap.size w5 w7) := bthen k6.out h7); clear h7 c6)
    | (go_at_call 25; (refine (c7 _ xa la xc lc (k5.out.2.1.later k7.out) (hlH.out.later (bthen k5.out.1 k7.out))).mono ?_); rintro e w8 ⟨rfl, h8⟩; (have k8 : Hid (Below w5.heap.size w5 w8) := bthen k7.out h8); clear h8 c7)
    | (go_at_call 26; (with_reducible refine (cS _).mono ?_); rintro e w9 ⟨rfl, h9⟩; (have k9 : Hid (Below w.heap.size w w9) := bthen k5.out.1 (bthen k8.out h9)); clear h9 cS))
  go_ret
  exact ⟨rfl, k9.out⟩
theorem ord_ex {l : List Ev} (hlen : l.length ≤ 256) (hrt : ∀ x ∈ l, rightP x) {B : Nat → Nat → Bool} (hB : Tells (dpf l) B) : ∃ L, OrdL B (gof l) l.length L ∧ L.length = l.length := by
  have key : ∀ k, k ≤ l.length → ∃ L, OrdL B (gof l) l.length L ∧ L.length = k := by
    intro k
    induction k with
    | zero => intro _; exact ⟨[], OrdL.nil _ _ _, rfl⟩
    | succ k ih =>
      intro hk
      obtain ⟨L, h1, h2⟩ := ih (by omega)
      have hd := h1.lin.down hB
      have hc := cnt_memS (n := l.length) L h1.lin.nodup h1.lin.lt
      obtain ⟨i, i1, i2⟩ := free_some (B := B) (miss_some (S := memS L) (n := l.length) (by omega))
      have hm := (freeL_mem hB (ord_ok hrt) (fun k hk => gof_lt hrt hk) hd i).mpr ⟨i1, i2⟩
      cases hf : freeL B (gof l) l.length (cutS (gof l) l.length (memS L)) with
      | nil => rw [hf] at hm; cases hm
      | cons x xs =>
        have hp := freeL_pick hB (ord_ok hrt) (fun k hk => gof_lt hrt hk) hd hf
        exact ⟨L ++ [x], h1.snoc hp, by simp [h2]⟩
  exact key l.length (Nat.le_refl _)
theorem lvt_ex {l : List Ev} (hrt : ∀ x ∈ l, rightP x) {B : Nat → Nat → Bool} (hB : Tells (dpf l) B) : ∃ hf H, LvT l B hf H := by
  have h := hi_rel hrt hB
  have h0 : 0 ≤ (hfold l.length (rel (evf l) l.length).2).2 := by
    rcases h.hit with ⟨_, q⟩ | ⟨j, j1, j2⟩
    · omega
    · have := h.pos j j1; omega
  obtain ⟨H, hH⟩ := Int.eq_ofNat_of_zero_le h0
  refine ⟨fun j => (hfold l.length (rel (evf l) l.length).2).1.getD j 0, H, high_rel hrt hB, ⟨fun j hj => ?_, ?_⟩⟩
  · have h2 := h.top j hj
    rw [hH] at h2
    exact h2
  · rcases h.hit with ⟨q1, q2⟩ | ⟨j, j1, j2⟩
    · exact .inl ⟨q1, by omega⟩
    · refine .inr ⟨j, j1, ?_⟩
      rw [hH] at j2
      exact j2
theorem lvt_one {l : List Ev} {B : Nat → Nat → Bool} {h h' : Nat → Int} {H H' : Nat} (q : LvT l B h H) (q' : LvT l B h' H') : H = H' ∧ ∀ j, j < l.length → h j = h' j := by
  have e := q.1.le q'.1
  refine ⟨?_, e⟩
  rcases q.2.hit with ⟨a1, a2⟩ | ⟨j, a1, a2⟩
  · rcases q'.2.hit with ⟨b1, b2⟩ | ⟨i, b1, b2⟩
    · omega
    · omega
  · have h1 := q'.2.top j a1
    have h2 := e j a1
    rcases q'.2.hit with ⟨b1, b2⟩ | ⟨i, b1, b2⟩
    · omega
    · have h3 := q.2.top i b1
      have h4 := e i b1
      omega
theorem lvL_congr {l : List Ev} {h h' : Nat → Int} (e : ∀ j, j < l.length → h j = h' j) (k : Nat) : lvL l h k = lvL l h' k := by
  unfold lvL lvRow
  congr 1
  have key : ∀ a, lvTo (gof l) l.length h (k : Int) a = lvTo (gof l) l.length h' (k : Int) a := by
    intro a
    induction a with
    | zero => rfl
    | succ a ih =>
      rw [lvTo, lvTo, ih]
      congr 1
      unfold lvA
      refine List.filter_congr fun x hx => ?_
      have : x < l.length := by
        unfold plc at hx
        exact List.mem_range.mp (List.mem_filter.mp hx).1
      rw [e x this]
  exact key 6
theorem mx_congr {w : World} {va : Option Addr} {vc N : Nat} {L L' : Nat → List Int} (h : Mx w va vc N L) (e : ∀ k, k < N → L k = L' k) : Mx w va vc N L' := by
  obtain ⟨pa, pc, h1, h2⟩ := h
  exact ⟨pa, pc, by rw [← slC_congr e]; exact h1, fun k hk => by rw [← e k hk]; exact h2 k hk⟩
theorem mx_nil (w : World) (L : Nat → List Int) : Mx w none 0 0 L := ⟨fun _ => none, fun _ => 0, ⟨by simp [slC], by simp, by simp [slC], .inl (by simp [slC])⟩, fun k hk => absurd hk (by omega)⟩
theorem cforms_any (l : List Ev) (la : Option Addr) (lc : Nat) (w : World) (hl : EvsZ w la lc l) : Calls Try.prog 4 #[.slice la l.length lc] w fun e w' => e = .returned (.bool true) ∧ Below w.heap.size w w' := by
  obtain ⟨⟨hr, hwf⟩, hz⟩ := hl
  obtain ⟨c, hc⟩ := check_ex l
  by_cases h0 : c = 2 ∨ c = 7
  · refine forms_told l hwf la lc w hr hz [] 0 (by omega) (fun _ => []) c ?_ ?_ ?_ ?_
    · intro wx xa xc h
      exact (form_bad l xa xc wx h c hc h0).mono fun e w' ⟨he, hb⟩ => ⟨none, 0, he, ⟨rows_nil1 w', hb⟩⟩
    · intro wx hb
      exact (rform_bad l la lc wx (hr.later hb) c hc h0).mono fun e w' ⟨he, hb⟩ => ⟨none, 0, he, ⟨rows_nil1 w', hb⟩⟩
    · intro wx xa xc h
      exact (levels_bad l xa xc wx h c hc h0).mono fun e w' ⟨he, hb⟩ => ⟨none, 0, he, ⟨mx_nil w' _, hb⟩⟩
    · intro wx hb
      exact (rlevels_bad l la lc wx (hr.later hb) c hc h0).mono fun e w' ⟨he, hb⟩ => ⟨none, 0, he, ⟨mx_nil w' _, hb⟩⟩
  · have hzz : l.length ≤ 256 ∧ (∀ x ∈ l, rightP x) ∧ c = 0 := by
      rcases hc with ⟨_, q⟩ | ⟨_, _, q⟩ | q
      · exact absurd (.inl q) h0
      · exact absurd (.inr q) h0
      · exact q
    obtain ⟨hlen, hrt, rfl⟩ := hzz
    obtain ⟨B, hB⟩ := tells_some (dpf l)
    obtain ⟨LO, hLO, hLn⟩ : ∃ L, OrdL B (gof l) l.length L ∧ L.length = l.length := ord_ex hlen hrt hB
    obtain ⟨hf, H, hT⟩ : ∃ hf H, LvT l B hf H := lvt_ex hrt hB
    have hHl := top_le hB hT.1 hT.2
    have hlf : (LO.map fun x : Nat => (x : Int)).length = l.length := by rw [List.length_map, hLn]
    refine forms_told l hwf la lc w hr hz (LO.map fun x : Nat => (x : Int)) H (by omega) (lvL l hf) 0 ?_ ?_ ?_ ?_
    · intro wx xa xc h
      rw [hlf]
      refine (form_ok l xa xc wx h hlen hrt hB).mono fun e w' ⟨L, A, he, h1, h2, _, h4, h5⟩ => ⟨some ⟨A, 0, none⟩, l.length, he, ⟨?_, h5⟩⟩
      rw [← form_one h1 hLO h2 hLn]
      exact rows_fm h4 h2 hlen
    · intro wx hb
      rw [hlf]
      refine (rform_ok l la lc wx (hr.later hb) hc hlen hrt hB).mono fun e w' ⟨L, va, vc, he, hq⟩ => ⟨va, vc, he, ⟨?_, hq.out.2.2.2⟩⟩
      rw [← form_one hq.out.1 hLO hq.out.2.1 hLn]
      exact hq.out.2.2.1
    · intro wx xa xc h
      refine (levels_ok l xa xc wx h hlen hrt hB).mono fun e w' ⟨h', H', A, he, hq⟩ => ?_
      obtain ⟨e1, e2⟩ := lvt_one hq.out.1 hT
      subst e1
      exact ⟨some ⟨A, 0, none⟩, H', he, ⟨mx_congr hq.out.2.1 fun k _ => lvL_congr e2 k, hq.out.2.2⟩⟩
    · intro wx hb
      exact rlevels_ok l la lc wx (hr.later hb) hlen hrt hB hf H hT
end Go.Proofs.Ytkadlopcomjonaa.pg
