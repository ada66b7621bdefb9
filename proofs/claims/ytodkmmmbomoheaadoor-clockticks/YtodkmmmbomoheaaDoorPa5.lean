/- The document's own Parse of clocks, walked. -/
import Derived.Test.YtodkmmmbomoheaaDoorPa4
namespace Go.Proofs.YtodkmmmbomoheaaDoor.pg
open Go.ChangeShapes Go.WideShapes Go.ChangeAt Go.RowKit
set_option linter.unusedVariables false
set_option linter.unusedSimpArgs false
set_option maxRecDepth 100000
attribute [local go_sem ↓] Go.wp_at_zero Go.wp_at_succ
theorem rp_full {c : UInt8} {r : List UInt8} {n : Nat} {d : Bool} {a : Ck} (h : 6 ≤ n) : rp (c :: r) n d a = some a := by rw [rp, if_pos h]
theorem rp_big {c : UInt8} {r : List UInt8} {n : Nat} {d : Bool} {a : Ck} {m : Int} (h : n < 6) (hc : isDg c = true) (hm : a.list[n]? = some m) (hv : 1073741824 < m * 10 + ((c.toNat : Int) - 48)) : rp (c :: r) n d a = none := by
  rw [rp, if_neg (by omega), if_pos hc, hm]
  simp only [Option.getD_some]
  rw [if_pos hv]
theorem rp_one {c : UInt8} {r : List UInt8} {n : Nat} {d : Bool} {a : Ck} {m : Int} (h : n < 6) (hc : isDg c = true) (hm : a.list[n]? = some m) (hv : ¬ 1073741824 < m * 10 + ((c.toNat : Int) - 48)) : rp (c :: r) n d a = rp r n true (a.put n (m * 10 + ((c.toNat : Int) - 48))) := by
  rw [rp, if_neg (by omega), if_pos hc, hm]
  simp only [Option.getD_some]
  rw [if_neg hv]
theorem rp_stop {c : UInt8} {r : List UInt8} {n : Nat} {a : Ck} (h : n < 6) (hc : isDg c = false) : rp (c :: r) n false a = none := by
  rw [rp, if_neg (by omega), hc]; simp
set_option maxHeartbeats 4000000 in
theorem rparse_short (s : ByteArray) (hs : s.size ≤ 65536) (w : World) (hV : Vars w) (R : Ck) (c : Int) (hP : Hid (parseP s R c)) : Calls Tryd.prog 22 #[.string s] w fun e w' => e = .returned (.tuple #[R.val, .int .i64 c]) ∧ Below w.heap.size w w' := by
  have hI : ¬ (65536 : Int) < s.size := by omega
  have hVH : Hid (Vars w) := hV
  have hsH : Hid (s.size ≤ 65536) := hs
  have hno : Hid ((∀ x : Ck, x.ok → s ≠ textK x) → R = zeroK ∧ c = 8) := fun h => parse_no hP.out hs h
  obtain ⟨b1, b2⟩ := boxes2z w zeroK
  have st : Hid (QSt w w.heap.size (w.heap.size + 1) zeroK ((w.alloc (objK zeroK)).alloc (objK zeroK))) := ⟨boxed2 _ _ _, b1, b2⟩
  clear hs hV b1 b2
  go_enter Tryd.func22, Tryd.ntmps22
  go_wp2
  generalize (w.alloc (objK zeroK)).alloc (objK zeroK) = W0 at *
  go_loopw [5, 6, 7] (fun v5 v6 v7 wr => ∃ (n : Nat) (d : Bool) (i : Nat) (a : Ck), n ≤ 6 ∧ v5 = .int .i64 n ∧ v6 = .bool d ∧ v7 = .int .i64 i ∧ i ≤ 65537 ∧ Hid (QSt w w.heap.size (w.heap.size + 1) a wr ∧ a.ok ∧ rp (s.data.toList.drop i) n d a = rp (s.data.toList.drop 1) 0 false zeroK)) (fun _ _ v7 _ => 65537 - (intOf v7).toNat)
  case atStart => exact ⟨0, false, 1, zeroK, by omega, rfl, rfl, rfl, by omega, st, zero_ok, rfl⟩
  case round =>
    obtain ⟨n, d, i, a, hn, rfl, rfl, rfl, hi, sH⟩ := hrel
    clear st
    obtain ⟨q, aok, hrp⟩ := sH.out
    have qH : Hid (QSt w w.heap.size (w.heap.size + 1) a wr) := q
    have hrpH : Hid (rp (s.data.toList.drop i) n d a = rp (s.data.toList.drop 1) 0 false zeroK) := hrp
    have aokH : Hid a.ok := aok
    clear sH q hrp aok
    cases hdr : s.data.toList.drop i with
    | nil =>
      have hge : s.size ≤ i := by
        rw [Lib.size_eq]
        exact List.drop_eq_nil_iff.mp hdr
      have hfin : Hid (rp (s.data.toList.drop 1) 0 false zeroK = some a) := by have := hrpH.out; rw [hdr] at this; exact this.symm.trans rfl
      have hgI : ¬ (i : Int) < s.size := by omega
      clear hdr hrpH hge
      have hao : a.ok := aokH.out
      have c4 : ∀ wx, Tab wx → Calls Tryd.prog 23 #[a.val] wx _ := fun wx h => rtext_any a hao wx h
      have a1 := qH.out.al
      have r1 := qH.out.rs
      have e1 : Hid (Below w.heap.size w wr) := qH.out.be
      by_cases heq : textK a = s
      · obtain ⟨hR, hc⟩ := parse_yes hP.out hao heq.symm
        subst hR
        subst hc
        have hsame : ((textK R).toList == s.toList) = true := (bytes_beq _ _).mpr heq
        clear heq hao hP hno hfin qH aokH
        generalize textK R = tx at *
        go_wp2_with (first
          | (refine wpList_load_row rfl 23 _ rfl (w.heap.size + 1) rfl _ _ _ _ a1 Tryd.underlying23 rfl infoK ?_)
          | (go_at_call 23; (with_reducible refine (c4 _ (hVH.out.tb.later e1.out)).mono ?_); rintro e w6 ⟨rfl, hb6⟩; (replace a1 := a1.later hb6); (replace r1 := r1.later hb6); (have e6 : Hid (Below w.heap.size w w6) := bthen e1.out hb6); clear hb6)
          | (refine wpList_store_row rfl 23 _ _ rfl w.heap.size _ rfl rfl _ _ r1 infoK rfl (one6 R) ?_))
        exact bodyPost_ret (results_ck Tryd.results22 _ _ w.heap.size R _ rfl rfl (r1.set R)) rfl ⟨rfl, below_setRow e6.out (Nat.le_refl _) _⟩
      · obtain ⟨hR, hc⟩ := hno.out (rp_other hfin.out heq)
        subst hR
        subst hc
        have hsame : ((textK a).toList == s.toList) = false := Bool.eq_false_iff.mpr fun q => heq ((bytes_beq _ _).mp q)
        clear heq hao hP hno hfin qH aokH
        generalize textK a = tx at *
        go_wp2_with (first
          | (refine wpList_load_row rfl 23 _ rfl (w.heap.size + 1) rfl _ _ _ _ a1 Tryd.underlying23 rfl infoK ?_)
          | (go_at_call 23; (with_reducible refine (c4 _ (hVH.out.tb.later e1.out)).mono ?_); rintro e w6 ⟨rfl, hb6⟩; (replace r1 := r1.later hb6); (have e6 : Hid (Below w.heap.size w w6) := bthen e1.out hb6); clear hb6)
          | (refine wpList_store_row rfl 23 _ _ rfl w.heap.size _ rfl rfl _ _ r1 infoK rfl (one6 zeroK) ?_))
        exact bodyPost_ret (results_ck Tryd.results22 _ _ w.heap.size zeroK _ rfl rfl (r1.set zeroK)) rfl ⟨rfl, below_setRow e6.out (Nat.le_refl _) _⟩
    | cons ch r =>
      obtain ⟨hil, hix, hdr2⟩ := byte_ix s i ch r hdr
      have hiI : (i : Int) < s.size := by omega
      have hrpc : Hid (rp (ch :: r) n d a = rp (s.data.toList.drop 1) 0 false zeroK) := by have := hrpH.out; rw [hdr] at this; exact this
      have hdrH : Hid (s.data.toList.drop (i + 1) = r) := hdr2
      clear hdr hrpH hdr2
      by_cases hn6 : n = 6
      · subst hn6
        have hfin : Hid (rp (s.data.toList.drop 1) 0 false zeroK = some a) := hrpc.out.symm.trans (rp_full (by omega))
        clear hix hrpc hdrH
        have hao : a.ok := aokH.out
        have c4 : ∀ wx, Tab wx → Calls Tryd.prog 23 #[a.val] wx _ := fun wx h => rtext_any a hao wx h
        have a1 := qH.out.al
        have r1 := qH.out.rs
        have e1 : Hid (Below w.heap.size w wr) := qH.out.be
        by_cases heq : textK a = s
        · obtain ⟨hR, hc⟩ := parse_yes hP.out hao heq.symm
          subst hR
          subst hc
          have hsame : ((textK R).toList == s.toList) = true := (bytes_beq _ _).mpr heq
          clear heq hao hP hno hfin qH aokH
          generalize textK R = tx at *
          go_wp2_with (first
            | (refine wpList_load_row rfl 23 _ rfl (w.heap.size + 1) rfl _ _ _ _ a1 Tryd.underlying23 rfl infoK ?_)
            | (go_at_call 23; (with_reducible refine (c4 _ (hVH.out.tb.later e1.out)).mono ?_); rintro e w6 ⟨rfl, hb6⟩; (replace a1 := a1.later hb6); (replace r1 := r1.later hb6); (have e6 : Hid (Below w.heap.size w w6) := bthen e1.out hb6); clear hb6)
            | (refine wpList_store_row rfl 23 _ _ rfl w.heap.size _ rfl rfl _ _ r1 infoK rfl (one6 R) ?_))
          exact bodyPost_ret (results_ck Tryd.results22 _ _ w.heap.size R _ rfl rfl (r1.set R)) rfl ⟨rfl, below_setRow e6.out (Nat.le_refl _) _⟩
        · obtain ⟨hR, hc⟩ := hno.out (rp_other hfin.out heq)
          subst hR
          subst hc
          have hsame : ((textK a).toList == s.toList) = false := Bool.eq_false_iff.mpr fun q => heq ((bytes_beq _ _).mp q)
          clear heq hao hP hno hfin qH aokH
          generalize textK a = tx at *
          go_wp2_with (first
            | (refine wpList_load_row rfl 23 _ rfl (w.heap.size + 1) rfl _ _ _ _ a1 Tryd.underlying23 rfl infoK ?_)
            | (go_at_call 23; (with_reducible refine (c4 _ (hVH.out.tb.later e1.out)).mono ?_); rintro e w6 ⟨rfl, hb6⟩; (replace r1 := r1.later hb6); (have e6 : Hid (Below w.heap.size w w6) := bthen e1.out hb6); clear hb6)
            | (refine wpList_store_row rfl 23 _ _ rfl w.heap.size _ rfl rfl _ _ r1 infoK rfl (one6 zeroK) ?_))
          exact bodyPost_ret (results_ck Tryd.results22 _ _ w.heap.size zeroK _ rfl rfl (r1.set zeroK)) rfl ⟨rfl, below_setRow e6.out (Nat.le_refl _) _⟩
      · have hnlt : n < 6 := by omega
        have hnI : (n : Int) < 6 := by omega
        obtain ⟨m, hm, hmm⟩ := get_lt a.list n hnlt
        obtain ⟨hm0, hm1⟩ : 0 ≤ m ∧ m ≤ 1073741824 := aokH.out m hmm
        obtain ⟨p1, p2⟩ := qH.out.al.cell hm
        have hat := ck_at (w.heap.size + 1) n hnlt
        have hmH : Hid (a.list[n]? = some m) := hm
        have hch : (ch.toNat : Int) < 256 := by have := ch.toNat_lt; omega
        obtain ⟨cv, hcv⟩ : ∃ cv : Int, Hid (cv = (ch.toNat : Int)) := ⟨_, rfl⟩
        rw [← hcv.out] at hix hch
        clear hm hmm hn hn6
        by_cases hdig : isDg ch = true
        · have hd1 : 48 ≤ cv := by rw [hcv.out]; simp only [isDg, Bool.and_eq_true, decide_eq_true_eq] at hdig; omega
          have hd2 : cv ≤ 57 := by rw [hcv.out]; simp only [isDg, Bool.and_eq_true, decide_eq_true_eq] at hdig; omega
          by_cases hbig : 1073741824 < m * 10 + (cv - 48)
          · have hnone : Hid (rp (s.data.toList.drop 1) 0 false zeroK = none) := hrpc.out.symm.trans (rp_big hnlt hdig hmH.out (by rw [← hcv.out]; exact hbig))
            obtain ⟨hR, hc⟩ := hno.out (rp_no hnone.out)
            subst hR
            subst hc
            have s5 : Hid (QSt w w.heap.size (w.heap.size + 1) (a.put n (m * 10 + (cv - 48))) (wr.setCell ⟨w.heap.size + 1, n, none⟩ (.int .i64 (m * 10 + (cv - 48))))) := qH.out.put hnlt (by omega) (by omega) _
            have p5 := (s5.out.al.cell (put_get a n hnlt _)).1
            have r5 := s5.out.rs
            clear hdig hrpc hdrH hnone
            go_wp2_with (refine wpList_store_row rfl 23 _ _ rfl w.heap.size _ rfl rfl _ _ r5 infoK rfl (one6 zeroK) ?_)
            exact bodyPost_ret (results_ck Tryd.results22 _ _ w.heap.size zeroK _ rfl rfl (r5.set zeroK)) rfl ⟨rfl, below_setRow s5.out.be (Nat.le_refl _) _⟩
          · have hone : Hid (rp (s.data.toList.drop (i + 1)) n true (a.put n (m * 10 + (cv - 48))) = rp (s.data.toList.drop 1) 0 false zeroK) := by
              show _ = _
              rw [hdrH.out, ← hrpc.out, rp_one hnlt hdig hmH.out (by rw [← hcv.out]; exact hbig), hcv.out]
            have s5 : Hid (QSt w w.heap.size (w.heap.size + 1) (a.put n (m * 10 + (cv - 48))) (wr.setCell ⟨w.heap.size + 1, n, none⟩ (.int .i64 (m * 10 + (cv - 48))))) := qH.out.put hnlt (by omega) (by omega) _
            have p5 := (s5.out.al.cell (put_get a n hnlt _)).1
            have o5 : Hid (a.put n (m * 10 + (cv - 48))).ok := put_ok aokH.out n ⟨by omega, by omega⟩
            have hil2 : i + 1 ≤ 65537 := by have := hsH.out; omega
            clear hdig hrpc hdrH
            go_wp2
            go_roundw
            case rel => exact ⟨n, true, i + 1, a.put n (m * 10 + (cv - 48)), by omega, rfl, rfl, by go_num, hil2, s5.out, o5.out, hone.out⟩
            case measure => simp [intOf]; omega
        · have hdig2 : isDg ch = false := by simpa using hdig
          have hdd : cv < 48 ∨ 57 < cv := by
            rw [hcv.out]
            simp only [isDg, Bool.and_eq_false_iff, decide_eq_false_iff_not] at hdig2
            omega
          have hil2 : i + 1 ≤ 65537 := by have := hsH.out; omega
          cases d with
          | false =>
            have hnone : Hid (rp (s.data.toList.drop 1) 0 false zeroK = none) := hrpc.out.symm.trans (rp_stop hnlt hdig2)
            obtain ⟨hR, hc⟩ := hno.out (rp_no hnone.out)
            subst hR
            subst hc
            have r5 := qH.out.rs
            clear hdig hdig2 hrpc hdrH hnone
            rcases hdd with hdd | hdd
            · have hdl : ¬ 48 ≤ cv := by omega
              go_wp2_with (refine wpList_store_row rfl 23 _ _ rfl w.heap.size _ rfl rfl _ _ r5 infoK rfl (one6 zeroK) ?_)
              exact bodyPost_ret (results_ck Tryd.results22 _ _ w.heap.size zeroK _ rfl rfl (r5.set zeroK)) rfl ⟨rfl, below_setRow qH.out.be (Nat.le_refl _) _⟩
            · have hdl : 48 ≤ cv := by omega
              have hdu : ¬ cv ≤ 57 := by omega
              go_wp2_with (refine wpList_store_row rfl 23 _ _ rfl w.heap.size _ rfl rfl _ _ r5 infoK rfl (one6 zeroK) ?_)
              exact bodyPost_ret (results_ck Tryd.results22 _ _ w.heap.size zeroK _ rfl rfl (r5.set zeroK)) rfl ⟨rfl, below_setRow qH.out.be (Nat.le_refl _) _⟩
          | true =>
            have hone : Hid (rp (s.data.toList.drop (i + 1)) (n + 1) false a = rp (s.data.toList.drop 1) 0 false zeroK) := by
              show _ = _
              rw [hdrH.out, ← hrpc.out, rp_sep ch hdig2 n hnlt]
            clear hdig hdig2 hrpc hdrH
            rcases hdd with hdd | hdd
            · have hdl : ¬ 48 ≤ cv := by omega
              go_wp2
              go_roundw
              case rel => exact ⟨n + 1, false, i + 1, a, by omega, by go_num, rfl, by go_num, hil2, qH.out, aokH.out, hone.out⟩
              case measure => simp [intOf]; omega
            · have hdl : 48 ≤ cv := by omega
              have hdu : ¬ cv ≤ 57 := by omega
              go_wp2
              go_roundw
              case rel => exact ⟨n + 1, false, i + 1, a, by omega, by go_num, rfl, by go_num, hil2, qH.out, aokH.out, hone.out⟩
              case measure => simp [intOf]; omega
theorem rparse_any (s : ByteArray) (w : World) (hV : Vars w) (R : Ck) (c : Int) (hP : Hid (parseP s R c)) : Calls Tryd.prog 22 #[.string s] w fun e w' => e = .returned (.tuple #[R.val, .int .i64 c]) ∧ Below w.heap.size w w' := by
  by_cases h : 65536 < s.size
  · rcases hP.out with ⟨_, rfl, rfl⟩ | ⟨q, _⟩ | ⟨q, _⟩
    · exact rparse_long s h w
    · omega
    · omega
  · exact rparse_short s (by omega) w hV R c hP
end Go.Proofs.YtodkmmmbomoheaaDoor.pg
