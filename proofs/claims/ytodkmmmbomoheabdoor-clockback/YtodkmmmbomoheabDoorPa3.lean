/- Parse of package clock. -/
import Derived.Test.YtodkmmmbomoheabDoorPa2
namespace Go.Proofs.YtodkmmmbomoheabDoor.pg
open Go.ChangeShapes Go.WideShapes Go.ChangeAt Go.RowKit
set_option linter.unusedVariables false
set_option linter.unusedSimpArgs false
set_option maxRecDepth 100000
attribute [local go_sem ↓] Go.wp_at_zero Go.wp_at_succ
theorem bytes_beq (a b : ByteArray) : (a.toList == b.toList) = true ↔ a = b := by
  rw [beq_iff_eq]
  constructor
  · intro h
    have h1 := congrArg List.toArray h
    have ha : a.toList = a.data.toList := Lib.toList_data _
    have hb : b.toList = b.data.toList := Lib.toList_data _
    exact bytes_ext (ha.symm.trans (h.trans hb))
  · rintro rfl; rfl
/-- How far Parse has come. -/
structure PSt (w : World) (s : ByteArray) (R0 A B k : Nat) (wr : World) : Prop where
  be : Below w.heap.size w wr
  rs : InB wr R0 zeroK
  pl : InL wr B (pieces s)
  zz : ∃ z : Ck, InB wr A z ∧ ∀ (i : Nat) (d : ByteArray), i < k → (pieces s)[i]? = some d → ∃ v, z.list[i]? = some v ∧ Lib.atoiAll d.data.toList = .ok v
theorem PSt.later {w : World} {s : ByteArray} {R0 A B k : Nat} {wr w' : World} (h : PSt w s R0 A B k wr) (hb : Below wr.heap.size wr w') : PSt w s R0 A B k w' := by
  obtain ⟨z, h1, h2⟩ := h.zz
  exact ⟨bthen h.be hb, h.rs.later hb, h.pl.later hb, z, h1.later hb, h2⟩
theorem PSt.put {w : World} {s : ByteArray} {R0 A B k : Nat} {wr : World} {d : ByteArray} {v : Int} (h : PSt w s R0 A B k wr) (hk : k < 6) (hA : w.heap.size ≤ A) (hR : R0 ≠ A) (hBA : B ≠ A) (hd : (pieces s)[k]? = some d) (hv : Lib.atoiAll d.data.toList = .ok v) : PSt w s R0 A B (k + 1) (wr.setCell ⟨A, k, none⟩ (.int .i64 v)) := by
  obtain ⟨z, h1, h2⟩ := h.zz
  refine ⟨h.be.setCell (p := ⟨A, k, none⟩) hA _, h.rs.setCell hR _, (heap_setCell_other wr _ B _ hBA).trans h.pl, z.put k v, h1.put hk v, fun i d' hi hd' => ?_⟩
  by_cases e : i = k
  · subst e
    rw [hd] at hd'
    cases hd'
    exact ⟨v, put_get z i hk v, hv⟩
  · obtain ⟨v', q1, q2⟩ := h2 i d' (by omega) hd'
    exact ⟨v', by rw [put_list, List.getElem?_set_ne (by omega)]; exact q1, q2⟩
theorem PSt.done {w : World} {s : ByteArray} {R0 A B : Nat} {wr : World} (h : PSt w s R0 A B 6 wr) (h6 : (pieces s).length = 6) : ∃ z : Ck, InB wr A z ∧ good s z := by
  obtain ⟨z, h1, h2⟩ := h.zz
  exact ⟨z, h1, h6, fun i d hd => h2 i d (by have := (List.getElem?_eq_some_iff.mp hd).1; omega) hd⟩
theorem parse_len (s : ByteArray) (hs : ¬ (pieces s).length = 6) (x : Ck) (hx : x.ok) : s ≠ textK x := fun q => by
  subst q
  exact hs (by rw [pieces_text x hx]; simp [Ck.list])
theorem parse_atoi {s d : ByteArray} {k : Nat} (hd : (pieces s)[k]? = some d) (h : ∀ v, Lib.atoiAll d.data.toList ≠ .ok v) (x : Ck) (hx : x.ok) : s ≠ textK x := fun q => by
  subst q
  rw [pieces_text x hx, List.getElem?_map, Option.map_eq_some_iff] at hd
  obtain ⟨n, hn, rfl⟩ := hd
  exact h n (by rw [num_list, atoi_num (hx n (List.mem_of_getElem? hn))])
theorem parse_unok {s : ByteArray} {z : Ck} (hg : good s z) (hz : ¬ z.ok) (x : Ck) (hx : x.ok) : s ≠ textK x := fun q => by
  subst q
  exact hz (good_text hx hg ▸ hx)
theorem parse_other {s : ByteArray} {z : Ck} (hg : good s z) (hz : textK z ≠ s) (x : Ck) (hx : x.ok) : s ≠ textK x := fun q => by
  subst q
  exact hz (by rw [good_text hx hg])
theorem parse_long (s : ByteArray) (hs : 65536 < s.size) (w : World) : Calls Tryd.prog 7 #[.string s] w fun e w' => e = .returned (.tuple #[zeroK.val, .int .i64 2]) ∧ Below w.heap.size w w' := by
  have hI : (65536 : Int) < s.size := by omega
  have hz2 := inB_new w zeroK
  clear hs
  go_enter Tryd.func7, Tryd.ntmps7
  go_wp2_with (refine wpList_store_row rfl 23 _ _ rfl w.heap.size _ rfl rfl _ _ hz2 infoK rfl (one6 zeroK) ?_)
  exact bodyPost_ret (results_ck Tryd.results7 _ _ w.heap.size zeroK _ rfl rfl (hz2.set zeroK)) rfl ⟨rfl, below_setRow (boxed _ _) (Nat.le_refl _) _⟩
set_option maxHeartbeats 1000000 in
theorem parse_few (s : ByteArray) (hs : s.size ≤ 65536) (h6 : ¬ (pieces s).length = 6) (w : World) (hV : Vars w) : Calls Tryd.prog 7 #[.string s] w fun e w' => e = .returned (.tuple #[zeroK.val, .int .i64 8]) ∧ Below w.heap.size w w' := by
  have hI : ¬ (65536 : Int) < s.size := by omega
  have hVH : Hid (Vars w) := hV
  have c1 : ∀ wx, Calls Tryd.prog 14 #[.string s, .string ⟨#[60, 62]⟩] wx _ := fun wx => trim_any s hs wx
  obtain ⟨n, hn⟩ : ∃ n, Hid ((pieces s).length = n) := ⟨_, rfl⟩
  have c2 : ∀ wx, Vars wx → Calls Tryd.prog 13 #[.string (inner s), .string ⟨#[44]⟩] wx fun e w' => e = .returned (.slice (some ⟨wx.heap.size, 0, none⟩) n n) ∧ w' = wx.alloc (.cells ((pieces s).map Value.string).toArray 9) := fun wx h => by rw [← hn.out]; exact split_any s hs wx h
  have hn6 : ((n : Int) == 6) = false := by have := hn.out; simp; omega
  clear h6 hV hs
  go_enter Tryd.func7, Tryd.ntmps7
  go_wp2_with (first
    | (go_at_call 14; (with_reducible refine (c1 _).mono ?_); rintro e w1 ⟨rfl, hb1⟩; (have hV1 : Hid (Vars w1) := hVH.out.later (bthen (boxed _ _) hb1)); (have hz1 := (inB_new w zeroK).later hb1); (have hB1 : Hid (Below w.heap.size w w1) := bthen (boxed _ _) hb1); clear hb1)
    | (go_at_call 13; (with_reducible refine (c2 _ hV1.out).mono ?_); rintro e w2 ⟨rfl, rfl⟩; (have hz2 := hz1.later (boxed w1 (.cells ((pieces s).map Value.string).toArray 9))); (have hB2 : Hid (Below w.heap.size w (w1.alloc (.cells ((pieces s).map Value.string).toArray 9))) := bthen hB1.out (boxed _ _)))
    | (refine wpList_store_row rfl 23 _ _ rfl w.heap.size _ rfl rfl _ _ hz2 infoK rfl (one6 zeroK) ?_))
  exact bodyPost_ret (results_ck Tryd.results7 _ _ w.heap.size zeroK _ rfl rfl (hz2.set zeroK)) rfl ⟨rfl, below_setRow hB2.out (Nat.le_refl _) _⟩
set_option maxHeartbeats 2000000 in
theorem parse_six (s : ByteArray) (hs : s.size ≤ 65536) (h6 : (pieces s).length = 6) (w : World) (hV : Vars w) (R : Ck) (c : Int) (hP : Hid (parseP s R c)) : Calls Tryd.prog 7 #[.string s] w fun e w' => e = .returned (.tuple #[R.val, .int .i64 c]) ∧ Below w.heap.size w w' := by
  have hI : ¬ (65536 : Int) < s.size := by omega
  have hVH : Hid (Vars w) := hV
  have c1 : ∀ wx, Calls Tryd.prog 14 #[.string s, .string ⟨#[60, 62]⟩] wx _ := fun wx => trim_any s hs wx
  have c2 : ∀ wx, Vars wx → Calls Tryd.prog 13 #[.string (inner s), .string ⟨#[44]⟩] wx fun e w' => e = .returned (.slice (some ⟨wx.heap.size, 0, none⟩) 6 6) ∧ w' = wx.alloc (.cells ((pieces s).map Value.string).toArray 9) := fun wx h => by have := split_any s hs wx h; rw [h6] at this; exact this
  have hsH : Hid (s.size ≤ 65536) := hs
  have h6H : Hid ((pieces s).length = 6) := h6
  clear h6 hV hs
  go_enter Tryd.func7, Tryd.ntmps7
  go_wp2_with (first
    | (go_at_call 14; (with_reducible refine (c1 _).mono ?_); rintro e w1 ⟨rfl, hb1⟩; (have hV1 : Hid (Vars w1) := hVH.out.later (bthen (boxed _ _) hb1)); (have hz1 := (inB_new w zeroK).later hb1); (have hB1 : Hid (Below w.heap.size w w1) := bthen (boxed _ _) hb1); clear hb1)
    | (go_at_call 13; (with_reducible refine (c2 _ hV1.out).mono ?_); rintro e w2 ⟨rfl, rfl⟩; (have hz2 := hz1.later (boxed w1 (.cells ((pieces s).map Value.string).toArray 9))); (have hB2 : Hid (Below w.heap.size w (w1.alloc (.cells ((pieces s).map Value.string).toArray 9))) := bthen hB1.out (boxed _ _))))
  generalize hW2 : w1.alloc (.cells ((pieces s).map Value.string).toArray 9) = W2 at *
  have hpl : Hid (InL W2 w1.heap.size (pieces s)) := by rw [← hW2]; exact heap_alloc_new _ _
  have hsz : Hid (W2.heap.size = w1.heap.size + 1) := by rw [← hW2]; exact World.size_alloc _ _
  clear hW2
  have st : Hid (PSt w s w.heap.size (w1.heap.size + 1) w1.heap.size 0 (W2.alloc (objK zeroK))) := by rw [← hsz.out]; exact ⟨bthen hB2.out (boxed _ _), hz2.later (boxed _ _), hpl.out.later (boxed _ _), zeroK, inB_new W2 zeroK, fun i d hi => by omega⟩
  have hne1 : Hid (w.heap.size ≠ w1.heap.size + 1) := by rw [← hsz.out]; exact Nat.ne_of_lt hz2.lt
  have hlo : Hid (w.heap.size ≤ w1.heap.size + 1) := by rw [← hsz.out]; exact hB2.out.size
  clear hz1 hz2 hB1 hB2 hpl hV1 c1 c2 hsz
  generalize W2.alloc (objK zeroK) = W0 at *
  generalize w1.heap.size = B at *
  go_loopw [25] (fun u wr => ∃ k : Nat, k ≤ 6 ∧ u = .int .i64 k ∧ Hid (PSt w s w.heap.size (B + 1) B k wr)) (fun u _ => 6 - (intOf u).toNat)
  case atStart => exact ⟨0, by omega, rfl, st⟩
  case round =>
    obtain ⟨k, hk, rfl, sH⟩ := hrel
    clear st
    by_cases hlt : k < 6
    · obtain ⟨d, hd, hdm⟩ := get_lt (pieces s) k (by rw [h6H.out]; exact hlt)
      have hix := strl_ix B 6 k hlt
      have hcl := sH.out.pl.cell hd
      have hkI : (k : Int) < 6 := by omega
      have hat := ck_at (B + 1) k hlt
      have hdH : Hid ((pieces s)[k]? = some d) := hd
      have hds : Hid (d.size ≤ 65536) := Nat.le_trans (piece_size hdm) hsH.out
      clear hd hdm
      by_cases hok : ∃ v, Lib.atoiAll d.data.toList = .ok v
      · obtain ⟨v, hv⟩ := hok
        have hvH : Hid (Lib.atoiAll d.data.toList = .ok v) := hv
        have c3 : ∀ wx, Calls Tryd.prog 15 #[.string d] wx _ := fun wx => atoi_ok d hds.out v hv wx
        obtain ⟨z, hz, _⟩ := sH.out.zz
        obtain ⟨m, hm, _⟩ := get_lt z.list k hlt
        have hzm : Hid (InB wr (B + 1) z ∧ z.list[k]? = some m) := ⟨hz, hm⟩
        clear hv hz hm
        go_wp2_with (go_at_call 15; (with_reducible refine (c3 _).mono ?_); rintro e w5 ⟨rfl, hb5⟩; (obtain ⟨q1, q2⟩ := (hzm.out.1.later hb5).cell hzm.out.2); (have s5 : Hid (PSt w s w.heap.size (B + 1) B (k + 1) (w5.setCell ⟨B + 1, k, none⟩ (.int .i64 v))) := (sH.out.later hb5).put hlt hlo.out hne1.out (by omega) hdH.out hvH.out); clear hb5)
        go_roundw
        case rel => exact ⟨k + 1, by omega, by go_num, s5⟩
        case measure => simp [intOf]; omega
      · have hno : Hid (R = zeroK ∧ c = 8) := parse_no hP.out hsH.out (parse_atoi hdH.out fun v q => hok ⟨v, q⟩)
        have c3 : ∀ wx, Vars wx → Calls Tryd.prog 15 #[.string d] wx _ := fun wx h => atoi_bad d hds.out (fun v q => hok ⟨v, q⟩) wx h
        clear hok hP
        obtain ⟨hR, hc⟩ := hno.out
        subst hR
        subst hc
        go_wp2_with (first
          | (go_at_call 15; (with_reducible refine (c3 _ (hVH.out.later sH.out.be)).mono ?_); rintro e w5 ⟨v5, T5, p5, rfl, hb5⟩; (have r5 := sH.out.rs.later hb5); (have e5 : Hid (Below w.heap.size w w5) := bthen sH.out.be hb5); clear hb5)
          | (refine wpList_store_row rfl 23 _ _ rfl w.heap.size _ rfl rfl _ _ r5 infoK rfl (one6 zeroK) ?_))
        exact bodyPost_ret (results_ck Tryd.results7 _ _ w.heap.size zeroK _ rfl rfl (r5.set zeroK)) rfl ⟨rfl, below_setRow e5.out (Nat.le_refl _) _⟩
    · have hk6 : k = 6 := by omega
      subst hk6
      obtain ⟨z, hz, hg⟩ := sH.out.done h6H.out
      have hgH : Hid (good s z) := hg
      have r1 := sH.out.rs
      have e1 : Hid (Below w.heap.size w wr) := sH.out.be
      clear hg sH
      by_cases hzo : z.ok
      · have c4 : ∀ wx, Tab wx → Calls Tryd.prog 4 #[z.val] wx _ := fun wx h => text_any z hzo wx h
        by_cases heq : textK z = s
        · obtain ⟨hR, hc⟩ := parse_yes hP.out hzo heq.symm
          subst hR
          subst hc
          have hsame : ((textK R).toList == s.toList) = true := (bytes_beq _ _).mpr heq
          generalize textK R = tx at *
          clear heq hzo hP hgH
          go_wp2_with (first
            | (refine wpList_load_row rfl 23 _ rfl (B + 1) rfl _ _ _ _ hz Tryd.underlying23 rfl infoK ?_)
            | (go_at_call 4; (with_reducible refine (c4 _ (hVH.out.tb.later e1.out)).mono ?_); rintro e w6 ⟨rfl, hb6⟩; (replace hz := hz.later hb6); (replace r1 := r1.later hb6); (have e6 : Hid (Below w.heap.size w w6) := bthen e1.out hb6); clear hb6)
            | (refine wpList_store_row rfl 23 _ _ rfl w.heap.size _ rfl rfl _ _ r1 infoK rfl (one6 R) ?_))
          exact bodyPost_ret (results_ck Tryd.results7 _ _ w.heap.size R _ rfl rfl (r1.set R)) rfl ⟨rfl, below_setRow e6.out (Nat.le_refl _) _⟩
        · have hno : Hid (R = zeroK ∧ c = 8) := parse_no hP.out hsH.out (parse_other hgH.out heq)
          have hsame : ((textK z).toList == s.toList) = false := Bool.eq_false_iff.mpr fun q => heq ((bytes_beq _ _).mp q)
          obtain ⟨hR, hc⟩ := hno.out
          subst hR
          subst hc
          clear heq hzo hP hgH
          generalize textK z = tx at *
          go_wp2_with (first
            | (refine wpList_load_row rfl 23 _ rfl (B + 1) rfl _ _ _ _ hz Tryd.underlying23 rfl infoK ?_)
            | (go_at_call 4; (with_reducible refine (c4 _ (hVH.out.tb.later e1.out)).mono ?_); rintro e w6 ⟨rfl, hb6⟩; (replace hz := hz.later hb6); (replace r1 := r1.later hb6); (have e6 : Hid (Below w.heap.size w w6) := bthen e1.out hb6); clear hb6)
            | (refine wpList_store_row rfl 23 _ _ rfl w.heap.size _ rfl rfl _ _ r1 infoK rfl (one6 zeroK) ?_))
          exact bodyPost_ret (results_ck Tryd.results7 _ _ w.heap.size zeroK _ rfl rfl (r1.set zeroK)) rfl ⟨rfl, below_setRow e6.out (Nat.le_refl _) _⟩
      · have hno : Hid (R = zeroK ∧ c = 8) := parse_no hP.out hsH.out (parse_unok hgH.out hzo)
        have c4 : ∀ wx, Calls Tryd.prog 4 #[z.val] wx _ := fun wx => text_bad z hzo wx
        obtain ⟨hR, hc⟩ := hno.out
        subst hR
        subst hc
        clear hzo hP hgH
        go_wp2_with (first
          | (refine wpList_load_row rfl 23 _ rfl (B + 1) rfl _ _ _ _ hz Tryd.underlying23 rfl infoK ?_)
          | (go_at_call 4; (with_reducible refine (c4 _).mono ?_); rintro e w6 ⟨rfl, hb6⟩; (replace r1 := r1.later hb6); (have e6 : Hid (Below w.heap.size w w6) := bthen e1.out hb6); clear hb6)
          | (refine wpList_store_row rfl 23 _ _ rfl w.heap.size _ rfl rfl _ _ r1 infoK rfl (one6 zeroK) ?_))
        exact bodyPost_ret (results_ck Tryd.results7 _ _ w.heap.size zeroK _ rfl rfl (r1.set zeroK)) rfl ⟨rfl, below_setRow e6.out (Nat.le_refl _) _⟩
theorem parse_any (s : ByteArray) (w : World) (hV : Vars w) (R : Ck) (c : Int) (hP : Hid (parseP s R c)) : Calls Tryd.prog 7 #[.string s] w fun e w' => e = .returned (.tuple #[R.val, .int .i64 c]) ∧ Below w.heap.size w w' := by
  by_cases h : 65536 < s.size
  · rcases hP.out with ⟨_, rfl, rfl⟩ | ⟨q, _⟩ | ⟨q, _⟩
    · exact parse_long s h w
    · omega
    · omega
  · by_cases h6 : (pieces s).length = 6
    · exact parse_six s (by omega) h6 w hV R c hP
    · obtain ⟨rfl, rfl⟩ := parse_no hP.out (by omega) (parse_len s h6)
      exact parse_few s (by omega) h6 w hV
end Go.Proofs.YtodkmmmbomoheabDoor.pg
