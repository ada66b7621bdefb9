/- The walk of the statement on lists of clocks. -/
import Derived.Test.YtodkmmmbomoheaaDoorCl4
import Derived.Test.YtodkmmmbomoheaaDoorCkS
namespace Go.Proofs.YtodkmmmbomoheaaDoor.pg
open Go.ChangeShapes Go.WideShapes Go.ChangeAt Go.RowKit
set_option linter.unusedVariables false
set_option linter.unusedSimpArgs false
set_option maxRecDepth 100000
attribute [local go_sem ↓] Go.wp_at_zero Go.wp_at_succ
set_option maxHeartbeats 1000000 in
theorem sameInts_c (l : List Int) (a b : Option Addr) (ca cb : Nat) (w : World) (ha : Rows w 1 a ca (l.map chCells)) (hb : Rows w 1 b cb (l.map chCells)) :
    Calls Tryd.prog 28 #[.slice a l.length ca, .slice b l.length cb] w fun e w' => e = .returned (.bool true) ∧ Below w.heap.size w w' := by
  have hlI : (l.length : Int) ≤ 9223372036854775807 := rows_len ha
  go_enter Tryd.func28, Tryd.ntmps28
  go_wp2_with fail
  go_loopw [13] (fun u wr => ∃ k : Nat, k ≤ l.length ∧ u = .int .i64 k ∧ Below w.heap.size w wr) (fun u _ => l.length - (intOf u).toNat)
  case atStart => exact ⟨0, Nat.zero_le _, rfl, Below.refl _ _⟩
  case round =>
    obtain ⟨k, hk, rfl, hbe⟩ := hrel
    by_cases hlt : k < l.length
    · obtain ⟨y, hy, hym⟩ := get_lt l k hlt
      obtain ⟨b1, o1, hix1, hbl1, c1⟩ := ch_ix (ha.later hbe) k y hy
      obtain ⟨b2, o2, hix2, hbl2, c2⟩ := ch_ix (hb.later hbe) k y hy
      have hkI : (k : Int) < l.length := by omega
      go_wp2_with fail
      go_quiet (fail)
      go_wp2
      go_roundw
      case rel => exact ⟨k + 1, by omega, by go_num, below_drewN hbe _⟩
      case measure => simp [intOf]; omega
    · have hk2 : k = l.length := by omega
      subst hk2
      go_wp2
      go_ret
      exact ⟨rfl, hbe⟩
/-- What Joined answers, what Tops answers. -/
def ansJ (l : List Ck) (c : Int) (J : Ck) : Prop := (c = 0 ∧ J = foldJ l) ∨ ((c == 0) = false ∧ J = zeroK)
def ansT (l : List Ck) (c : Int) (T : List Int) : Prop := (c = 0 ∧ T = topsTo l l.length) ∨ ((c == 0) = false ∧ T = [])
theorem joined_any (l : List Ck) (la : Option Addr) (lc : Nat) (w : World) (hl : Rows w 6 la lc (l.map Ck.cells)) (c : Int) (hc : Hid (errL l c)) (J : Ck) (hJ : Hid (ansJ l c J)) : Calls Tryd.prog 24 #[.slice la l.length lc] w fun e w' => e = .returned (.tuple #[J.val, .int .i64 c]) ∧ Below w.heap.size w w' := by
  rcases hJ.out with ⟨rfl, rfl⟩ | ⟨h, rfl⟩
  · exact joined_ok l la lc w hl hc
  · exact joined_bad l la lc w hl c hc h
theorem rjoined_any (l : List Ck) (la : Option Addr) (lc : Nat) (w : World) (hl : Rows w 6 la lc (l.map Ck.cells)) (c : Int) (hc : Hid (errL l c)) (J : Ck) (hJ : Hid (ansJ l c J)) : Calls Tryd.prog 25 #[.slice la l.length lc] w fun e w' => e = .returned (.tuple #[J.val, .int .i64 c]) ∧ Below w.heap.size w w' := by
  rcases hJ.out with ⟨rfl, rfl⟩ | ⟨h, rfl⟩
  · exact rjoined_ok l la lc w hl hc
  · exact rjoined_bad l la lc w hl c hc h
theorem rows_none (w : World) : Rows w 1 none 0 (([] : List Int).map chCells) := ⟨by simp, by omega, by simp, .inl rfl⟩
theorem tops_any (l : List Ck) (la : Option Addr) (lc : Nat) (w : World) (hl : Rows w 6 la lc (l.map Ck.cells)) (hwf : ∀ x ∈ l, x.wf) (c : Int) (hc : Hid (errL l c)) (T : List Int) (hT : Hid (ansT l c T)) : Calls Tryd.prog 26 #[.slice la l.length lc] w fun e w' => ∃ va vc, e = .returned (.tuple #[.slice va T.length vc, .int .i64 c]) ∧ Rows w' 1 va vc (T.map chCells) ∧ Below w.heap.size w w' := by
  rcases hT.out with ⟨rfl, rfl⟩ | ⟨h, rfl⟩
  · exact tops_ok l la lc w hl hwf hc
  · exact (tops_bad l la lc w hl c hc h).mono fun e w' ⟨he, hb⟩ => ⟨none, 0, he, rows_none _, hb⟩
theorem rtops_any (l : List Ck) (la : Option Addr) (lc : Nat) (w : World) (hl : Rows w 6 la lc (l.map Ck.cells)) (c : Int) (hc : Hid (errL l c)) (T : List Int) (hT : Hid (ansT l c T)) : Calls Tryd.prog 27 #[.slice la l.length lc] w fun e w' => ∃ va vc, e = .returned (.tuple #[.slice va T.length vc, .int .i64 c]) ∧ Rows w' 1 va vc (T.map chCells) ∧ Below w.heap.size w w' := by
  rcases hT.out with ⟨rfl, rfl⟩ | ⟨h, rfl⟩
  · exact rtops_ok l la lc w hl hc
  · exact (rtops_bad l la lc w hl c hc h).mono fun e w' ⟨he, hb⟩ => ⟨none, 0, he, rows_none _, hb⟩
theorem ans_some (l : List Ck) : ∃ c J T, errL l c ∧ ansJ l c J ∧ ansT l c T := by
  by_cases h : 256 < l.length
  · exact ⟨2, zeroK, [], .inl ⟨h, rfl⟩, .inr ⟨rfl, rfl⟩, .inr ⟨rfl, rfl⟩⟩
  · by_cases h2 : ∀ x ∈ l, x.ok
    · exact ⟨0, _, _, .inr (.inr ⟨by omega, h2, rfl⟩), .inl ⟨rfl, rfl⟩, .inl ⟨rfl, rfl⟩⟩
    · refine ⟨1, zeroK, [], .inr (.inl ⟨by omega, ?_, rfl⟩), .inr ⟨rfl, rfl⟩, .inr ⟨rfl, rfl⟩⟩
      apply Classical.byContradiction
      intro q
      exact h2 fun x hx => Classical.byContradiction fun g => q ⟨x, hx, g⟩
theorem infoC_c : (Tryd.prog.info? 23).map (fun i => (i.zero, i.size, i.bytes)) = some (some zeroK.val, 6, 48) := by kernel_rfl
theorem one6c (l : List Ck) : ∀ row ∈ l.map Ck.cells, ∀ u ∈ row, u.oneCell' = true := by
  intro r hr
  obtain ⟨x, _, rfl⟩ := List.mem_map.mp hr
  intro u hu
  simp only [Ck.cells, List.mem_cons, List.not_mem_nil, or_false] at hu
  rcases hu with rfl | rfl | rfl | rfl | rfl | rfl <;> rfl
theorem len6c (l : List Ck) : ∀ row ∈ l.map Ck.cells, row.length = 6 := by intro r hr; obtain ⟨x, _, rfl⟩ := List.mem_map.mp hr; rfl
section
variable {H : Type} {enc : TypeId × Value → H} {w : World} {base : Nat} {spare : Nat → Bool} {held : Bool}
theorem cks_sz {n : Nat} {a : Option Addr} {len cap : Nat} {y : DataW H × List MemPlace} (h : DataW.trod enc Tryd.prog w base spare held n 43 [.slice a len cap] = some y) (hs : Sz Tryd.prog 43 y.1) : ∃ l : List Ck, l.length = len ∧ Rows w 6 a cap (l.map Ck.cells) ∧ (∀ x ∈ l, x.wf) ∧ l.length * 48 ≤ reachBytes := by
  obtain ⟨l, rfl, h1, h2, h3⟩ := rows_sz (k := 6) ⟨0, 0, 0, 0, 0, 0⟩ Ck.cells Ck.wf Tryd.underlying43 (by kernel_rfl) (by omega) (fun n cs y hl h _ => ck_in hl h) h hs
  have hb : Tryd.prog.bytesOf 23 = 48 := by kernel_rfl
  rw [hb] at h3
  exact ⟨l, rfl, h1, h2, h3⟩
end
set_option maxHeartbeats 4000000 in
theorem lists_any (l : List Ck) (la : Option Addr) (lc : Nat) (w : World) (hw : Rows w 6 la lc (l.map Ck.cells) ∧ (∀ x ∈ l, x.wf) ∧ l.length * 48 ≤ reachBytes) (hT : Tab w) : Calls Tryd.prog 5 #[.slice la l.length lc] w fun e w' => e = .returned (.bool true) ∧ Below w.heap.size w w' := by
  obtain ⟨hl, hwf, hsz⟩ := hw
  obtain ⟨c, J, T, hc, hJ, hTT⟩ := ans_some l
  have hlI := rows_len hl
  have hlH : Hid (Rows w 6 la lc (l.map Ck.cells)) := hl
  have hTH : Hid (Tab w) := hT
  unfold reachBytes at hsz
  obtain ⟨iC, hiC, hzC, hsC, hbC⟩ := info_q infoC_c
  have c1 : ∀ a k wx, Rows wx 6 a k (l.map Ck.cells) → Calls Tryd.prog 24 #[.slice a l.length k] wx _ := fun a k wx h => joined_any l a k wx h c hc J hJ
  have c2 : ∀ wx, Rows wx 6 la lc (l.map Ck.cells) → Calls Tryd.prog 25 #[.slice la l.length lc] wx _ := fun wx h => rjoined_any l la lc wx h c hc J hJ
  have c3 : ∀ a k wx, Rows wx 6 a k (l.map Ck.cells) → Calls Tryd.prog 26 #[.slice a l.length k] wx _ := fun a k wx h => tops_any l a k wx h hwf c hc T hTT
  have c4 : ∀ wx, Rows wx 6 la lc (l.map Ck.cells) → Calls Tryd.prog 27 #[.slice la l.length lc] wx _ := fun wx h => rtops_any l la lc wx h c hc T hTT
  have c5 : ∀ va vc ua uc wx, Rows wx 1 va vc (T.map chCells) → Rows wx 1 ua uc (T.map chCells) → Calls Tryd.prog 28 #[.slice va T.length vc, .slice ua T.length uc] wx _ := fun va vc ua uc wx h1 h2 => sameInts_c T va ua vc uc wx h1 h2
  have c6 := small_any
  have hszH : Hid ((0 + l.length) * 48 ≤ 140737488355328) := by simp only [Hid]; omega
  have hmxH : Hid (0 + l.length ≤ maxLen) := by unfold maxLen; simp only [Hid]; omega
  have he := fun wx => (by rw [run_eqK, (eqK_iff J J).mpr rfl] : (binOp .eql 23 J.val J.val).run Tryd.prog wx = .ok (.bool true) wx)
  clear hl hwf hsz hc hJ hTT hT
  go_enter Tryd.func5, Tryd.ntmps5
  go_wp2_with (first
    | (at_builtin; (refine wpList_app rfl (.tmp 13) (.tmp 14) 43 rfl w.heap.size 23 iC _ 6 48 Tryd.underlying43 hiC hzC hsC hbC rfl (by decide) none 0 [] rfl (own_nil_q _ _ _ _) la lc (l.map Ck.cells) (by rw [List.length_map]; rfl) hlH.out (len6c l) (one6c l) (by rw [List.length_map]; exact hmxH.out) (by rw [List.length_map]; exact hszH.out) (Nat.le_refl _) ?_); intro va vc w1 ho1 hk1 hb1 hbl1; (have hlen : ([] ++ l.map Ck.cells).length = l.length := by simp); rw [hlen]; clear hlen; (have oc : Hid (Rows w1 6 va vc (l.map Ck.cells)) := own_rows ho1 (len6c l)); (have e1 : Hid (Below w.heap.size w w1) := by rw [Nat.min_self] at hb1; exact hb1); clear ho1 hk1 hb1 hbl1)
    | (go_at_call 24; (with_reducible refine (c1 _ _ _ oc.out).mono ?_); rintro e w2 ⟨rfl, hb2⟩; (have e2 : Hid (Below w.heap.size w (w2.alloc (objK J))) := bthen e1.out (bthen hb2 (boxed _ _))); (have oc2 : Hid (Rows (w2.alloc (objK J)) 6 va vc (l.map Ck.cells)) := oc.out.later (bthen hb2 (boxed _ _))); (have j1 := inB_new w2 J); clear hb2)
    | (go_at_call 25; (with_reducible refine (c2 _ (hlH.out.later e2.out)).mono ?_); rintro e w3 ⟨rfl, hb3⟩; (have e3 : Hid (Below w.heap.size w (w3.alloc (objK J))) := bthen e2.out (bthen hb3 (boxed _ _))); (have oc3 : Hid (Rows (w3.alloc (objK J)) 6 va vc (l.map Ck.cells)) := oc2.out.later (bthen hb3 (boxed _ _))); (have j2 := inB_new w3 J); (replace j1 := j1.later (bthen hb3 (boxed _ (objK J)))); clear hb3)
    | (go_at_call 26; (with_reducible refine (c3 _ _ _ oc3.out).mono ?_); rintro e w4 ⟨ta, tc, rfl, ht4, hb4⟩; (have e4 : Hid (Below w.heap.size w w4) := bthen e3.out hb4); (have oc4 : Hid (Rows w4 6 va vc (l.map Ck.cells)) := oc3.out.later hb4); (replace j1 := j1.later hb4); (replace j2 := j2.later hb4); (have t4 : Hid (Rows w4 1 ta tc (T.map chCells)) := ht4); clear hb4 ht4)
    | (go_at_call 27; (with_reducible refine (c4 _ (hlH.out.later e4.out)).mono ?_); rintro e w5 ⟨ua, uc, rfl, ht5, hb5⟩; (have e5 : Hid (Below w.heap.size w w5) := bthen e4.out hb5); (have oc5 : Hid (Rows w5 6 va vc (l.map Ck.cells)) := oc4.out.later hb5); (replace j1 := j1.later hb5); (replace j2 := j2.later hb5); (have t5 : Hid (Rows w5 1 ua uc (T.map chCells)) := ht5); (have s5 : Hid (Rows w5 1 ta tc (T.map chCells)) := t4.out.later hb5); clear hb5 ht5))
  clear c1 c2 c3 c4
  have j1H : Hid (InB w5 w2.heap.size J) := j1
  have j2H : Hid (InB w5 w3.heap.size J) := j2
  clear j1 j2
  generalize w2.heap.size = B1 at *
  generalize w3.heap.size = B2 at *
  go_loopw [38] (fun u wr => ∃ k : Nat, k ≤ l.length ∧ u = .int .i64 k ∧ Hid (Below w5.heap.size w5 wr)) (fun u _ => l.length - (intOf u).toNat)
  case atStart => exact ⟨0, Nat.zero_le _, rfl, Below.refl _ _⟩
  case round =>
    obtain ⟨k, hk, rfl, hb⟩ := hrel
    by_cases hlt : k < l.length
    · obtain ⟨x, hx, hxm⟩ := get_lt l k hlt
      have hkI : (k : Int) < l.length := by omega
      obtain ⟨bx, ox, hixx, x0, x1, x2, x3, x4, x5⟩ := cks_cls (hlH.out.later (bthen e5.out hb.out)) k x hx
      obtain ⟨bq, oq, hixy, y0, y1, y2, y3, y4, y5⟩ := cks_cls (oc5.out.later hb.out) k x hx
      have hnq : ∀ wx, (binOp .neq 23 x.val x.val).run Tryd.prog wx = .ok (.bool false) wx := fun wx => by rw [run_neK, (eqK_iff x x).mpr rfl]; rfl
      have hne := bey_some wr
      clear hx hxm
      go_wp2_with fail
      refine wp_region_cls (Bey wr) (by kernel_rfl) (by kernel_rfl) (bey_drew wr) ?_
      repeat (go_big_quiet_step (fail))
      refine wpQuiet_nil ?_
      intro _ hw'
      obtain ⟨sq, hw''⟩ := hw'
      subst hw''
      have hBq : Hid (Below w5.heap.size w5 sq.w) := bthen hb.out sq.h
      clear hixx hixy x0 x1 x2 x3 x4 x5 y0 y1 y2 y3 y4 y5 hne
      go_wp2
      go_roundw
      case rel => exact ⟨k + 1, by omega, by go_num, hBq⟩
      case measure => simp [intOf]; omega
    · have hk2 : k = l.length := by omega
      subst hk2
      have j1 := j1H.out.later hb.out
      have j2 := j2H.out.later hb.out
      have t6H : Hid (Rows wr 1 ta tc (T.map chCells)) := s5.out.later hb.out
      have t7H : Hid (Rows wr 1 ua uc (T.map chCells)) := t5.out.later hb.out
      have e6 : Hid (Below w.heap.size w wr) := bthen e5.out hb.out
      go_wp2_with (first
        | (refine wpList_load_row rfl 23 _ rfl B1 rfl _ _ _ _ j1 Tryd.underlying23 rfl infoK ?_)
        | (refine wpList_load_row rfl 23 _ rfl B2 rfl _ _ _ _ j2 Tryd.underlying23 rfl infoK ?_)
        | (go_at_call 28; (with_reducible refine (c5 _ _ _ _ _ t6H.out t7H.out).mono ?_); rintro e w7 ⟨rfl, hb7⟩; (have e7 : Hid (Below w.heap.size w w7) := bthen e6.out hb7); clear hb7)
        | (go_at_call 14; (with_reducible refine (c6 _ (hTH.out.later e7.out)).mono ?_); rintro e w8 ⟨rfl, hb8⟩))
      go_ret
      exact ⟨rfl, bthen e7.out hb8⟩
end Go.Proofs.YtodkmmmbomoheaaDoor.pg
