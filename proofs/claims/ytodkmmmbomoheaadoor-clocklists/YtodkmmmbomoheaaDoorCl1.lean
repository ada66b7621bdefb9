/- Joined of a list of clocks, by both; what is wrong with a list, by the document's own. -/
import Derived.Test.YtodkmmmbomoheaaDoorCl0
namespace Go.Proofs.YtodkmmmbomoheaaDoor.pg
open Go.ChangeShapes Go.WideShapes Go.ChangeAt Go.RowKit
set_option linter.unusedVariables false
set_option linter.unusedSimpArgs false
set_option maxRecDepth 100000
attribute [local go_sem ↓] Go.wp_at_zero Go.wp_at_succ
set_option maxHeartbeats 1000000 in
theorem rlist_any (l : List Ck) (la : Option Addr) (lc : Nat) (w : World) (hl : Rows w 6 la lc (l.map Ck.cells)) (c : Int) (hc : Hid (errL l c)) : Calls Tryd.prog 39 #[.slice la l.length lc] w fun e w' => e = .returned (.int .i64 c) ∧ Below w.heap.size w w' := by
  have hlI := rows_len hl
  have hlH : Hid (Rows w 6 la lc (l.map Ck.cells)) := hl
  clear hl
  by_cases hlong : 256 < l.length
  · have hcc : c = 2 := by rcases hc.out with ⟨_, q⟩ | ⟨q, _⟩ | ⟨q, _⟩ <;> omega
    have hI : (256 : Int) < l.length := by omega
    subst hcc
    go_enter Tryd.func39, Tryd.ntmps39
    go_wp2
    go_ret
    exact ⟨rfl, Below.refl _ _⟩
  · have hI : ¬ (256 : Int) < l.length := by omega
    go_enter Tryd.func39, Tryd.ntmps39
    go_wp2
    go_loopw [10] (fun u wr => ∃ k : Nat, k ≤ l.length ∧ u = .int .i64 k ∧ Below w.heap.size w wr ∧ Hid (∀ x ∈ l.take k, x.ok)) (fun u _ => l.length - (intOf u).toNat)
    case atStart => exact ⟨0, Nat.zero_le _, rfl, Below.refl _ _, fun x hx => by simp at hx⟩
    case round =>
      obtain ⟨k, hk, rfl, hb2, hok⟩ := hrel
      by_cases hlt : k < l.length
      · obtain ⟨x, hx, hxm⟩ := get_lt l k hlt
        obtain ⟨b0, o0, hix, hbl, k0, k1, k2, k3, k4, k5⟩ := cks_ix (hlH.out.later hb2) k x hx
        have hkI : (k : Int) < l.length := by omega
        by_cases e : x.ok
        · have c1 : ∀ wx, Calls Tryd.prog 32 #[x.val] wx _ := fun wx => rright_ok x e wx
          have hok2 : Hid (∀ x ∈ l.take (k + 1), x.ok) := take_more hx hok.out e
          clear e hx hxm
          go_wp2_with (go_at_call 32; (with_reducible refine (c1 _).mono ?_); rintro e w1 ⟨rfl, hb1⟩)
          go_roundw
          case rel => exact ⟨k + 1, by omega, by go_num, bthen hb2 (bthen (boxed _ _) hb1), hok2⟩
          case measure => simp [intOf]; omega
        · have c1 : ∀ wx, Calls Tryd.prog 32 #[x.val] wx _ := fun wx => rright_bad x e wx
          have hcc : Hid (c = 1) := by
            rcases hc.out with ⟨q, _⟩ | ⟨_, _, q⟩ | ⟨_, q, _⟩
            · omega
            · exact q
            · exact absurd (q x hxm) e
          clear e hx hxm
          go_wp2_with (go_at_call 32; (with_reducible refine (c1 _).mono ?_); rintro e w1 ⟨rfl, hb1⟩)
          go_ret
          exact ⟨by rw [hcc.out]; rfl, bthen hb2 (bthen (boxed _ _) hb1)⟩
      · have hk2 : k = l.length := by omega
        subst hk2
        rw [List.take_length] at hok
        have hcc : Hid (c = 0) := by
          rcases hc.out with ⟨q, _⟩ | ⟨_, ⟨x, hx, q⟩, _⟩ | ⟨_, _, q⟩
          · omega
          · exact absurd (hok.out x hx) q
          · exact q
        go_wp2
        go_ret
        exact ⟨by rw [hcc.out]; rfl, hb2⟩
/-- The join of all. -/
def foldJ (l : List Ck) : Ck := l.foldl Ck.join zeroK
theorem foldJ_snoc (l : List Ck) (k : Nat) (x : Ck) (hx : l[k]? = some x) : foldJ (l.take (k + 1)) = (foldJ (l.take k)).join x := by
  unfold foldJ
  rw [List.take_add_one, hx]
  simp
/-- How far a join of all has come. -/
structure JSt (w : World) (R A : Nat) (J : Ck) (wr : World) : Prop where
  be : Below w.heap.size w wr
  rs : InB wr R zeroK
  al : InB wr A J
theorem JSt.later {w : World} {R A : Nat} {J : Ck} {wr w' : World} (h : JSt w R A J wr) (hb : Below wr.heap.size wr w') : JSt w R A J w' := ⟨bthen h.be hb, h.rs.later hb, h.al.later hb⟩
theorem JSt.put {w : World} {R A : Nat} {J : Ck} {wr : World} (h : JSt w R A J wr) (hA : w.heap.size ≤ A) (hne : R ≠ A) (K : Ck) : JSt w R A K (wr.setRow A K.cells.toArray) := ⟨below_setRow h.be hA _, h.rs.other _ hne, h.al.set K⟩
theorem joined_bad (l : List Ck) (la : Option Addr) (lc : Nat) (w : World) (hl : Rows w 6 la lc (l.map Ck.cells)) (c : Int) (hc : Hid (errL l c)) (h0 : (c == 0) = false) : Calls Tryd.prog 24 #[.slice la l.length lc] w fun e w' => e = .returned (.tuple #[zeroK.val, .int .i64 c]) ∧ Below w.heap.size w w' := by
  have c1 : Calls Tryd.prog 29 #[.slice la l.length lc] (w.alloc (objK zeroK)) _ := checks_any l la lc _ (hl.later (boxed _ _)) c hc
  clear hl hc
  go_enter Tryd.func24, Tryd.ntmps24
  go_wp2_with (first
    | (go_at_call 29; (with_reducible refine c1.mono ?_); rintro e w1 ⟨rfl, hb1⟩; (have hz2 := (inB_new w zeroK).later hb1); (have hB1 : Hid (Below w.heap.size w w1) := bthen (boxed _ _) hb1); clear hb1 c1)
    | (refine wpList_store_row rfl 23 _ _ rfl w.heap.size _ rfl rfl _ _ hz2 infoK rfl (one6 zeroK) ?_))
  exact bodyPost_ret (results_ck Tryd.results24 _ _ w.heap.size zeroK _ rfl rfl (hz2.set zeroK)) rfl ⟨rfl, below_setRow hB1.out (Nat.le_refl _) _⟩
set_option maxHeartbeats 1000000 in
theorem joined_ok (l : List Ck) (la : Option Addr) (lc : Nat) (w : World) (hl : Rows w 6 la lc (l.map Ck.cells)) (hc : Hid (errL l 0)) : Calls Tryd.prog 24 #[.slice la l.length lc] w fun e w' => e = .returned (.tuple #[(foldJ l).val, .int .i64 0]) ∧ Below w.heap.size w w' := by
  have hlI := rows_len hl
  have c1 : Calls Tryd.prog 29 #[.slice la l.length lc] (w.alloc (objK zeroK)) _ := checks_any l la lc _ (hl.later (boxed _ _)) 0 hc
  have hlH : Hid (Rows w 6 la lc (l.map Ck.cells)) := hl
  clear hl hc
  go_enter Tryd.func24, Tryd.ntmps24
  go_wp2_with (first
    | (go_at_call 29; (with_reducible refine c1.mono ?_); rintro e w1 ⟨rfl, hb1⟩; (have hz2 := (inB_new w zeroK).later hb1); (have hB1 : Hid (Below w.heap.size w w1) := bthen (boxed _ _) hb1); clear hb1 c1))
  have st : Hid (JSt w w.heap.size w1.heap.size zeroK (w1.alloc (objK zeroK))) := ⟨bthen hB1.out (boxed _ _), hz2.later (boxed _ _), inB_new w1 zeroK⟩
  have hlo : Hid (w.heap.size < w1.heap.size) := hz2.lt
  clear hz2 hB1
  generalize w1.alloc (objK zeroK) = W0 at *
  generalize w1.heap.size = A at *
  go_loopw [16] (fun u wr => ∃ k : Nat, k ≤ l.length ∧ u = .int .i64 k ∧ Hid (JSt w w.heap.size A (foldJ (l.take k)) wr)) (fun u _ => l.length - (intOf u).toNat)
  case atStart => exact ⟨0, Nat.zero_le _, rfl, st⟩
  case round =>
    obtain ⟨k, hk, rfl, sH⟩ := hrel
    clear st
    by_cases hlt : k < l.length
    · obtain ⟨x, hx, hxm⟩ := get_lt l k hlt
      obtain ⟨b0, o0, hix, hbl, k0, k1, k2, k3, k4, k5⟩ := cks_ix (hlH.out.later sH.out.be) k x hx
      have hkI : (k : Int) < l.length := by omega
      obtain ⟨J, hJ⟩ : ∃ J, Hid (J = foldJ (l.take k)) := ⟨_, rfl⟩
      obtain ⟨K, hK⟩ : ∃ K, Hid (K = J.join x) := ⟨_, rfl⟩
      have sJ : Hid (JSt w w.heap.size A J wr) := by rw [hJ.out]; exact sH
      have hKf : Hid (K = foldJ (l.take (k + 1))) := by show _ = _; rw [hK.out, hJ.out, foldJ_snoc l k x hx]
      have c2 : ∀ wx, Calls Tryd.prog 30 #[J.val, x.val] wx fun e w' => e = .returned K.val ∧ Below wx.heap.size wx w' := fun wx => by rw [hK.out]; exact join_in J x wx
      have s1 := (sJ.out.later (boxed wr (objK x)))
      have a1 := s1.al
      have hs1 : Hid (JSt w w.heap.size A J (wr.alloc (objK x))) := s1
      have x1 := inB_new wr x
      clear s1 hx hxm sH
      go_wp2_with (first
        | (refine wpList_load_row rfl 23 _ rfl A rfl _ _ _ _ a1 Tryd.underlying23 rfl infoK ?_)
        | (refine wpList_load_row rfl 23 _ rfl wr.heap.size rfl _ _ _ _ x1 Tryd.underlying23 rfl infoK ?_)
        | (go_at_call 30; (with_reducible refine (c2 _).mono ?_); rintro e w2 ⟨rfl, hb2⟩; (have s2 := hs1.out.later hb2); (have a2 := s2.al); (have hs3 : Hid (JSt w w.heap.size A K (w2.setRow A K.cells.toArray)) := s2.put (Nat.le_of_lt hlo.out) (Nat.ne_of_lt hlo.out) K); clear hb2)
        | (refine wpList_store_row rfl 23 _ _ rfl A _ rfl rfl _ _ a2 infoK rfl (one6 K) ?_))
      go_roundw
      case rel => exact ⟨k + 1, by omega, by go_num, by rw [← hKf.out]; exact hs3⟩
      case measure => simp [intOf]; omega
    · have hk2 : k = l.length := by omega
      subst hk2
      rw [List.take_length] at sH
      obtain ⟨J, hJ⟩ : ∃ J, Hid (J = foldJ l) := ⟨_, rfl⟩
      have sJ : Hid (JSt w w.heap.size A J wr) := by rw [hJ.out]; exact sH
      have a1 := sJ.out.al
      have r1 := sJ.out.rs
      clear sH
      go_wp2_with (first
        | (refine wpList_load_row rfl 23 _ rfl A rfl _ _ _ _ a1 Tryd.underlying23 rfl infoK ?_)
        | (refine wpList_store_row rfl 23 _ _ rfl w.heap.size _ rfl rfl _ _ r1 infoK rfl (one6 J) ?_))
      rw [← hJ.out]
      exact bodyPost_ret (results_ck Tryd.results24 _ _ w.heap.size J _ rfl rfl (r1.set J)) rfl ⟨rfl, below_setRow sJ.out.be (Nat.le_refl _) _⟩
theorem rjoined_bad (l : List Ck) (la : Option Addr) (lc : Nat) (w : World) (hl : Rows w 6 la lc (l.map Ck.cells)) (c : Int) (hc : Hid (errL l c)) (h0 : (c == 0) = false) : Calls Tryd.prog 25 #[.slice la l.length lc] w fun e w' => e = .returned (.tuple #[zeroK.val, .int .i64 c]) ∧ Below w.heap.size w w' := by
  have c1 : Calls Tryd.prog 39 #[.slice la l.length lc] (w.alloc (objK zeroK)) _ := rlist_any l la lc _ (hl.later (boxed _ _)) c hc
  clear hl hc
  go_enter Tryd.func25, Tryd.ntmps25
  go_wp2_with (first
    | (go_at_call 39; (with_reducible refine c1.mono ?_); rintro e w1 ⟨rfl, hb1⟩; (have hz2 := (inB_new w zeroK).later hb1); (have hB1 : Hid (Below w.heap.size w w1) := bthen (boxed _ _) hb1); clear hb1 c1)
    | (refine wpList_store_row rfl 23 _ _ rfl w.heap.size _ rfl rfl _ _ hz2 infoK rfl (one6 zeroK) ?_))
  exact bodyPost_ret (results_ck Tryd.results25 _ _ w.heap.size zeroK _ rfl rfl (hz2.set zeroK)) rfl ⟨rfl, below_setRow hB1.out (Nat.le_refl _) _⟩
set_option maxHeartbeats 1000000 in
theorem rjoined_ok (l : List Ck) (la : Option Addr) (lc : Nat) (w : World) (hl : Rows w 6 la lc (l.map Ck.cells)) (hc : Hid (errL l 0)) : Calls Tryd.prog 25 #[.slice la l.length lc] w fun e w' => e = .returned (.tuple #[(foldJ l).val, .int .i64 0]) ∧ Below w.heap.size w w' := by
  have hlI := rows_len hl
  have c1 : Calls Tryd.prog 39 #[.slice la l.length lc] (w.alloc (objK zeroK)) _ := rlist_any l la lc _ (hl.later (boxed _ _)) 0 hc
  have hlH : Hid (Rows w 6 la lc (l.map Ck.cells)) := hl
  clear hl hc
  go_enter Tryd.func25, Tryd.ntmps25
  go_wp2_with (first
    | (go_at_call 39; (with_reducible refine c1.mono ?_); rintro e w1 ⟨rfl, hb1⟩; (have hz2 := (inB_new w zeroK).later hb1); (have hB1 : Hid (Below w.heap.size w w1) := bthen (boxed _ _) hb1); clear hb1 c1))
  have st : Hid (JSt w w.heap.size w1.heap.size zeroK (w1.alloc (objK zeroK))) := ⟨bthen hB1.out (boxed _ _), hz2.later (boxed _ _), inB_new w1 zeroK⟩
  have hlo : Hid (w.heap.size < w1.heap.size) := hz2.lt
  clear hz2 hB1
  generalize w1.alloc (objK zeroK) = W0 at *
  generalize w1.heap.size = A at *
  go_loopw [17] (fun u wr => ∃ k : Nat, k ≤ l.length ∧ u = .int .i64 k ∧ Hid (JSt w w.heap.size A (foldJ (l.take k)) wr)) (fun u _ => l.length - (intOf u).toNat)
  case atStart => exact ⟨0, Nat.zero_le _, rfl, st⟩
  case round =>
    obtain ⟨k, hk, rfl, sH⟩ := hrel
    clear st
    by_cases hlt : k < l.length
    · obtain ⟨x, hx, hxm⟩ := get_lt l k hlt
      obtain ⟨b0, o0, hix, hbl, k0, k1, k2, k3, k4, k5⟩ := cks_ix (hlH.out.later sH.out.be) k x hx
      have hkI : (k : Int) < l.length := by omega
      obtain ⟨J, hJ⟩ : ∃ J, Hid (J = foldJ (l.take k)) := ⟨_, rfl⟩
      obtain ⟨K, hK⟩ : ∃ K, Hid (K = J.join x) := ⟨_, rfl⟩
      have sJ : Hid (JSt w w.heap.size A J wr) := by rw [hJ.out]; exact sH
      have hKf : Hid (K = foldJ (l.take (k + 1))) := by show _ = _; rw [hK.out, hJ.out, foldJ_snoc l k x hx]
      have c2 : ∀ wx, Calls Tryd.prog 15 #[J.val, x.val] wx fun e w' => e = .returned K.val ∧ Below wx.heap.size wx w' := fun wx => by rw [hK.out]; exact rjoin_any J x wx
      have s1 := (sJ.out.later (boxed wr (objK x)))
      have a1 := s1.al
      have hs1 : Hid (JSt w w.heap.size A J (wr.alloc (objK x))) := s1
      have x1 := inB_new wr x
      clear s1 hx hxm sH
      go_wp2_with (first
        | (refine wpList_load_row rfl 23 _ rfl A rfl _ _ _ _ a1 Tryd.underlying23 rfl infoK ?_)
        | (refine wpList_load_row rfl 23 _ rfl wr.heap.size rfl _ _ _ _ x1 Tryd.underlying23 rfl infoK ?_)
        | (go_at_call 15; (with_reducible refine (c2 _).mono ?_); rintro e w2 ⟨rfl, hb2⟩; (have s2 := hs1.out.later hb2); (have a2 := s2.al); (have hs3 : Hid (JSt w w.heap.size A K (w2.setRow A K.cells.toArray)) := s2.put (Nat.le_of_lt hlo.out) (Nat.ne_of_lt hlo.out) K); clear hb2)
        | (refine wpList_store_row rfl 23 _ _ rfl A _ rfl rfl _ _ a2 infoK rfl (one6 K) ?_))
      go_roundw
      case rel => exact ⟨k + 1, by omega, by go_num, by rw [← hKf.out]; exact hs3⟩
      case measure => simp [intOf]; omega
    · have hk2 : k = l.length := by omega
      subst hk2
      rw [List.take_length] at sH
      obtain ⟨J, hJ⟩ : ∃ J, Hid (J = foldJ l) := ⟨_, rfl⟩
      have sJ : Hid (JSt w w.heap.size A J wr) := by rw [hJ.out]; exact sH
      have a1 := sJ.out.al
      have r1 := sJ.out.rs
      clear sH
      go_wp2_with (first
        | (refine wpList_load_row rfl 23 _ rfl A rfl _ _ _ _ a1 Tryd.underlying23 rfl infoK ?_)
        | (refine wpList_store_row rfl 23 _ _ rfl w.heap.size _ rfl rfl _ _ r1 infoK rfl (one6 J) ?_))
      rw [← hJ.out]
      exact bodyPost_ret (results_ck Tryd.results25 _ _ w.heap.size J _ rfl rfl (r1.set J)) rfl ⟨rfl, below_setRow sJ.out.be (Nat.le_refl _) _⟩
end Go.Proofs.YtodkmmmbomoheaaDoor.pg
