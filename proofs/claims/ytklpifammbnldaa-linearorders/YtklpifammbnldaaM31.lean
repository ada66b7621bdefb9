/- An operation done, in the document's own words: one contract. -/
import Derived.Test.YtklpifammbnldaaM30
namespace Go.Proofs.Ytklpifammbnldaa.pg
open Go.ChangeShapes Go.WideShapes Go.ChangeAt Go.RowKit
set_option linter.unusedVariables false
set_option linter.unusedSimpArgs false
set_option maxRecDepth 100000
theorem pend_ne (x : Cl) : (x.en != -1) = !x.pend := rfl
theorem fit_read {k : Int} {x : Cl} {n : Int} (hd : x.d = 1) (hr : rcB x = true) : fitC k [n] x = (!(x.en != -1) || x.out == n) := by
  have h1 := (right_fit hr).1 (by omega)
  unfold fitC actC
  rw [if_pos hd, pend_ne, Bool.not_not]
  simp only [h1, List.getD_cons_zero, beq_self_eq_true, Bool.and_true]
  rw [show (n == x.out) = (x.out == n) from Bool.beq_comm]
theorem fit_told {k : Int} {x : Cl} {c : List Int} (h1 : x.d ≠ 1) (h5 : x.d ≠ 5) (h : x.d = 2 ∨ x.d = 3 ∨ x.d = 4) (hr : rcB x = true) : fitC k c x = true := by
  have e1 := (right_fit hr).1 h5
  have e2 := (right_fit hr).2.1 h1 h5
  unfold fitC actC
  rcases h with q | q | q <;> simp [q, e1, e2]
theorem fit_none {k : Int} {x : Cl} (h5 : x.d = 5) (hr : rcB x = true) : fitC k [] x = (!(x.en != -1) || x.em) := by
  have e3 := (right_fit hr).2.2
  unfold fitC actC
  rw [pend_ne, Bool.not_not]
  cases hem : x.em with
  | false => simp [h5, hem]
  | true => simp [h5, hem, (e3 hem).1]
theorem fit_some {k : Int} {x : Cl} {c : List Int} {v : Int} (h5 : x.d = 5) (hc : c ≠ []) (hv : (if k = 3 then c.getD 0 0 else c.getD (c.length - 1) 0) = v) : fitC k c x = (!(x.en != -1) || (!x.em && x.out == v)) := by
  unfold fitC actC
  rw [pend_ne, Bool.not_not, ← hv]
  simp only [h5, hc, if_false, show ¬ (5 : Int) = 1 by decide, show ¬ (5 : Int) = 2 by decide, show ¬ (5 : Int) = 3 by decide, show ¬ (5 : Int) = 4 by decide]
  split
  · rw [show (c.getD 0 0 == x.out) = (x.out == c.getD 0 0) from Bool.beq_comm, show (false == x.em) = !x.em by cases x.em <;> rfl, Bool.and_comm]
  · rw [show (c.getD (c.length - 1) 0 == x.out) = (x.out == c.getD (c.length - 1) 0) from Bool.beq_comm, show (false == x.em) = !x.em by cases x.em <;> rfl, Bool.and_comm]
/-- What the document's do answers, and where its list lies. -/
def RdoQ (w : World) (k : Int) (c : List Int) (x : Cl) (a : Option Addr) (e : Ending) (w' : World) : Prop :=
  ∃ (n' : Int) (a' : Option Addr) (m' lc' : Nat), e = .returned (.tuple #[.agg #[.int .i64 n', .slice a' m' lc'], .bool (fitC k c x)]) ∧ RepD w' k (nxtC k c x) n' a' m' lc' ∧ Below w.heap.size w w' ∧ ∀ g ∈ blk a', g ∈ blk a ∨ (w.heap.size < g ∧ g < w'.heap.size)
section
variable {w : World}
theorem rdo_any {k : Int} {c : List Int} {x : Cl} {n : Int} {a : Option Addr} {m lc : Nat} (hdo : doesB k x.d = true) (hr : rcB x = true) (ok : OkC k x.d c) (hR : RepD w k c n a m lc) : Calls Try.prog 36 #[.int .i64 k, .agg #[.int .i64 n, .slice a m lc], x.val] w (RdoQ w k c x a) := by
  rcases does_cases hdo with ⟨rfl, hd⟩ | ⟨rfl, hd⟩ | ⟨rfl, hd⟩ | ⟨rfl, hd⟩ | ⟨hk, hd⟩ | ⟨hk, hd⟩ | ⟨hk, hd⟩ | ⟨hk, hd⟩
  · rcases hR with ⟨_, rfl, rfl, rfl, rfl⟩ | ⟨q, _⟩
    · refine (rdo_1 1 n none 0 0 x hd _ rfl).mono fun e w' h => ?_
      obtain ⟨rfl, hb⟩ := h
      refine ⟨n, none, 0, 0, by rw [fit_read hd hr], .inl ⟨.inl rfl, ?_, rfl, rfl, rfl⟩, hb, fun g hg => .inl hg⟩
      unfold nxtC actC; rw [if_pos hd]
    · omega
  · rcases hR with ⟨_, rfl, rfl, rfl, rfl⟩ | ⟨q, _⟩
    · refine (rdo_2 1 n none 0 0 x hd).mono fun e w' h => ?_
      obtain ⟨rfl, hb⟩ := h
      refine ⟨x.inn, none, 0, 0, by rw [fit_told (by omega) (by omega) (.inl hd) hr], .inl ⟨.inl rfl, ?_, rfl, rfl, rfl⟩, hb, fun g hg => .inl hg⟩
      unfold nxtC actC; rw [if_neg (by omega), if_pos hd]
    · omega
  · rcases hR with ⟨_, rfl, rfl, rfl, rfl⟩ | ⟨q, _⟩
    · refine (rdo_1 2 n none 0 0 x hd _ rfl).mono fun e w' h => ?_
      obtain ⟨rfl, hb⟩ := h
      refine ⟨n, none, 0, 0, by rw [fit_read hd hr], .inl ⟨.inr rfl, ?_, rfl, rfl, rfl⟩, hb, fun g hg => .inl hg⟩
      unfold nxtC actC; rw [if_pos hd]
    · omega
  · rcases hR with ⟨_, rfl, rfl, rfl, rfl⟩ | ⟨q, _⟩
    · refine (rdo_3 2 n none 0 0 x hd).mono fun e w' h => ?_
      obtain ⟨rfl, hb⟩ := h
      refine ⟨_, none, 0, 0, by rw [fit_told (by omega) (by omega) (.inr (.inl hd)) hr], .inl ⟨.inr rfl, ?_, rfl, rfl, rfl⟩, hb, fun g hg => .inl hg⟩
      unfold nxtC actC; rw [if_neg (by omega), if_neg (by omega), if_pos hd]; rfl
    · omega
  · rcases hR with ⟨q, _⟩ | ⟨_, rfl, hm, hro⟩
    · omega
    · refine (rdo_4 k 0 a m lc x hd c hm (by have := ok.put hd; omega) hro).mono fun e w' h => ?_
      obtain ⟨va, vc, rfl, hro', hb, hfr⟩ := h
      have e1 : nxtC k c x = c ++ [x.inn] := by unfold nxtC actC; rw [if_neg (by omega), if_neg (by omega), if_neg (by omega), if_pos hd]
      refine ⟨0, va, c.length + 1, vc, by rw [fit_told (by omega) (by omega) (.inr (.inr hd)) hr], .inr ⟨.inl hk, rfl, ?_, ?_⟩, hb, fun g hg => .inr (hfr g hg)⟩
      · rw [e1, List.length_append]; rfl
      · rw [e1]; exact hro'
  · rcases hR with ⟨q, _⟩ | ⟨_, rfl, hm, hro⟩
    · omega
    · subst hk
      match c, ok, hm, hro with
      | [], ok, hm, hro =>
        refine (rdo_5e 3 0 a m lc x hd hm _ rfl).mono fun e w' h => ?_
        obtain ⟨rfl, hb⟩ := h
        have e1 : nxtC 3 [] x = [] := by unfold nxtC actC; rw [if_neg (by omega), if_neg (by omega), if_neg (by omega), if_neg (by omega), if_pos rfl]
        refine ⟨0, a, m, lc, by rw [fit_none hd hr], .inr ⟨.inl rfl, rfl, ?_, ?_⟩, hb, fun g hg => .inl hg⟩
        · rw [e1]; exact hm
        · rw [e1]; exact hro.later hb
      | v :: l, ok, hm, hro =>
        obtain ⟨b, off, rfl⟩ : ∃ b off, a = some ⟨b, off, none⟩ := by
          rcases hro.2.2.2 with q | ⟨b, off, rfl, _⟩
          · simp at q
          · exact ⟨b, off, rfl⟩
        refine (rdo_5q 0 b off m lc x hd (v :: l) l.length rfl hm ok.le hro _ rfl v rfl).mono fun e w' h => ?_
        obtain ⟨va, vc, rfl, hro', hb, hfr⟩ := h
        have e1 : nxtC 3 (v :: l) x = l := by unfold nxtC actC; rw [if_neg (by omega), if_neg (by omega), if_neg (by omega), if_neg (by omega), if_neg (by simp), if_pos rfl]; rfl
        refine ⟨0, va, l.length, vc, by rw [fit_some (v := v) hd (by simp) (by simp)], .inr ⟨.inl rfl, rfl, ?_, ?_⟩, hb, fun g hg => .inr (hfr g hg)⟩
        · rw [e1]
        · rw [e1]; exact hro'
  · rcases hR with ⟨q, _⟩ | ⟨_, rfl, hm, hro⟩
    · omega
    · refine (rdo_4 k 0 a m lc x hd c hm (by have := ok.put hd; omega) hro).mono fun e w' h => ?_
      obtain ⟨va, vc, rfl, hro', hb, hfr⟩ := h
      have e1 : nxtC k c x = c ++ [x.inn] := by unfold nxtC actC; rw [if_neg (by omega), if_neg (by omega), if_neg (by omega), if_pos hd]
      refine ⟨0, va, c.length + 1, vc, by rw [fit_told (by omega) (by omega) (.inr (.inr hd)) hr], .inr ⟨.inr hk, rfl, ?_, ?_⟩, hb, fun g hg => .inr (hfr g hg)⟩
      · rw [e1, List.length_append]; rfl
      · rw [e1]; exact hro'
  · rcases hR with ⟨q, _⟩ | ⟨_, rfl, hm, hro⟩
    · omega
    · subst hk
      rcases Nat.eq_zero_or_pos c.length with h0 | h0
      · have hc0 : c = [] := List.length_eq_zero_iff.mp h0
        subst hc0
        refine (rdo_5e 4 0 a m lc x hd hm _ rfl).mono fun e w' h => ?_
        obtain ⟨rfl, hb⟩ := h
        have e1 : nxtC 4 [] x = [] := by unfold nxtC actC; rw [if_neg (by omega), if_neg (by omega), if_neg (by omega), if_neg (by omega), if_pos rfl]
        refine ⟨0, a, m, lc, by rw [fit_none hd hr], .inr ⟨.inr rfl, rfl, ?_, ?_⟩, hb, fun g hg => .inl hg⟩
        · rw [e1]; exact hm
        · rw [e1]; exact hro.later hb
      · have hne : c ≠ [] := by rintro rfl; simp at h0
        obtain ⟨b, off, rfl⟩ : ∃ b off, a = some ⟨b, off, none⟩ := by
          rcases hro.2.2.2 with q | ⟨b, off, rfl, _⟩
          · exact absurd (List.map_eq_nil_iff.mp q) hne
          · exact ⟨b, off, rfl⟩
        have hv : c[c.length - 1]? = some (c.getD (c.length - 1) 0) := by
          rw [List.getD_eq_getElem?_getD, List.getElem?_eq_getElem (by omega)]; rfl
        refine (rdo_5s 0 b off m lc x hd c (c.length - 1) (by omega) hm ok.le hro _ rfl _ hv).mono fun e w' h => ?_
        obtain ⟨va, vc, rfl, hro', hb, hfr⟩ := h
        have e1 : nxtC 4 c x = c.dropLast := by unfold nxtC actC; rw [if_neg (by omega), if_neg (by omega), if_neg (by omega), if_neg (by omega), if_neg hne, if_neg (by decide)]
        have e2 : c.take (c.length - 1) ++ c.drop (c.length - 1 + 1) = c.dropLast := by
          rw [List.drop_eq_nil_of_le (by omega), List.append_nil, List.dropLast_eq_take]
        refine ⟨0, va, c.length - 1, vc, by rw [fit_some hd hne (by rw [if_neg (by decide)])], .inr ⟨.inr rfl, rfl, ?_, ?_⟩, hb, fun g hg => .inr (hfr g hg)⟩
        · rw [e1, List.length_dropLast]
        · rw [e1, ← e2]; exact hro'
end
end Go.Proofs.Ytklpifammbnldaa.pg
/- Whether a list is an order of a history, in the document's own words. -/
namespace Go.Proofs.Ytklpifammbnldaa.pg
open Go.ChangeShapes Go.WideShapes Go.ChangeAt Go.RowKit
set_option linter.unusedVariables false
set_option linter.unusedSimpArgs false
set_option maxRecDepth 100000
attribute [local go_sem ↓] Go.wp_at_zero Go.wp_at_succ
abbrev oP8 (f : Nat → Bool) : Obj := .cells (boolRow 8 f) 80
theorem zeroQ8 : ∀ w, (zeroValue 80).run Try.prog w = .ok (.agg (boolRow 8 fun _ => false)) w := fun w => by kernel_rfl
theorem ixq8 (B k : Nat) (hk : k < 8) : ∀ wx, (Instr.indexAt 80 (.pointer (some ⟨B, 0, none⟩)) (.int .i64 (k : Int))).run Try.prog wx = .ok (.pointer (some ⟨B, k, none⟩)) wx := fun wx => by
  have u := Try.underlying80
  have z := Try.sizeOf4
  have h8 : k = 0 ∨ k = 1 ∨ k = 2 ∨ k = 3 ∨ k = 4 ∨ k = 5 ∨ k = 6 ∨ k = 7 := by omega
  rcases h8 with rfl | rfl | rfl | rfl | rfl | rfl | rfl | rfl
  all_goals simp [Instr.indexAt, run_underlying u, asIntOf, go_sem, z]
/-- How the document's Order stands. -/
structure RoS (w W : World) (f : Nat → Bool) : Prop where
  s : W.heap[w.heap.size]? = some (oP8 f)
  b : Below w.heap.size w W
set_option maxHeartbeats 2000000 in
theorem rorderL_any (h : List Cl) (ha : Option Addr) (hc : Nat) (o : List Int) (oa : Option Addr) (oc : Nat) (w : World) (hh : Rows w 7 ha hc (h.map Cl.cells)) (ho : Rows w 1 oa oc (o.map chCells)) (hn : h.length ≤ 8) (hol : o.length < 2 ^ 62) : Calls Try.prog 19 #[.slice ha h.length hc, .slice oa o.length oc] w fun e w' => e = .returned (.bool (isOrdB h o)) ∧ Below w.heap.size w w' := by
  have hhH : Hid (Rows w 7 ha hc (h.map Cl.cells)) := hh
  have hoH : Hid (Rows w 1 oa oc (o.map chCells)) := ho
  have hnI : (h.length : Int) ≤ 8 := by omega
  have e0 : (fun _ => false) = inL (o.take 0) := by funext b; unfold inL; simp
  have s0 : Hid (RoS w (w.alloc (oP8 fun _ => false)) (inL (o.take 0))) := by (rw [← e0]; exact ⟨heap_alloc_new _ _, boxed _ _⟩)
  clear hh ho e0
  go_enter Try.func19, Try.ntmps19
  go_wp2_with (refine wpList_alloc_big rfl 80 rfl zeroQ8 ?_)
  generalize w.alloc (oP8 fun _ => false) = W at *
  go_loopw [6] (fun u wr => ∃ i : Nat, i ≤ o.length ∧ u = .int .i64 (i : Int) ∧ Hid (RoS w wr (inL (o.take i)) ∧ OrdP h.length (o.take i))) (fun u _ => o.length - (intOf u).toNat)
  case atStart => exact ⟨0, Nat.zero_le _, rfl, s0.out, by simp [OrdP]⟩
  case round =>
    obtain ⟨i, hi, rfl, st⟩ := hrel
    clear s0
    by_cases hlt : i < o.length
    · have hiI : (i : Int) < o.length := by omega
      obtain ⟨x, hx⟩ : ∃ x, o[i]? = some x := ⟨_, List.getElem?_eq_getElem hlt⟩
      obtain ⟨b1, o1, x1, _, c1⟩ := ch_ix (hoH.out.later st.out.1.b) i x hx
      by_cases h0 : x < 0
      · have hR : Hid (isOrdB h o = false) := by (show _ = _; unfold isOrdB; rw [decide_eq_false (ordP_no hx (.inl h0))]; rfl)
        have hb : Hid (Below w.heap.size w wr) := st.out.1.b
        clear st hx
        go_wp2
        go_ret
        exact ⟨by rw [hR.out]; rfl, hb.out⟩
      · by_cases h1 : (h.length : Int) ≤ x
        · have hR : Hid (isOrdB h o = false) := by (show _ = _; unfold isOrdB; rw [decide_eq_false (ordP_no hx (.inr (.inl h1)))]; rfl)
          have hb : Hid (Below w.heap.size w wr) := st.out.1.b
          clear st hx
          go_wp2
          go_ret
          exact ⟨by rw [hR.out]; rfl, hb.out⟩
        · obtain ⟨p, rfl⟩ : ∃ p : Nat, x = (p : Int) := ⟨x.toNat, by omega⟩
          have hp : p < 8 := by omega
          have xs := ixq8 w.heap.size p hp
          have cs : wr.cell? ⟨w.heap.size, p, none⟩ = some (.bool (inL (o.take i) p)) := cell_lc st.out.1.s (boolRow_at hp)
          by_cases h2 : (p : Int) ∈ o.take i
          · have hR : Hid (isOrdB h o = false) := by (show _ = _; unfold isOrdB; rw [decide_eq_false (ordP_no hx (.inr (.inr h2)))]; rfl)
            have hb : Hid (Below w.heap.size w wr) := st.out.1.b
            have hi2 : inL (o.take i) p = true := by (unfold inL; exact decide_eq_true h2)
            rw [hi2] at cs
            clear st hx hi2 h2
            go_wp2
            go_ret
            exact ⟨by rw [hR.out]; rfl, hb.out⟩
          · have hi2 : inL (o.take i) p = false := by (unfold inL; exact decide_eq_false h2)
            rw [hi2] at cs
            have hO : Hid (OrdP h.length (o.take (i + 1))) := ordP_take_succ hx st.out.2 (by omega) (by omega) h2
            have hE : Hid (_ = inL (o.take (i + 1))) := inL_step hx
            have sH : Hid (RoS w wr (inL (o.take i))) := st.out.1
            clear st hx hi2 h2
            go_wp2_with (refine wpList_putb rfl 4 _ _ rfl ⟨w.heap.size, p, none⟩ rfl true rfl (by kernel_rfl) _ cs (frozen_of_row _ _ _ _ _ sH.out.s) fun W' hW' => ?_; (have st3 : Hid (RoS w W' (inL (o.take (i + 1)))) := by (rw [hW', ← hE.out, setCell_eq_setRow wr w.heap.size p _ _ _ _ sH.out.s, boolRow_set]; exact ⟨setRow_heap _ _ _ _ _ _ sH.out.s, below_setRow sH.out.b (Nat.le_refl _) _⟩)); clear hW')
            go_roundw
            case rel => exact ⟨i + 1, by omega, by go_num, st3.out, hO.out⟩
            case measure => simp [intOf]; omega
    · have hie : i = o.length := by omega
      subst hie
      have hiI : ¬ (o.length : Int) < o.length := by omega
      have hR : Hid (isOrdB h o = hasB (inL o) (lastK h h.length)) := by
        have q := st.out.2
        rw [List.take_length] at q
        show _ = _
        unfold isOrdB
        rw [decide_eq_true q]; rfl
      have sH : Hid (RoS w wr (inL o)) := by
        have q := st.out.1
        rw [List.take_length] at q
        exact q
      clear st
      go_wp2
      go_loopw [7] (fun u wq => ∃ i : Nat, i ≤ h.length ∧ u = .int .i64 (i : Int) ∧ Hid (wq = wr ∧ ∀ j, j < i → lastK h h.length j = true → inL o j = true)) (fun u _ => h.length - (intOf u).toNat)
      case atStart => exact ⟨0, Nat.zero_le _, rfl, rfl, fun j h => by omega⟩
      case round =>
        obtain ⟨i, hi, rfl, st⟩ := hrel
        obtain ⟨hw, hall'⟩ := st.out
        subst hw
        have hall : Hid (∀ j, j < i → lastK h h.length j = true → inL o j = true) := hall'
        clear st hall'
        by_cases hlt : i < h.length
        · have hiI : (i : Int) < h.length := by omega
          obtain ⟨b1, o1, x1, _, r1⟩ := cl_ix (hhH.out.later sH.out.b) hlt
          have c6 : wr.cell? ⟨b1, o1 + 6, none⟩ = some (.int .i64 (hf h i).en) := r1 6 _ rfl
          have xs := ixq8 w.heap.size i (by omega)
          have cs : wr.cell? ⟨w.heap.size, i, none⟩ = some (.bool (inL o i)) := cell_lc sH.out.s (boolRow_at (by omega))
          have hL : Hid (lastK h h.length i = !(hf h i).pend) := by show _ = _; unfold lastK; simp [hlt]
          have hP : Hid ((hf h i).pend = ((hf h i).en == -1)) := rfl
          have hnx : Hid ((lastK h h.length i = true → inL o i = true) → ∀ j, j < i + 1 → lastK h h.length j = true → inL o j = true) := fun q j hj => by
            by_cases e : j = i
            · subst e; exact q
            · exact hall.out j (by omega)
          have hno : Hid (lastK h h.length i = true → inL o i = false → hasB (inL o) (lastK h h.length) = false) := hasB_no (by omega)
          clear r1 hall
          by_cases hp : (hf h i).en = -1
          · have hpB : ((hf h i).en != -1) = false := by rw [hp]; rfl
            have hn2 : Hid _ := hnx.out (by rw [hL.out, hP.out, hp]; simp)
            generalize (hf h i).en = en at *
            clear hnx hno hL hP hp
            go_wp2
            go_roundw
            case rel => first | exact ⟨i + 1, by omega, by go_num, rfl, hn2.out⟩ | exact ⟨i + 1, by omega, by go_num, trivial, hn2.out⟩ | exact ⟨i + 1, by omega, by go_num, by simp, hn2.out⟩
            case measure => simp [intOf]; omega
          · have hpB : ((hf h i).en != -1) = true := by simp [hp]
            have hL2 : Hid (lastK h h.length i = true) := by (show _ = _; rw [hL.out, hP.out]; simp [hp])
            cases hin : inL o i with
            | true =>
              have hn2 : Hid _ := hnx.out (fun _ => hin)
              rw [hin] at cs
              generalize (hf h i).en = en at *
              clear hnx hno hL hP hin hL2
              go_wp2
              go_roundw
              case rel => first | exact ⟨i + 1, by omega, by go_num, rfl, hn2.out⟩ | exact ⟨i + 1, by omega, by go_num, trivial, hn2.out⟩ | exact ⟨i + 1, by omega, by go_num, by simp, hn2.out⟩
              case measure => simp [intOf]; omega
            | false =>
              have hR2 : Hid (isOrdB h o = false) := by (show _ = _; rw [hR.out]; exact hno.out hL2.out hin)
              rw [hin] at cs
              generalize (hf h i).en = en at *
              clear hnx hno hL hP hin hL2 hR
              go_wp2
              go_ret
              exact ⟨by rw [hR2.out]; rfl, sH.out.b⟩
        · have hie : i = h.length := by omega
          subst hie
          have hiI : ¬ (h.length : Int) < h.length := by omega
          have hR2 : Hid (isOrdB h o = true) := by
            show _ = _
            rw [hR.out]
            refine hasB_yes fun j _ hj => hall.out j ?_ hj
            unfold lastK at hj
            simp only [Bool.and_eq_true, decide_eq_true_eq] at hj
            exact hj.1
          clear hall hR
          go_wp2
          go_ret
          exact ⟨by rw [hR2.out]; rfl, sH.out.b⟩
end Go.Proofs.Ytklpifammbnldaa.pg
/- Whether an order fits, in the document's own words. -/
namespace Go.Proofs.Ytklpifammbnldaa.pg
open Go.ChangeShapes Go.WideShapes Go.ChangeAt Go.RowKit
set_option linter.unusedVariables false
set_option linter.unusedSimpArgs false
set_option maxRecDepth 100000
attribute [local go_sem ↓] Go.wp_at_zero Go.wp_at_succ
def inA (q : Nat → Nat → Bool) (i j : Nat) : Bool := (List.range j).all fun a => q i a
def upA (q : Nat → Nat → Bool) (i : Nat) : Bool := (List.range i).all fun b => inA q b b
/-- What has been asked of the pairs so far. -/
def kA2 (q : Nat → Nat → Bool) (i j : Nat) : Bool := upA q i && inA q i j
theorem kA2_zero (q : Nat → Nat → Bool) (i : Nat) : kA2 q i 0 = upA q i := by unfold kA2 inA; simp
theorem kA2_step (q : Nat → Nat → Bool) (i j : Nat) : kA2 q i (j + 1) = (kA2 q i j && q i j) := by
  unfold kA2 inA; rw [List.range_succ, List.all_append]; simp [Bool.and_assoc]
theorem kA2_end (q : Nat → Nat → Bool) (i : Nat) : kA2 q i i = upA q (i + 1) := by
  unfold kA2 upA; rw [List.range_succ, List.all_append]; simp
/-- How the document's Fits stands, between two rounds. -/
structure FiS (w X : World) (k : Int) (c : List Int) : Prop where
  ex : ∃ n a m lc, X.heap[w.heap.size]? = some (oDg n a m lc) ∧ RepD X k c n a m lc ∧ ∀ g ∈ blk a, g ≠ w.heap.size ∧ g < X.heap.size
  b : Below w.heap.size w X
theorem FiS.later {w X X' : World} {k : Int} {c : List Int} (g : FiS w X k c) (hb : Below X.heap.size X X') : FiS w X' k c := by
  obtain ⟨n, a, m, lc, h1, h2, h3⟩ := g.ex
  exact ⟨⟨n, a, m, lc, blk_on h1 hb, h2.later hb, fun g hg => ⟨(h3 g hg).1, Nat.lt_of_lt_of_le (h3 g hg).2 hb.size⟩⟩, bthen g.b hb⟩
theorem FiS.put {w X : World} {k : Int} {c : List Int} {n n' : Int} {a a' : Option Addr} {m m' lc lc' : Nat} (h1 : X.heap[w.heap.size]? = some (oDg n a m lc)) (h2 : RepD X k c n' a' m' lc') (h3 : ∀ g ∈ blk a', g ≠ w.heap.size ∧ g < X.heap.size) (hb : Below w.heap.size w X) : FiS w (X.setRow w.heap.size #[.int .i64 n', .slice a' m' lc']) k c := by
  refine ⟨⟨n', a', m', lc', setRow_heap _ _ _ _ _ _ h1, ?_, fun g hg => ⟨(h3 g hg).1, by rw [setRow_size]; exact (h3 g hg).2⟩⟩, below_setRow hb (Nat.le_refl _) _⟩
  exact h2.imp_right fun ⟨q1, q2, q3, q4⟩ => ⟨q1, q2, q3, rows_keepL q4 fun g hg => setRow_other _ _ _ _ (h3 g hg).1⟩
def qEnd (h : List Cl) (r : List Nat) (i j : Nat) : Bool := !endB (hf h (rg r i)) (hf h (rg r j))
def qTrn (h : List Cl) (r : List Nat) (i j : Nat) : Bool := ((hf h (rg r i)).go != (hf h (rg r j)).go) || decide ((hf h (rg r j)).bg < (hf h (rg r i)).bg)
theorem results_tmp3 {fn : Func} {t u v : Tmp} (h : fn.results = #[.tmp t, .tmp u, .tmp v]) (tmps : Array Value) (P : Program) (w : World) :
    (results fn tmps).run P w = .ok (.tuple #[tmps.getD t undef, tmps.getD u undef, tmps.getD v undef]) w := by
  simp [results, h]
section
variable {w : World} {k : Int} {h : List Cl} {ha oa : Option Addr} {hc oc : Nat} {r : List Nat}
set_option maxHeartbeats 8000000 in
theorem rfitsL_any (hh : Rows w 7 ha hc (h.map Cl.cells)) (hI : ∀ x ∈ h, I64 x.inn) (hR : RightH k h) (ho : Rows w 1 oa oc ((asI r).map chCells)) (hr : ∀ x ∈ r, x < h.length) (hr8 : r.length ≤ 8) : Calls Try.prog 20 #[.int .i64 k, .slice ha h.length hc, .slice oa r.length oc] w fun e w' => e = .returned (.tuple #[.bool (runC k h (firstC k) r).2, .bool (upA (qEnd h r) r.length), .bool (upA (qTrn h r) r.length)]) ∧ Below w.heap.size w w' := by
  have hhH : Hid (Rows w 7 ha hc (h.map Cl.cells)) := hh
  have hoH : Hid (Rows w 1 oa oc ((asI r).map chCells)) := ho
  have hRH : Hid (RightH k h) := hR
  have hrr : Hid (∀ i, i < r.length → rg r i < h.length) := fun i hi => hr _ (List.mem_of_getElem? (rg_at hi))
  have hIv : Hid (∀ i, i ≤ r.length → InvC k (runT k h r i).1 i) := runT_inv hR hI hr
  have hr8I : (r.length : Int) ≤ 8 := by omega
  have huX : Hid (Try.prog.underlying 53 = _) := Try.underlying53
  have huD : Hid (Try.prog.underlying TD6 = _) := Try.underlying75
  have s0 : Hid (FiS w (w.alloc (oDg 0 none 0 0)) k (runT k h r 0).1 ∧ (runT k h r 0).2 = true ∧ upA (qEnd h r) 0 = true ∧ upA (qTrn h r) 0 = true) := by
    rw [runT_zero]
    exact ⟨⟨⟨0, none, 0, 0, heap_alloc_new _ _, repD_zero _ hR.kd, fun g hg => by simp [blk] at hg⟩, boxed _ _⟩, rfl, rfl, rfl⟩
  clear hh hR ho hI hr
  go_enter Try.func20, Try.ntmps20
  go_wp2_with fail
  generalize w.alloc (oDg 0 none 0 0) = W at *
  go_loopw [9, 10, 11, 13] (fun u9 u10 u11 u wr => ∃ i : Nat, i ≤ r.length ∧ u = .int .i64 (i : Int) ∧ u9 = .bool (runT k h r i).2 ∧ u10 = .bool (upA (qEnd h r) i) ∧ u11 = .bool (upA (qTrn h r) i) ∧ Hid (FiS w wr k (runT k h r i).1)) (fun _ _ _ u _ => r.length - (intOf u).toNat)
  case atStart => exact ⟨0, Nat.zero_le _, rfl, by rw [s0.out.2.1], by rw [s0.out.2.2.1], by rw [s0.out.2.2.2], s0.out.1⟩
  case round =>
    obtain ⟨i, hi, rfl, rfl, rfl, rfl, hst⟩ := hrel
    clear s0
    by_cases hlt : i < r.length
    · have hiI : (i : Int) < r.length := by omega
      obtain ⟨b1, o1, x1, c1⟩ := ord_ix (hoH.out.later hst.out.b) hlt
      have hli : rg r i < h.length := hrr.out i hlt
      obtain ⟨b3, o3, x3, hl3, r3⟩ := cl_ix (hhH.out.later hst.out.b) hli
      have hXD : Hid (doesB k (hf h (rg r i)).d = true ∧ rcB (hf h (rg r i)) = true ∧ OkC k (hf h (rg r i)).d (runT k h r i).1) := ⟨(hRH.out.c _ (hf_mem hli)).1, (hRH.out.c _ (hf_mem hli)).2, inv_ok (hIv.out i hi) hRH.out.kd (by omega) (hRH.out.c _ (hf_mem hli)).1⟩
      have hsH : Hid (runT k h r (i + 1) = (nxtC k (runT k h r i).1 (hf h (rg r i)), (runT k h r i).2 && fitC k (runT k h r i).1 (hf h (rg r i)))) := runT_step (k := k) (h := h) hlt
      obtain ⟨x, hx⟩ : ∃ x, hf h (rg r i) = x := ⟨_, rfl⟩
      have hxH : Hid (hf h (rg r i) = x) := hx
      rw [hx] at r3 hXD hsH
      have r3H : Hid (wr.rangeAt b3 o3 [.int .i64 x.go, .int .i64 x.d, .int .i64 x.inn, .int .i64 x.out, .bool x.em, .int .i64 x.bg, .int .i64 x.en]) := r3
      obtain ⟨n, a, m, lc, hT, hRp, hbk⟩ := hst.out.ex
      have hTH : Hid (wr.heap[w.heap.size]? = some (oDg n a m lc) ∧ RepD wr k (runT k h r i).1 n a m lc ∧ (∀ g ∈ blk a, g ≠ w.heap.size ∧ g < wr.heap.size) ∧ Below w.heap.size w wr ∧ w.heap.size < wr.heap.size) := ⟨hT, hRp, hbk, hst.out.b, (Array.getElem?_eq_some_iff.mp hT).1⟩
      clear hst hx r3 hT hRp hbk hl3
      go_upto_region 7 with (first
        | ((with_reducible refine at_loadL 53 (.tmp 31) rfl ?_); refine stopL_out ?_; refine wpList_load_mid rfl 53 _ rfl b3 o3 rfl [.int .i64 x.go, .int .i64 x.d, .int .i64 x.inn, .int .i64 x.out, .bool x.em, .int .i64 x.bg, .int .i64 x.en] _ r3H.out huX.out rfl infoX ?_))
      obtain ⟨C, hC⟩ : ∃ C, wr.heap.size = C := ⟨_, rfl⟩
      obtain ⟨V, hV⟩ : ∃ V, wr.alloc (oCl x) = V := ⟨_, rfl⟩
      have hV1 : Hid (V.heap[w.heap.size]? = some (oDg n a m lc) ∧ RepD V k (runT k h r i).1 n a m lc ∧ (∀ g ∈ blk a, g ≠ w.heap.size ∧ g < V.heap.size) ∧ Below w.heap.size w V ∧ V.heap[C]? = some (oCl x) ∧ w.heap.size < C) := by
        rw [← hV, ← hC]
        exact ⟨blk_on hTH.out.1 (boxed _ _), hTH.out.2.1.later (boxed _ _), fun g hg => ⟨(hTH.out.2.2.1 g hg).1, by rw [World.size_alloc]; have := (hTH.out.2.2.1 g hg).2; omega⟩, bthen hTH.out.2.2.2.1 (boxed _ _), heap_alloc_new _ _, hTH.out.2.2.2.2⟩
      rw [show wr.alloc (.cells #[.int .i64 x.go, .int .i64 x.d, .int .i64 x.inn, .int .i64 x.out, .bool x.em, .int .i64 x.bg, .int .i64 x.en] 53) = V from hV]
      try rw [hC]
      clear hTH hV r3H x1 c1 x3
      have cD := rdo_any (w := V) hXD.out.1 hXD.out.2.1 hXD.out.2.2 hV1.out.2.1
      go_upto_region 8 with (first
        | ((with_reducible refine at_loadL TD6 (.tmp 12) rfl ?_); refine stopL_out ?_; refine wpList_load_row rfl TD6 _ rfl w.heap.size rfl _ _ _ _ hV1.out.1 huD.out rfl infoDg ?_)
        | ((with_reducible refine at_loadL 53 (.tmp 14) rfl ?_); refine stopL_out ?_; refine wpList_load_row rfl 53 _ rfl C rfl _ _ _ _ hV1.out.2.2.2.2.1 huX.out rfl infoX ?_)
        | (go_at_call 36; (with_reducible refine cD.mono ?_); rintro e w1 ⟨n', a', m', lc', rfl, hR1', hb1', hf1'⟩; (have hW1 : Hid (RepD w1 k (nxtC k (runT k h r i).1 x) n' a' m' lc' ∧ Below V.heap.size V w1 ∧ ∀ g ∈ blk a', g ∈ blk a ∨ (V.heap.size < g ∧ g < w1.heap.size)) := ⟨hR1', hb1', hf1'⟩); clear hR1' hb1' hf1'))
      have hVs : w.heap.size < V.heap.size := (Array.getElem?_eq_some_iff.mp hV1.out.1).1
      have hW2 : Hid ((w1.alloc (oDg n' a' m' lc')).heap[w1.heap.size]? = some (oDg n' a' m' lc') ∧ (w1.alloc (oDg n' a' m' lc')).heap[w.heap.size]? = some (oDg n a m lc) ∧ RepD (w1.alloc (oDg n' a' m' lc')) k (nxtC k (runT k h r i).1 x) n' a' m' lc' ∧ (∀ g ∈ blk a', g ≠ w.heap.size ∧ g < (w1.alloc (oDg n' a' m' lc')).heap.size) ∧ Below w.heap.size w (w1.alloc (oDg n' a' m' lc')) ∧ (w1.alloc (oDg n' a' m' lc')).heap[C]? = some (oCl x) ∧ w.heap.size < C) :=
        ⟨heap_alloc_new _ _, blk_on (blk_on hV1.out.1 hW1.out.2.1) (boxed _ _), hW1.out.1.later (boxed _ _), fun g hg => by
          rw [World.size_alloc]
          rcases hW1.out.2.2 g hg with q | q
          · have := hV1.out.2.2.1 g q
            have := hW1.out.2.1.size
            omega
          · omega, bthen (bthen hV1.out.2.2.2.1 hW1.out.2.1) (boxed _ _), blk_on (blk_on hV1.out.2.2.2.2.1 hW1.out.2.1) (boxed _ _), hV1.out.2.2.2.2.2⟩
      clear cD hV1 hW1
      generalize w1.alloc (oDg n' a' m' lc') = Z at *
      generalize w1.heap.size = D at *
      go_upto_region 9 with (first
        | ((with_reducible refine at_loadL TD6 (.tmp 15) rfl ?_); refine stopL_out ?_; refine wpList_load_row rfl TD6 _ rfl D rfl _ _ _ _ hW2.out.1 huD.out rfl infoDg ?_)
        | ((with_reducible refine at_storeL TD6 (.tmp 12) _ rfl ?_); refine stopL_out ?_; refine wpList_store_row rfl TD6 _ _ rfl w.heap.size #[.int .i64 n', .slice a' m' lc'] rfl rfl _ _ hW2.out.2.1 infoDg rfl (dg_one _ _ _ _) ?_))
      obtain ⟨Y, hY⟩ : ∃ Y, Z.setRow w.heap.size #[.int .i64 n', .slice a' m' lc'] = Y := ⟨_, rfl⟩
      have hYS : Hid (FiS w Y k (runT k h r (i + 1)).1 ∧ Y.heap[C]? = some (oCl x) ∧ w.heap.size < C) := by
        rw [← hY, hsH.out]
        exact ⟨FiS.put hW2.out.2.1 hW2.out.2.2.1 hW2.out.2.2.2.1 hW2.out.2.2.2.2.1, (setRow_other _ _ _ _ (by have := hW2.out.2.2.2.2.2.2; omega)).trans hW2.out.2.2.2.2.2.1, hW2.out.2.2.2.2.2.2⟩
      rw [hY]
      have hFt : Hid ((runT k h r (i + 1)).2 = ((runT k h r i).2 && fitC k (runT k h r i).1 x)) := by show _ = _; rw [hsH.out]
      clear hW2 hY hsH hXD
      generalize (runT k h r i).2 = p at *
      generalize fitC k (runT k h r i).1 x = q at *
      have hkE : upA (qEnd h r) i = kA2 (qEnd h r) i 0 := (kA2_zero _ _).symm
      have hkT : upA (qTrn h r) i = kA2 (qTrn h r) i 0 := (kA2_zero _ _).symm
      rw [hkE, hkT]
      cases p with
      | true =>
        go_wp2_with fail
        go_loopw [10, 11, 17] (fun u10 u11 u wq => ∃ j : Nat, j ≤ i ∧ u = .int .i64 (j : Int) ∧ u10 = .bool (kA2 (qEnd h r) i j) ∧ u11 = .bool (kA2 (qTrn h r) i j) ∧ Hid (FiS w wq k (runT k h r (i + 1)).1 ∧ wq.heap[C]? = some (oCl x) ∧ w.heap.size < C)) (fun _ _ u _ => i - (intOf u).toNat)
        case atStart => exact ⟨0, Nat.zero_le _, rfl, rfl, rfl, hYS⟩
        case round =>
          obtain ⟨j, hj, rfl, rfl, rfl, hst⟩ := hrel
          clear hYS
          by_cases hlt2 : j < i
          · have hjI : (j : Int) < i := by omega
            have hjr : j < r.length := by omega
            obtain ⟨b2, o2, x2, c2⟩ := ord_ix (hoH.out.later hst.out.1.b) hjr
            have hlj : rg r j < h.length := hrr.out j hjr
            obtain ⟨b4, o4, x4, hl4, r4⟩ := cl_ix (hhH.out.later hst.out.1.b) hlj
            obtain ⟨y, hy⟩ : ∃ y, hf h (rg r j) = y := ⟨_, rfl⟩
            rw [hy] at r4
            have r4H : Hid (wr.rangeAt b4 o4 [.int .i64 y.go, .int .i64 y.d, .int .i64 y.inn, .int .i64 y.out, .bool y.em, .int .i64 y.bg, .int .i64 y.en]) := r4
            have sE : Hid (kA2 (qEnd h r) i (j + 1) = (kA2 (qEnd h r) i j && !endB x y)) := by (show _ = _; rw [kA2_step]; unfold qEnd; rw [hxH.out, hy])
            have sT : Hid (kA2 (qTrn h r) i (j + 1) = (kA2 (qTrn h r) i j && ((x.go != y.go) || decide (y.bg < x.bg)))) := by (show _ = _; rw [kA2_step]; unfold qTrn; rw [hxH.out, hy])
            have hS2 : Hid (FiS w (wr.alloc (oCl y)) k (runT k h r (i + 1)).1 ∧ (wr.alloc (oCl y)).heap[C]? = some (oCl x) ∧ (wr.alloc (oCl y)).heap[wr.heap.size]? = some (oCl y) ∧ w.heap.size < C) := ⟨hst.out.1.later (boxed _ _), blk_on hst.out.2.1 (boxed _ _), heap_alloc_new _ _, hst.out.2.2⟩
            clear hst hy r4 hl4
            go_upto_region 14 with (first
              | ((with_reducible refine at_loadL 53 (.tmp 55) rfl ?_); refine stopL_out ?_; refine wpList_load_mid rfl 53 _ rfl b4 o4 rfl [.int .i64 y.go, .int .i64 y.d, .int .i64 y.inn, .int .i64 y.out, .bool y.em, .int .i64 y.bg, .int .i64 y.en] _ r4H.out huX.out rfl infoX ?_))
            generalize wr.alloc (.cells #[.int .i64 y.go, .int .i64 y.d, .int .i64 y.inn, .int .i64 y.out, .bool y.em, .int .i64 y.bg, .int .i64 y.en] 53) = Q at *
            generalize wr.heap.size = G at *
            clear r4H x2 c2 x4
            have cA : ∀ wx, Calls Try.prog 27 #[x.val, y.val] wx _ := fun wx => rahead_any x y wx
            obtain ⟨t0, ht0⟩ : ∃ t, kA2 (qEnd h r) i j = t := ⟨_, rfl⟩
            obtain ⟨t1, ht1⟩ : ∃ t, kA2 (qTrn h r) i j = t := ⟨_, rfl⟩
            obtain ⟨z, hz⟩ : ∃ z, endB x y = z := ⟨_, rfl⟩
            rw [ht0] at sE ⊢
            rw [ht1] at sT ⊢
            rw [hz] at sE cA
            clear ht0 ht1 hz
            cases t0 with
            | true =>
              obtain ⟨k0, k1, k2, k3, k4, k5, k6⟩ := cl7 hS2.out.2.1
              obtain ⟨j0, j1, j2, j3, j4, j5, j6⟩ := cl7 hS2.out.2.2.1
              go_upto_region 15 with (first
                | (go_at_call 27; (with_reducible refine (cA _).mono ?_); rintro e w5 ⟨rfl, hb5'⟩; (have hS3 : Hid (FiS w w5 k (runT k h r (i + 1)).1 ∧ w5.heap[C]? = some (oCl x) ∧ w5.heap[G]? = some (oCl y) ∧ w.heap.size < C) := ⟨hS2.out.1.later hb5', blk_on hS2.out.2.1 hb5', blk_on hS2.out.2.2.1 hb5', hS2.out.2.2.2⟩); clear hb5' k0 k1 k2 k3 k4 k5 k6 j0 j1 j2 j3 j4 j5 j6))
              clear hS2 cA
              obtain ⟨k0, _, _, _, _, k5, _⟩ := cl7 hS3.out.2.1
              obtain ⟨j0, _, _, _, _, j5, _⟩ := cl7 hS3.out.2.2.1
              cases t1 with
              | false =>
                go_wp2
                go_roundw
                case rel => exact ⟨j + 1, by omega, by go_num, by rw [sE.out]; simp, by rw [sT.out]; simp, hS3.out.1, hS3.out.2.1, hS3.out.2.2.2⟩
                case measure => simp [intOf]; omega
              | true =>
                cases hg : (x.go == y.go) with
                | false =>
                  have hgn : (x.go != y.go) = true := by simp [bne, hg]
                  go_wp2
                  go_roundw
                  case rel => exact ⟨j + 1, by omega, by go_num, by rw [sE.out]; simp, by rw [sT.out]; simp [hgn], hS3.out.1, hS3.out.2.1, hS3.out.2.2.2⟩
                  case measure => simp [intOf]; omega
                | true =>
                  have hgn : (x.go != y.go) = false := by simp [bne, hg]
                  go_wp2
                  go_roundw
                  case rel => exact ⟨j + 1, by omega, by go_num, by rw [sE.out]; simp, by rw [sT.out]; simp [hgn], hS3.out.1, hS3.out.2.1, hS3.out.2.2.2⟩
                  case measure => simp [intOf]; omega
            | false =>
              go_upto_region 15 with fail
              have hS3 : Hid (FiS w Q k (runT k h r (i + 1)).1 ∧ Q.heap[C]? = some (oCl x) ∧ Q.heap[G]? = some (oCl y) ∧ w.heap.size < C) := hS2.out
              clear hS2 cA
              obtain ⟨k0, _, _, _, _, k5, _⟩ := cl7 hS3.out.2.1
              obtain ⟨j0, _, _, _, _, j5, _⟩ := cl7 hS3.out.2.2.1
              cases t1 with
              | false =>
                go_wp2
                go_roundw
                case rel => exact ⟨j + 1, by omega, by go_num, by rw [sE.out]; simp, by rw [sT.out]; simp, hS3.out.1, hS3.out.2.1, hS3.out.2.2.2⟩
                case measure => simp [intOf]; omega
              | true =>
                cases hg : (x.go == y.go) with
                | false =>
                  have hgn : (x.go != y.go) = true := by simp [bne, hg]
                  go_wp2
                  go_roundw
                  case rel => exact ⟨j + 1, by omega, by go_num, by rw [sE.out]; simp, by rw [sT.out]; simp [hgn], hS3.out.1, hS3.out.2.1, hS3.out.2.2.2⟩
                  case measure => simp [intOf]; omega
                | true =>
                  have hgn : (x.go != y.go) = false := by simp [bne, hg]
                  go_wp2
                  go_roundw
                  case rel => exact ⟨j + 1, by omega, by go_num, by rw [sE.out]; simp, by rw [sT.out]; simp [hgn], hS3.out.1, hS3.out.2.1, hS3.out.2.2.2⟩
                  case measure => simp [intOf]; omega
          · have hje : j = i := by omega
            have hjI : ¬ (j : Int) < i := by omega
            have hkE2 : kA2 (qEnd h r) i j = upA (qEnd h r) (i + 1) := by rw [hje]; exact kA2_end _ _
            have hkT2 : kA2 (qTrn h r) i j = upA (qTrn h r) (i + 1) := by rw [hje]; exact kA2_end _ _
            rw [hkE2, hkT2]
            go_wp2
            go_roundw
            case rel => exact ⟨i + 1, by omega, by go_num, by rw [hFt.out]; simp, rfl, rfl, hst.out.1⟩
            case measure => simp [intOf]; omega
      | false =>
        go_wp2_with fail
        go_loopw [10, 11, 17] (fun u10 u11 u wq => ∃ j : Nat, j ≤ i ∧ u = .int .i64 (j : Int) ∧ u10 = .bool (kA2 (qEnd h r) i j) ∧ u11 = .bool (kA2 (qTrn h r) i j) ∧ Hid (FiS w wq k (runT k h r (i + 1)).1 ∧ wq.heap[C]? = some (oCl x) ∧ w.heap.size < C)) (fun _ _ u _ => i - (intOf u).toNat)
        case atStart => exact ⟨0, Nat.zero_le _, rfl, rfl, rfl, hYS⟩
        case round =>
          obtain ⟨j, hj, rfl, rfl, rfl, hst⟩ := hrel
          clear hYS
          by_cases hlt2 : j < i
          · have hjI : (j : Int) < i := by omega
            have hjr : j < r.length := by omega
            obtain ⟨b2, o2, x2, c2⟩ := ord_ix (hoH.out.later hst.out.1.b) hjr
            have hlj : rg r j < h.length := hrr.out j hjr
            obtain ⟨b4, o4, x4, hl4, r4⟩ := cl_ix (hhH.out.later hst.out.1.b) hlj
            obtain ⟨y, hy⟩ : ∃ y, hf h (rg r j) = y := ⟨_, rfl⟩
            rw [hy] at r4
            have r4H : Hid (wr.rangeAt b4 o4 [.int .i64 y.go, .int .i64 y.d, .int .i64 y.inn, .int .i64 y.out, .bool y.em, .int .i64 y.bg, .int .i64 y.en]) := r4
            have sE : Hid (kA2 (qEnd h r) i (j + 1) = (kA2 (qEnd h r) i j && !endB x y)) := by (show _ = _; rw [kA2_step]; unfold qEnd; rw [hxH.out, hy])
            have sT : Hid (kA2 (qTrn h r) i (j + 1) = (kA2 (qTrn h r) i j && ((x.go != y.go) || decide (y.bg < x.bg)))) := by (show _ = _; rw [kA2_step]; unfold qTrn; rw [hxH.out, hy])
            have hS2 : Hid (FiS w (wr.alloc (oCl y)) k (runT k h r (i + 1)).1 ∧ (wr.alloc (oCl y)).heap[C]? = some (oCl x) ∧ (wr.alloc (oCl y)).heap[wr.heap.size]? = some (oCl y) ∧ w.heap.size < C) := ⟨hst.out.1.later (boxed _ _), blk_on hst.out.2.1 (boxed _ _), heap_alloc_new _ _, hst.out.2.2⟩
            clear hst hy r4 hl4
            go_upto_region 14 with (first
              | ((with_reducible refine at_loadL 53 (.tmp 55) rfl ?_); refine stopL_out ?_; refine wpList_load_mid rfl 53 _ rfl b4 o4 rfl [.int .i64 y.go, .int .i64 y.d, .int .i64 y.inn, .int .i64 y.out, .bool y.em, .int .i64 y.bg, .int .i64 y.en] _ r4H.out huX.out rfl infoX ?_))
            generalize wr.alloc (.cells #[.int .i64 y.go, .int .i64 y.d, .int .i64 y.inn, .int .i64 y.out, .bool y.em, .int .i64 y.bg, .int .i64 y.en] 53) = Q at *
            generalize wr.heap.size = G at *
            clear r4H x2 c2 x4
            have cA : ∀ wx, Calls Try.prog 27 #[x.val, y.val] wx _ := fun wx => rahead_any x y wx
            obtain ⟨t0, ht0⟩ : ∃ t, kA2 (qEnd h r) i j = t := ⟨_, rfl⟩
            obtain ⟨t1, ht1⟩ : ∃ t, kA2 (qTrn h r) i j = t := ⟨_, rfl⟩
            obtain ⟨z, hz⟩ : ∃ z, endB x y = z := ⟨_, rfl⟩
            rw [ht0] at sE ⊢
            rw [ht1] at sT ⊢
            rw [hz] at sE cA
            clear ht0 ht1 hz
            cases t0 with
            | true =>
              obtain ⟨k0, k1, k2, k3, k4, k5, k6⟩ := cl7 hS2.out.2.1
              obtain ⟨j0, j1, j2, j3, j4, j5, j6⟩ := cl7 hS2.out.2.2.1
              go_upto_region 15 with (first
                | (go_at_call 27; (with_reducible refine (cA _).mono ?_); rintro e w5 ⟨rfl, hb5'⟩; (have hS3 : Hid (FiS w w5 k (runT k h r (i + 1)).1 ∧ w5.heap[C]? = some (oCl x) ∧ w5.heap[G]? = some (oCl y) ∧ w.heap.size < C) := ⟨hS2.out.1.later hb5', blk_on hS2.out.2.1 hb5', blk_on hS2.out.2.2.1 hb5', hS2.out.2.2.2⟩); clear hb5' k0 k1 k2 k3 k4 k5 k6 j0 j1 j2 j3 j4 j5 j6))
              clear hS2 cA
              obtain ⟨k0, _, _, _, _, k5, _⟩ := cl7 hS3.out.2.1
              obtain ⟨j0, _, _, _, _, j5, _⟩ := cl7 hS3.out.2.2.1
              cases t1 with
              | false =>
                go_wp2
                go_roundw
                case rel => exact ⟨j + 1, by omega, by go_num, by rw [sE.out]; simp, by rw [sT.out]; simp, hS3.out.1, hS3.out.2.1, hS3.out.2.2.2⟩
                case measure => simp [intOf]; omega
              | true =>
                cases hg : (x.go == y.go) with
                | false =>
                  have hgn : (x.go != y.go) = true := by simp [bne, hg]
                  go_wp2
                  go_roundw
                  case rel => exact ⟨j + 1, by omega, by go_num, by rw [sE.out]; simp, by rw [sT.out]; simp [hgn], hS3.out.1, hS3.out.2.1, hS3.out.2.2.2⟩
                  case measure => simp [intOf]; omega
                | true =>
                  have hgn : (x.go != y.go) = false := by simp [bne, hg]
                  go_wp2
                  go_roundw
                  case rel => exact ⟨j + 1, by omega, by go_num, by rw [sE.out]; simp, by rw [sT.out]; simp [hgn], hS3.out.1, hS3.out.2.1, hS3.out.2.2.2⟩
                  case measure => simp [intOf]; omega
            | false =>
              go_upto_region 15 with fail
              have hS3 : Hid (FiS w Q k (runT k h r (i + 1)).1 ∧ Q.heap[C]? = some (oCl x) ∧ Q.heap[G]? = some (oCl y) ∧ w.heap.size < C) := hS2.out
              clear hS2 cA
              obtain ⟨k0, _, _, _, _, k5, _⟩ := cl7 hS3.out.2.1
              obtain ⟨j0, _, _, _, _, j5, _⟩ := cl7 hS3.out.2.2.1
              cases t1 with
              | false =>
                go_wp2
                go_roundw
                case rel => exact ⟨j + 1, by omega, by go_num, by rw [sE.out]; simp, by rw [sT.out]; simp, hS3.out.1, hS3.out.2.1, hS3.out.2.2.2⟩
                case measure => simp [intOf]; omega
              | true =>
                cases hg : (x.go == y.go) with
                | false =>
                  have hgn : (x.go != y.go) = true := by simp [bne, hg]
                  go_wp2
                  go_roundw
                  case rel => exact ⟨j + 1, by omega, by go_num, by rw [sE.out]; simp, by rw [sT.out]; simp [hgn], hS3.out.1, hS3.out.2.1, hS3.out.2.2.2⟩
                  case measure => simp [intOf]; omega
                | true =>
                  have hgn : (x.go != y.go) = false := by simp [bne, hg]
                  go_wp2
                  go_roundw
                  case rel => exact ⟨j + 1, by omega, by go_num, by rw [sE.out]; simp, by rw [sT.out]; simp [hgn], hS3.out.1, hS3.out.2.1, hS3.out.2.2.2⟩
                  case measure => simp [intOf]; omega
          · have hje : j = i := by omega
            have hjI : ¬ (j : Int) < i := by omega
            have hkE2 : kA2 (qEnd h r) i j = upA (qEnd h r) (i + 1) := by rw [hje]; exact kA2_end _ _
            have hkT2 : kA2 (qTrn h r) i j = upA (qTrn h r) (i + 1) := by rw [hje]; exact kA2_end _ _
            rw [hkE2, hkT2]
            go_wp2
            go_roundw
            case rel => exact ⟨i + 1, by omega, by go_num, by rw [hFt.out]; simp, rfl, rfl, hst.out.1⟩
            case measure => simp [intOf]; omega
    · have hie : i = r.length := by omega
      have hiI : ¬ (i : Int) < r.length := by omega
      have hE : runT k h r i = runC k h (firstC k) r := by rw [hie]; exact runT_all
      rw [hE, hie]
      rw [hie] at hiI
      go_wp2
      exact bodyPost_ret (results_tmp3 rfl _ _ _) rfl ⟨rfl, hst.out.b⟩
end
end Go.Proofs.Ytklpifammbnldaa.pg
