/- Levels are Foata's: CanonFoata, walked. -/
import Derived.Test.YtkadlopcomjonaaM42
import Derived.Test.YtkadlopcomjonaaM34
namespace Go.Proofs.Ytkadlopcomjonaa.pg
open Go.ChangeShapes Go.WideShapes Go.ChangeAt Go.RowKit Go.Shelf
set_option linter.unusedVariables false
set_option linter.unusedSimpArgs false
set_option maxRecDepth 100000
theorem sub_int (a : Option Addr) (n cap j : Nat) (hj : j ≤ cap) (hc : cap ≤ 9223372036854775807) : ∀ wx, (Instr.sliceAt 39 (.slice a n cap) none (some (.int .i64 (j : Int))) none).run Try.prog wx = .ok (.slice a j cap) wx := by
  intro wx
  have u := Try.underlying39
  have z := Try.sizeOf3
  have h1 : ¬ (j : Int) < 0 := by omega
  have h2 : (j : Int) ≤ cap := by omega
  have h3 : ¬ (cap : Int) < j := by omega
  cases a <;> simp [Instr.sliceAt, run_underlying u, asIntOf, go_sem, z, h1, h2, h3, hj]
set_option maxHeartbeats 1000000 in
theorem foata_bad (l : List Ev) (la : Option Addr) (lc : Nat) (w : World) (hl : Rows w 26 la lc (l.map Ev.cells)) (c : Int) (hc : checkP l c) (h0 : c = 2 ∨ c = 7) :
    Calls Try.prog 8 #[.slice la l.length lc] w fun e w' => e = .returned (.bool true) ∧ Below w.heap.size w w' := by
  have c1 := levels_bad l la lc w hl c hc h0
  have c3 : ∀ wx, Below w.heap.size w wx → Calls Try.prog 13 #[.slice la l.length lc] wx _ := fun wx hb => rcheck_any l la lc wx (hl.later hb) c hc
  have cS : ∀ wx, Calls Try.prog 26 #[] wx fun e w' => e = .returned (.bool true) ∧ Below wx.heap.size wx w' := fun wx => small_any wx
  have d : (c != 0) = true := by rcases h0 with rfl | rfl <;> rfl
  clear hl hc h0
  go_enter Try.func8, Try.ntmps8
  go_wp2_with (first
    | (go_at_call 21; (with_reducible refine c1.mono ?_); rintro e w1 ⟨rfl, hb1⟩; (have hB : Hid (Below w.heap.size w w1) := hb1); clear hb1 c1)
    | (go_at_call 13; (refine (c3 _ hB.out).mono ?_); rintro e w2 ⟨rfl, hb2⟩; (have hB : Hid (Below w.heap.size w w2) := bthen hB.out hb2); clear hb2 c3)
    | (go_at_call 26; (with_reducible refine (cS _).mono ?_); rintro e w3 ⟨rfl, hb3⟩; (have hB : Hid (Below w.heap.size w w3) := bthen hB.out hb3); clear hb3 cS))
  go_ret
  exact ⟨rfl, hB.out⟩
/-- What stands in a level. -/
theorem lvL_at {l : List Ev} {h : Nat → Int} {k i : Nat} {x : Int} (hx : (lvL l h k)[i]? = some x) : ∃ n : Nat, x = (n : Int) ∧ (lvRow (gof l) l.length h (k : Int))[i]? = some n ∧ n < l.length ∧ h n = (k : Int) := by
  unfold lvL at hx
  rw [List.getElem?_map] at hx
  cases q : (lvRow (gof l) l.length h (k : Int))[i]? with
  | none => rw [q] at hx; cases hx
  | some n =>
    rw [q] at hx
    have hm := lvTo_mem.mp (List.mem_of_getElem? q)
    exact ⟨n, (Option.some.inj hx).symm, rfl, hm.1, hm.2.2⟩
theorem lvL_len (l : List Ev) (h : Nat → Int) (k : Nat) (hrt : ∀ x ∈ l, rightP x) : (lvL l h k).length = cnt (fun i => h i == (k : Int)) l.length := by
  unfold lvL
  rw [List.length_map]
  exact lvRow_len fun i hi => gof_lt hrt hi
/-- Is one of the first m of a level ahead of x, and x depends on it? -/
def anyA (l : List Ev) (L : List Int) (x : Nat) (m : Nat) : Bool := (L.take m).any fun y => decide (y < (x : Int)) && dpf l y.toNat x
theorem anyA_more {l : List Ev} {L : List Int} {x m : Nat} {y : Int} (h : L[m]? = some y) : anyA l L x (m + 1) = (anyA l L x m || (decide (y < (x : Int)) && dpf l y.toNat x)) := by
  unfold anyA
  rw [List.take_add_one, h, List.any_append]
  simp
/-- All that the walk asks of the levels. -/
structure FoF (l : List Ev) (h : Nat → Int) (H : Nat) : Prop where
  ne : ∀ k, k < H → (lvL l h k).length ≠ 0
  sm : ∀ k, k < H → lvSum l.length h (k + 1) = lvSum l.length h k + (lvL l h k).length
  tot : lvSum l.length h H = l.length
  le : ∀ k, k ≤ H → lvSum l.length h k ≤ l.length
  up : ∀ (k i : Nat) (y x : Int), k < H → (lvL l h k)[i]? = some y → (lvL l h k)[i + 1]? = some x → (evf l y.toNat).go < (evf l x.toNat).go
  ah : ∀ (k i x : Nat), k + 1 < H → (lvL l h (k + 1))[i]? = some (x : Int) → anyA l (lvL l h k) x (lvL l h k).length = true
  ap : ∀ (k i j x y : Nat), k < H → (lvL l h k)[i]? = some (x : Int) → j < i → (lvL l h k)[j]? = some (y : Int) → dpf l x y = false
theorem foF {l : List Ev} (hrt : ∀ x ∈ l, rightP x) {B : Nat → Nat → Bool} (hB : Tells (dpf l) B) {h : Nat → Int} {H : Nat} (q : LvT l B h H) : FoF l h H := by
  obtain ⟨hh, hT⟩ := q
  have hsum : ∀ k, lvSum l.length h k = cnt (fun i => decide (h i < (k : Int))) l.length := lvSum_is l.length h hh.pos
  refine ⟨fun k hk => ?_, fun k hk => ?_, ?_, fun k hk => ?_, fun k i y x hk h1 h2 => ?_, fun k i x hk h1 => ?_, fun k i j x y hk h1 hji h2 => ?_⟩
  · obtain ⟨x, x1, x2⟩ := lv_some hB hh hT (H - 1 - k) k (by omega)
    have hm : x ∈ lvRow (gof l) l.length h (k : Int) := lvTo_mem.mpr ⟨x1, gof_lt hrt x1, x2⟩
    unfold lvL
    rw [List.length_map]
    intro z
    rw [List.length_eq_zero_iff] at z
    rw [z] at hm
    cases hm
  · rw [lvL_len l h k hrt]; rfl
  · rw [hsum, cnt_true _ _ fun i hi => decide_eq_true (by have := hT.top i hi; omega)]
  · rw [hsum]; exact cnt_le _ _
  · obtain ⟨a, rfl, a1, a2, a3⟩ := lvL_at h1
    obtain ⟨b, rfl, b1, b2, b3⟩ := lvL_at h2
    have hr := lv_rise hB hh (ord_ok hrt) (k : Int) 6
    rw [List.pairwise_iff_getElem] at hr
    obtain ⟨i1, e1⟩ := List.getElem?_eq_some_iff.mp a1
    obtain ⟨i2, e2⟩ := List.getElem?_eq_some_iff.mp b1
    have := hr i (i + 1) i1 i2 (by omega)
    unfold lvRow at e1 e2
    rw [e1, e2] at this
    exact (gof_less hrt a2 b2).mpr this
  · obtain ⟨b, eb, b1, b2, b3⟩ := lvL_at h1
    have : x = b := by omega
    subst this
    obtain ⟨y, y1, y2, y3⟩ := lv_ahead hB hh b2 (k := k) (by omega)
    unfold anyA
    rw [List.take_length, List.any_eq_true]
    refine ⟨(y : Int), ?_, ?_⟩
    · unfold lvL
      exact List.mem_map.mpr ⟨y, lvTo_mem.mpr ⟨by omega, gof_lt hrt (by omega), y3⟩, rfl⟩
    · rw [Int.toNat_natCast, y2, Bool.and_true]
      exact decide_eq_true (by omega)
  · obtain ⟨a, ea, a1, a2, a3⟩ := lvL_at h1
    obtain ⟨b, eb, b1, b2, b3⟩ := lvL_at h2
    have e1 : x = a := by omega
    have e2 : y = b := by omega
    subst e1
    subst e2
    refine lv_apart hB hh (fun i j => dpf_comm l i j) a2 b2 (fun z => ?_) (by rw [a3, b3])
    subst z
    have hnd := lvTo_nodup (gof l) l.length h (k : Int) 6
    have := (List.getElem?_inj (List.getElem?_eq_some_iff.mp b1).1 hnd).mp (b1.trans a1.symm)
    omega
end Go.Proofs.Ytkadlopcomjonaa.pg
/- CanonFoata, walked. -/
namespace Go.Proofs.Ytkadlopcomjonaa.pg
open Go.ChangeShapes Go.WideShapes Go.ChangeAt Go.RowKit Go.Shelf
set_option linter.unusedVariables false
set_option linter.unusedSimpArgs false
set_option maxRecDepth 100000
set_option maxHeartbeats 8000000 in
theorem foata_in (l : List Ev) (la : Option Addr) (lc : Nat) (w : World) (hl : Rows w 26 la lc (l.map Ev.cells)) (hlen : l.length ≤ 256) (hrt : ∀ x ∈ l, rightP x) {B : Nat → Nat → Bool} (hB : Tells (dpf l) B) :
    Calls Try.prog 8 #[.slice la l.length lc] w fun e w' => e = .returned (.bool true) ∧ Below w.heap.size w w' := by
  have c1 : Calls Try.prog 21 #[.slice la l.length lc] w fun e w' => ∃ (h : Nat → Int) (H A : Nat) (pa : Nat → Option Addr) (pc : Nat → Nat), e = .returned (.tuple #[.slice (some ⟨A, 0, none⟩) H H, .int .i64 0]) ∧ Hid (FoF l h H ∧ H ≤ l.length ∧ Rows w' 1 (some ⟨A, 0, none⟩) H ((slC H pa pc (lvL l h)).map fun v => [v]) ∧ (∀ k, k < H → Rows w' 1 (pa k) (pc k) ((lvL l h k).map chCells)) ∧ Below w.heap.size w w') :=
    (levels_ok l la lc w hl hlen hrt hB).mono fun e w' ⟨h, H, A, he, hq⟩ => by
      obtain ⟨pa, pc, m1, m2⟩ := hq.out.2.1
      exact ⟨h, H, A, pa, pc, he, ⟨foF hrt hB hq.out.1, top_le hB hq.out.1.1 hq.out.1.2, m1, m2, hq.out.2.2⟩⟩
  have hlI : (l.length : Int) ≤ 256 := by omega
  have hlH : Hid (Rows w 26 la lc (l.map Ev.cells)) := hl
  have huE : Hid (Try.prog.underlying 70 = _) := Try.underlying70
  have hiE : Hid ((Try.prog.info? 70).map (·.size) = some 26) := infoE26
  clear hl hrt hB
  go_enter Try.func8, Try.ntmps8
  go_wp2_with (go_at_call 21; (with_reducible refine c1.mono ?_); rintro e w1 ⟨h, H, A, pa, pc, rfl, hq⟩; clear c1)
  have hHI : (H : Int) ≤ 256 := by have := hq.out.2.1; omega
  have hb1 : Hid (Below w.heap.size w w1) := hq.out.2.2.2.2
  obtain ⟨v0, hv0, hv0H⟩ : ∃ v0 : Int, v0 = 0 ∧ Hid (v0 = ((lvSum l.length h 0 : Nat) : Int)) := ⟨0, rfl, (rfl : (0 : Int) = ((lvSum l.length h 0 : Nat) : Int))⟩
  go_loopw [5, 30] (fun nn kk wr => ∃ (k : Nat) (v : Int), k ≤ H ∧ nn = .int .i64 v ∧ kk = .int .i64 (k : Int) ∧ Hid (Below w1.heap.size w1 wr) ∧ Hid (v = ((lvSum l.length h k : Nat) : Int))) (fun _ kk _ => H - (intOf kk).toNat)
  case atStart => exact ⟨0, v0, Nat.zero_le _, by rw [hv0], rfl, Below.refl _ _, hv0H⟩
  case round =>
    obtain ⟨k, v1, hk, rfl, rfl, hbe, hv1⟩ := hrel
    clear hv0 hv0H
    by_cases hkt : k < H
    · have hkI : (k : Int) < H := by omega
      obtain ⟨b0, o0, x0, l0, r0⟩ := sl_ix (hq.out.2.2.1.later hbe.out) k hkt
      obtain ⟨RL, hRL⟩ : ∃ RL, lvL l h k = RL := ⟨_, rfl⟩
      have hrow : Hid (∀ W', Below w1.heap.size w1 W' → Rows W' 1 (pa k) (pc k) (RL.map chCells)) := fun W' hb => by rw [← hRL]; exact (hq.out.2.2.2.1 k hkt).later hb
      have hel : Hid (∀ i x, RL[i]? = some x → ∃ n : Nat, x = (n : Int) ∧ n < l.length) := fun i x hx => by
        rw [← hRL] at hx
        obtain ⟨n, e, _, hn, _⟩ := lvL_at hx
        exact ⟨n, e, hn⟩
      have hup : Hid (∀ (i : Nat) (y x : Int), RL[i]? = some y → RL[i + 1]? = some x → (evf l y.toNat).go < (evf l x.toNat).go) := fun i y x h1 h2 => hq.out.1.up k i y x hkt (by rw [hRL]; exact h1) (by rw [hRL]; exact h2)
      have hap : Hid (∀ (i j x y : Nat), RL[i]? = some (x : Int) → j < i → RL[j]? = some (y : Int) → dpf l x y = false) := fun i j x y h1 h2 h3 => hq.out.1.ap k i j x y hkt (by rw [hRL]; exact h1) h2 (by rw [hRL]; exact h3)
      have hah : Hid (∀ k', k = k' + 1 → ∀ (i x : Nat), RL[i]? = some (x : Int) → anyA l (lvL l h k') x (lvL l h k').length = true) := fun k' e i x h1 => by
        subst e
        exact hq.out.1.ah k' i x hkt (by rw [hRL]; exact h1)
      have hsm : Hid (((lvSum l.length h (k + 1) : Nat) : Int) = v1 + (RL.length : Int) ∧ 0 ≤ v1 ∧ v1 + (RL.length : Int) ≤ 256) := by
        have e1 := hq.out.1.sm k hkt
        have e2 := hq.out.1.le (k + 1) (by omega)
        have e3 := hv1.out
        rw [hRL] at e1
        refine ⟨by omega, by omega, by omega⟩
      have hne : ((RL.length : Int) == 0) = false := by have := hq.out.1.ne k hkt; rw [hRL] at this; rw [beq_eq_false_iff_ne]; omega
      have hrl : (RL.length : Int) ≤ 256 := by have := hsm.out; omega
      have hcap : Hid (RL.length ≤ pc k ∧ pc k ≤ 9223372036854775807) := by
        have hrc := hrow.out w1 (Below.refl _ _)
        exact ⟨by have := hrc.1; rwa [List.length_map] at this, hrc.2.1⟩
      rw [hRL] at r0
      have hbe0 : Hid (Below w1.heap.size w1 wr) := hbe
      have hv2 : Hid (v1 = v1 + ((0 : Nat) : Int)) := by show _ = _; omega
      clear hbe hv1 hRL
      go_wp2_with fail
      go_loopw [5, 40] (fun nn ii wq => ∃ (i : Nat) (v : Int), i ≤ RL.length ∧ nn = .int .i64 v ∧ ii = .int .i64 (i : Int) ∧ Hid (Below w1.heap.size w1 wq) ∧ Hid (v = v1 + (i : Int))) (fun _ ii _ => RL.length - (intOf ii).toNat)
      case atStart => exact ⟨0, v1, Nat.zero_le _, rfl, rfl, hbe0, hv2⟩
      case round =>
        rename World => wq
        obtain ⟨i, v, hi, rfl, rfl, hbq, hv⟩ := hrel
        clear hbe0 r0 x0 l0 hv2
        by_cases hit : i < RL.length
        · have hiI : (i : Int) < (RL.length : Int) := by omega
          obtain ⟨xx, hxx, hxm⟩ := get_lt RL i hit
          obtain ⟨x, rfl, hxl⟩ := hel.out i xx hxx
          have hxI : (x : Int) < l.length := by omega
          obtain ⟨b1, o1, x1, l1, ci⟩ := ch_ixK (hrow.out wq hbq.out) i (x : Int) hxx
          obtain ⟨b2, o2, x2, l2, r2⟩ := evs_ix (hlH.out.later (bthen hb1.out hbq.out)) x (evf l x) (evf_at hxl)
          have g2 := r2 0 (.int .i64 (evf l x).go) rfl
          rw [Nat.add_zero] at g2
          have hnx : Hid (∀ y j, j < i → RL[j]? = some ((y : Nat) : Int) → dpf l x y = false) := fun y j hj hy => hap.out i j x y hxx hj hy
          have hnb : wrap64 (v + 1) = v + 1 := by
            have h1 := hsm.out
            have h2 := hv.out
            simp only [wrap64]
            omega
          have hv3 : Hid (v + 1 = v1 + (((i + 1 : Nat)) : Int)) := by have := hv.out; show _ = _; omega
          have hah2 : Hid (∀ k', k = k' + 1 → anyA l (lvL l h k') x (lvL l h k').length = true) := fun k' e => hah.out k' e i x hxx
          have hpv : Hid (∀ i', i = i' + 1 → ∃ y : Nat, RL[i']? = some (y : Int) ∧ y < l.length ∧ (evf l y).go < (evf l x).go) := fun i' e => by
            subst e
            obtain ⟨yy, hyy, _⟩ := get_lt RL i' (by omega)
            obtain ⟨y, rfl, hyl⟩ := hel.out i' yy hyy
            refine ⟨y, hyy, hyl, ?_⟩
            have := hup.out i' y x hyy hxx
            simpa using this
          have hx0 : decide ((x : Int) < 0) = false := by simp
          have hx1 : decide ((l.length : Int) ≤ (x : Int)) = false := by simp; omega
          have hx2 : decide (l.length ≤ x) = false := by simp; omega
          have xS := sub_int (pa k) RL.length (pc k) i (by have := hcap.out; omega) hcap.out.2
          clear r2 hv hxm hxx
          rcases Nat.eq_zero_or_pos i with hiz | hip
          · have di : decide ((0 : Int) < (i : Int)) = false := by simp; omega
            have di2 : decide (0 < i) = false := by simp; omega
            clear hpv hiz
            go_wp2_with fail
            go_quiet (fail)
            rename_i nq
            have hbq5 : Hid (Below w1.heap.size w1 (wq.drewN nq)) := below_drewN hbq.out nq
            clear hbq x1 ci x2 g2 l1 l2
            generalize wq.drewN nq = W5 at *
            rcases Nat.eq_zero_or_pos k with hkz | hkp
            · have dk : ((k : Int) == 0) = true := by simp [hkz]
              have dk2 : ¬ ((0 : Int) < (k : Int)) := by omega
              have hW4 : Hid (Below w1.heap.size w1 W5) := hbq5
              clear hkz hbq5
              go_wp2_with fail
              go_loopw [114] (fun jj wv => ∃ j : Nat, j ≤ i ∧ jj = .int .i64 (j : Int) ∧ Hid (Below w1.heap.size w1 wv)) (fun jj _ => i - (intOf jj).toNat)
              case atStart => exact ⟨0, Nat.zero_le _, rfl, hW4⟩
              case round =>
                rename World => wv
                obtain ⟨j, hj, rfl, hbv⟩ := hrel
                clear hW4
                by_cases hjt : j < i
                · have hjI : (j : Int) < (i : Int) := by omega
                  obtain ⟨yy, hyy, _⟩ := get_lt RL j (by omega)
                  obtain ⟨y, rfl, hyl⟩ := hel.out j yy hyy
                  have ht := rows_take (hrow.out wv hbv.out) i
                  rw [← List.map_take] at ht
                  obtain ⟨b4, o4, x4, l4, c4⟩ := ch_ixK ht j (y : Int) (by rw [List.getElem?_take_of_lt hjt]; exact hyy)
                  rw [List.length_take, Nat.min_eq_left (by omega)] at x4
                  obtain ⟨b5, o5, x5, l5, r5⟩ := evs_ix (hlH.out.later (bthen hb1.out hbv.out)) x (evf l x) (evf_at hxl)
                  obtain ⟨b6, o6, x6, l6, r6⟩ := evs_ix (hlH.out.later (bthen hb1.out hbv.out)) y (evf l y) (evf_at hyl)
                  have s5 : ∀ q : Cls (Bey wv), q.w.rangeAt b5 o5 (evf l x).cells := fun q => range_block r5 (q.h.block b5 l5)
                  have s6 : ∀ q : Cls (Bey wv), q.w.rangeAt b6 o6 (evf l y).cells := fun q => range_block r6 (q.h.block b6 l6)
                  have hdf := hnx.out y j hjt hyy
                  have cD : ∀ q : Cls (Bey wv), Calls Try.prog 33 #[.agg (evf l x).cells.toArray, .agg (evf l y).cells.toArray] q.w fun e w' => e = .returned (.bool false) ∧ Below q.w.heap.size q.w w' := fun q => dependent_any _ _ q.w false (show false = _ from hdf.symm)
                  have hnn := bey_some wv
                  have hbn : Hid (∀ W', Below wv.heap.size wv W' → Below w1.heap.size w1 W') := fun W' q => bthen hbv.out q
                  clear ht r5 r6 l5 l6 hdf hyy
                  go_wp2_with fail
                  refine wp_region_cls (Bey wv) (by kernel_rfl) (by kernel_rfl) (bey_drew wv) ?_
                  repeat (first
                    | (go_big_quiet_want; (first | refine quiet_load_mid 70 _ rfl b5 o5 rfl _ _ s5 huE.out rfl hiE.out ?_ | refine quiet_load_mid 70 _ rfl b6 o6 rfl _ _ s6 huE.out rfl hiE.out ?_); (simp only [Act.put, List.setIfInBounds_toArray, List.set_cons_zero, List.set_cons_succ]); go_big_quiet_on)
                    | go_big_quiet_step ((go_at_call 33; exact calls_bey (cD _))))
                  refine wpQuiet_nil ?_
                  intro _ hw'
                  obtain ⟨sq, hw''⟩ := hw'
                  subst hw''
                  clear x4 x5 x6 s5 s6 cD hnn
                  go_wp2
                  go_roundw
                  case rel => exact ⟨j + 1, by omega, by go_num, hbn.out _ sq.h⟩
                  case measure => simp [intOf]; omega
                · have hjI : ¬ ((j : Int) < (i : Int)) := by omega
                  have hbz : Hid (Below w1.heap.size w1 wv) := hbv
                  go_wp2_with fail
                  go_roundw
                  case rel => exact ⟨i + 1, v + 1, by omega, by first | rfl | rw [hnb], by go_num, hbz, hv3⟩
                  case measure => simp [intOf]; omega
            · obtain ⟨k', hk'⟩ : ∃ k', k = k' + 1 := ⟨k - 1, by omega⟩
              obtain ⟨PL, hPL⟩ : ∃ PL, lvL l h k' = PL := ⟨_, rfl⟩
              have hrow3 : Hid (∀ W', Below w1.heap.size w1 W' → Rows W' 1 (pa k') (pc k') (PL.map chCells)) := fun W' hb => by rw [← hPL]; exact (hq.out.2.2.2.1 k' (by omega)).later hb
              have hel3 : Hid (∀ i x, PL[i]? = some x → ∃ n : Nat, x = (n : Int) ∧ n < l.length) := fun i x hx => by
                rw [← hPL] at hx
                obtain ⟨n, e, _, hn, _⟩ := lvL_at hx
                exact ⟨n, e, hn⟩
              have hah3 : Hid (anyA l PL x PL.length = true) := by rw [← hPL]; exact hah2.out k' hk'
              obtain ⟨b7, o7, x7, l7, c7⟩ := sl_ix (hq.out.2.2.1.later hbq5.out) k' (by omega)
              rw [hPL] at c7
              have dk : ((k : Int) == 0) = false := by simp; omega
              have dk2 : (0 : Int) < (k : Int) := by omega
              have hks : wrap64 ((k : Int) - 1) = (k : Int) - 1 := by simp only [wrap64]; omega
              have hke : (k' : Int) = (k : Int) - 1 := by omega
              rw [hke] at x7
              have hpl : (PL.length : Int) ≤ 9223372036854775807 := rows_len (hrow3.out w1 (Below.refl _ _))
              have hW3 : Hid (Below w1.heap.size w1 W5) := hbq5
              clear hkp hk' hPL hbq5 hke
              go_wp2_with fail
              go_loopw [10, 86] (fun ss mm wu => ∃ (m : Nat) (s : Bool), m ≤ PL.length ∧ ss = .bool s ∧ mm = .int .i64 (m : Int) ∧ Hid (Below w1.heap.size w1 wu) ∧ Hid (anyA l PL x m = s)) (fun _ mm _ => PL.length - (intOf mm).toNat)
              case atStart => exact ⟨0, false, Nat.zero_le _, rfl, rfl, hW3, (rfl : anyA l PL x 0 = false)⟩
              case round =>
                rename World => wu
                obtain ⟨m, s, hm, rfl, rfl, hbu, hsA⟩ := hrel
                clear hW3
                by_cases hmt : m < PL.length
                · have hmI : (m : Int) < (PL.length : Int) := by omega
                  obtain ⟨yy, hyy, _⟩ := get_lt PL m hmt
                  obtain ⟨y, rfl, hyl⟩ := hel3.out m yy hyy
                  obtain ⟨b4, o4, x4, l4, c4⟩ := ch_ixK (hrow3.out wu hbu.out) m (y : Int) hyy
                  obtain ⟨b5, o5, x5, l5, r5⟩ := evs_ix (hlH.out.later (bthen hb1.out hbu.out)) x (evf l x) (evf_at hxl)
                  obtain ⟨b6, o6, x6, l6, r6⟩ := evs_ix (hlH.out.later (bthen hb1.out hbu.out)) y (evf l y) (evf_at hyl)
                  have s5 : ∀ q : Cls (Bey wu), q.w.rangeAt b5 o5 (evf l x).cells := fun q => range_block r5 (q.h.block b5 l5)
                  have s6 : ∀ q : Cls (Bey wu), q.w.rangeAt b6 o6 (evf l y).cells := fun q => range_block r6 (q.h.block b6 l6)
                  obtain ⟨D, hD⟩ : ∃ D, dpf l y x = D := ⟨_, rfl⟩
                  have cD : ∀ q : Cls (Bey wu), Calls Try.prog 33 #[.agg (evf l y).cells.toArray, .agg (evf l x).cells.toArray] q.w fun e w' => e = .returned (.bool D) ∧ Below q.w.heap.size q.w w' := fun q => dependent_any _ _ q.w D (show D = _ from hD.symm)
                  have hnn := bey_some wu
                  have hbn : Hid (∀ W', Below wu.heap.size wu W' → Below w1.heap.size w1 W') := fun W' q => bthen hbu.out q
                  have hnxt : Hid (anyA l PL x (m + 1) = (s || (decide ((y : Int) < (x : Int)) && D))) := by
                    have := anyA_more (l := l) (x := x) hyy
                    rw [hsA.out, Int.toNat_natCast, hD] at this
                    exact this
                  clear r5 r6 l5 l6 hD hsA hyy
                  by_cases hP : (y : Int) < (x : Int)
                  · have hPd : decide ((y : Int) < (x : Int)) = true := decide_eq_true hP
                    have hPd2 : decide (y < x) = true := decide_eq_true (by omega)
                    have hnx2 : Hid (anyA l PL x (m + 1) = (s || D)) := by have := hnxt.out; rw [hPd, Bool.true_and] at this; exact this
                    clear hnxt
                    cases s with
                    | true =>
                      have hnx3 : Hid (anyA l PL x (m + 1) = true) := hnx2.out
                      clear hnx2
                      go_wp2_with fail
                      refine wp_region_cls (Bey wu) (by kernel_rfl) (by kernel_rfl) (bey_drew wu) ?_
                      repeat (go_big_quiet_step (fail))
                      refine wpQuiet_nil ?_
                      intro _ hw'
                      obtain ⟨sq, hw''⟩ := hw'
                      subst hw''
                      clear x4 x5 x6 s5 s6 cD hnn
                      go_wp2
                      go_roundw
                      case rel => exact ⟨m + 1, true, by omega, rfl, by go_num, hbn.out _ sq.h, hnx3⟩
                      case measure => simp [intOf]; omega
                    | false =>
                      have hnx3 : Hid (anyA l PL x (m + 1) = D) := by have := hnx2.out; rw [Bool.false_or] at this; exact this
                      clear hnx2
                      go_wp2_with fail
                      refine wp_region_cls (Bey wu) (by kernel_rfl) (by kernel_rfl) (bey_drew wu) ?_
                      repeat (first
                        | (go_big_quiet_want; (first | refine quiet_load_mid 70 _ rfl b5 o5 rfl _ _ s5 huE.out rfl hiE.out ?_ | refine quiet_load_mid 70 _ rfl b6 o6 rfl _ _ s6 huE.out rfl hiE.out ?_); (simp only [Act.put, List.setIfInBounds_toArray, List.set_cons_zero, List.set_cons_succ]); go_big_quiet_on)
                        | go_big_quiet_step ((go_at_call 33; exact calls_bey (cD _))))
                      refine wpQuiet_nil ?_
                      intro _ hw'
                      obtain ⟨sq, hw''⟩ := hw'
                      subst hw''
                      clear x4 x5 x6 s5 s6 cD hnn
                      go_wp2
                      go_roundw
                      case rel => exact ⟨m + 1, D, by omega, rfl, by go_num, hbn.out _ sq.h, hnx3⟩
                      case measure => simp [intOf]; omega
                  · have hPd : decide ((y : Int) < (x : Int)) = false := decide_eq_false hP
                    have hPd2 : decide (y < x) = false := decide_eq_false (by omega)
                    have hnx3 : Hid (anyA l PL x (m + 1) = s) := by have := hnxt.out; rw [hPd, Bool.false_and, Bool.or_false] at this; exact this
                    clear hnxt hP
                    cases s with
                    | true =>
                      go_wp2_with fail
                      refine wp_region_cls (Bey wu) (by kernel_rfl) (by kernel_rfl) (bey_drew wu) ?_
                      repeat (go_big_quiet_step (fail))
                      refine wpQuiet_nil ?_
                      intro _ hw'
                      obtain ⟨sq, hw''⟩ := hw'
                      subst hw''
                      clear x4 x5 x6 s5 s6 cD hnn
                      go_wp2
                      go_roundw
                      case rel => exact ⟨m + 1, true, by omega, rfl, by go_num, hbn.out _ sq.h, hnx3⟩
                      case measure => simp [intOf]; omega
                    | false =>
                      go_wp2_with fail
                      refine wp_region_cls (Bey wu) (by kernel_rfl) (by kernel_rfl) (bey_drew wu) ?_
                      repeat (go_big_quiet_step (fail))
                      refine wpQuiet_nil ?_
                      intro _ hw'
                      obtain ⟨sq, hw''⟩ := hw'
                      subst hw''
                      clear x4 x5 x6 s5 s6 cD hnn
                      go_wp2
                      go_roundw
                      case rel => exact ⟨m + 1, false, by omega, rfl, by go_num, hbn.out _ sq.h, hnx3⟩
                      case measure => simp [intOf]; omega
                · have hmI : ¬ ((m : Int) < (PL.length : Int)) := by omega
                  have hst : s = true := by
                    have : m = PL.length := by omega
                    rw [← hsA.out, this]; exact hah3.out
                  subst hst
                  have hW4 : Hid (Below w1.heap.size w1 wu) := hbu
                  clear hsA hbu
                  go_wp2_with fail
                  go_loopw [114] (fun jj wv => ∃ j : Nat, j ≤ i ∧ jj = .int .i64 (j : Int) ∧ Hid (Below w1.heap.size w1 wv)) (fun jj _ => i - (intOf jj).toNat)
                  case atStart => exact ⟨0, Nat.zero_le _, rfl, hW4⟩
                  case round =>
                    rename World => wv
                    obtain ⟨j, hj, rfl, hbv⟩ := hrel
                    clear hW4
                    by_cases hjt : j < i
                    · have hjI : (j : Int) < (i : Int) := by omega
                      obtain ⟨yy, hyy, _⟩ := get_lt RL j (by omega)
                      obtain ⟨y, rfl, hyl⟩ := hel.out j yy hyy
                      have ht := rows_take (hrow.out wv hbv.out) i
                      rw [← List.map_take] at ht
                      obtain ⟨b4, o4, x4, l4, c4⟩ := ch_ixK ht j (y : Int) (by rw [List.getElem?_take_of_lt hjt]; exact hyy)
                      rw [List.length_take, Nat.min_eq_left (by omega)] at x4
                      obtain ⟨b5, o5, x5, l5, r5⟩ := evs_ix (hlH.out.later (bthen hb1.out hbv.out)) x (evf l x) (evf_at hxl)
                      obtain ⟨b6, o6, x6, l6, r6⟩ := evs_ix (hlH.out.later (bthen hb1.out hbv.out)) y (evf l y) (evf_at hyl)
                      have s5 : ∀ q : Cls (Bey wv), q.w.rangeAt b5 o5 (evf l x).cells := fun q => range_block r5 (q.h.block b5 l5)
                      have s6 : ∀ q : Cls (Bey wv), q.w.rangeAt b6 o6 (evf l y).cells := fun q => range_block r6 (q.h.block b6 l6)
                      have hdf := hnx.out y j hjt hyy
                      have cD : ∀ q : Cls (Bey wv), Calls Try.prog 33 #[.agg (evf l x).cells.toArray, .agg (evf l y).cells.toArray] q.w fun e w' => e = .returned (.bool false) ∧ Below q.w.heap.size q.w w' := fun q => dependent_any _ _ q.w false (show false = _ from hdf.symm)
                      have hnn := bey_some wv
                      have hbn : Hid (∀ W', Below wv.heap.size wv W' → Below w1.heap.size w1 W') := fun W' q => bthen hbv.out q
                      clear ht r5 r6 l5 l6 hdf hyy
                      go_wp2_with fail
                      refine wp_region_cls (Bey wv) (by kernel_rfl) (by kernel_rfl) (bey_drew wv) ?_
                      repeat (first
                        | (go_big_quiet_want; (first | refine quiet_load_mid 70 _ rfl b5 o5 rfl _ _ s5 huE.out rfl hiE.out ?_ | refine quiet_load_mid 70 _ rfl b6 o6 rfl _ _ s6 huE.out rfl hiE.out ?_); (simp only [Act.put, List.setIfInBounds_toArray, List.set_cons_zero, List.set_cons_succ]); go_big_quiet_on)
                        | go_big_quiet_step ((go_at_call 33; exact calls_bey (cD _))))
                      refine wpQuiet_nil ?_
                      intro _ hw'
                      obtain ⟨sq, hw''⟩ := hw'
                      subst hw''
                      clear x4 x5 x6 s5 s6 cD hnn
                      go_wp2
                      go_roundw
                      case rel => exact ⟨j + 1, by omega, by go_num, hbn.out _ sq.h⟩
                      case measure => simp [intOf]; omega
                    · have hjI : ¬ ((j : Int) < (i : Int)) := by omega
                      have hbz : Hid (Below w1.heap.size w1 wv) := hbv
                      go_wp2_with fail
                      go_roundw
                      case rel => exact ⟨i + 1, v + 1, by omega, by first | rfl | rw [hnb], by go_num, hbz, hv3⟩
                      case measure => simp [intOf]; omega
          · obtain ⟨i', hi'⟩ : ∃ i', i = i' + 1 := ⟨i - 1, by omega⟩
            obtain ⟨y, hy1, hyl, hgo⟩ := hpv.out i' hi'
            obtain ⟨b3, o3, x3, l3, c3⟩ := ch_ixK (hrow.out wq hbq.out) i' (y : Int) hy1
            obtain ⟨b8, o8, x8, l8, r8⟩ := evs_ix (hlH.out.later (bthen hb1.out hbq.out)) y (evf l y) (evf_at hyl)
            have g8 := r8 0 (.int .i64 (evf l y).go) rfl
            rw [Nat.add_zero] at g8
            have di : decide ((0 : Int) < (i : Int)) = true := by simp; omega
            have di2 : decide (0 < i) = true := by simp; omega
            have his : wrap64 ((i : Int) - 1) = (i : Int) - 1 := by simp only [wrap64]; omega
            have hie : (i' : Int) = (i : Int) - 1 := by omega
            rw [hie] at x3
            have hge : decide ((evf l x).go ≤ (evf l y).go) = false := by simp; omega
            clear hpv r8 hy1 hgo hip hi' hie
            generalize (evf l x).go = gx at *
            generalize (evf l y).go = gy at *
            go_wp2_with fail
            go_quiet (fail)
            rename_i nq
            have hbq5 : Hid (Below w1.heap.size w1 (wq.drewN nq)) := below_drewN hbq.out nq
            clear hbq x3 c3 x8 g8 l3 l8 x1 ci x2 g2 l1 l2 his
            generalize wq.drewN nq = W5 at *
            rcases Nat.eq_zero_or_pos k with hkz | hkp
            · have dk : ((k : Int) == 0) = true := by simp [hkz]
              have dk2 : ¬ ((0 : Int) < (k : Int)) := by omega
              have hW4 : Hid (Below w1.heap.size w1 W5) := hbq5
              clear hkz hbq5
              go_wp2_with fail
              go_loopw [114] (fun jj wv => ∃ j : Nat, j ≤ i ∧ jj = .int .i64 (j : Int) ∧ Hid (Below w1.heap.size w1 wv)) (fun jj _ => i - (intOf jj).toNat)
              case atStart => exact ⟨0, Nat.zero_le _, rfl, hW4⟩
              case round =>
                rename World => wv
                obtain ⟨j, hj, rfl, hbv⟩ := hrel
                clear hW4
                by_cases hjt : j < i
                · have hjI : (j : Int) < (i : Int) := by omega
                  obtain ⟨yy, hyy, _⟩ := get_lt RL j (by omega)
                  obtain ⟨y, rfl, hyl⟩ := hel.out j yy hyy
                  have ht := rows_take (hrow.out wv hbv.out) i
                  rw [← List.map_take] at ht
                  obtain ⟨b4, o4, x4, l4, c4⟩ := ch_ixK ht j (y : Int) (by rw [List.getElem?_take_of_lt hjt]; exact hyy)
                  rw [List.length_take, Nat.min_eq_left (by omega)] at x4
                  obtain ⟨b5, o5, x5, l5, r5⟩ := evs_ix (hlH.out.later (bthen hb1.out hbv.out)) x (evf l x) (evf_at hxl)
                  obtain ⟨b6, o6, x6, l6, r6⟩ := evs_ix (hlH.out.later (bthen hb1.out hbv.out)) y (evf l y) (evf_at hyl)
                  have s5 : ∀ q : Cls (Bey wv), q.w.rangeAt b5 o5 (evf l x).cells := fun q => range_block r5 (q.h.block b5 l5)
                  have s6 : ∀ q : Cls (Bey wv), q.w.rangeAt b6 o6 (evf l y).cells := fun q => range_block r6 (q.h.block b6 l6)
                  have hdf := hnx.out y j hjt hyy
                  have cD : ∀ q : Cls (Bey wv), Calls Try.prog 33 #[.agg (evf l x).cells.toArray, .agg (evf l y).cells.toArray] q.w fun e w' => e = .returned (.bool false) ∧ Below q.w.heap.size q.w w' := fun q => dependent_any _ _ q.w false (show false = _ from hdf.symm)
                  have hnn := bey_some wv
                  have hbn : Hid (∀ W', Below wv.heap.size wv W' → Below w1.heap.size w1 W') := fun W' q => bthen hbv.out q
                  clear ht r5 r6 l5 l6 hdf hyy
                  go_wp2_with fail
                  refine wp_region_cls (Bey wv) (by kernel_rfl) (by kernel_rfl) (bey_drew wv) ?_
                  repeat (first
                    | (go_big_quiet_want; (first | refine quiet_load_mid 70 _ rfl b5 o5 rfl _ _ s5 huE.out rfl hiE.out ?_ | refine quiet_load_mid 70 _ rfl b6 o6 rfl _ _ s6 huE.out rfl hiE.out ?_); (simp only [Act.put, List.setIfInBounds_toArray, List.set_cons_zero, List.set_cons_succ]); go_big_quiet_on)
                    | go_big_quiet_step ((go_at_call 33; exact calls_bey (cD _))))
                  refine wpQuiet_nil ?_
                  intro _ hw'
                  obtain ⟨sq, hw''⟩ := hw'
                  subst hw''
                  clear x4 x5 x6 s5 s6 cD hnn
                  go_wp2
                  go_roundw
                  case rel => exact ⟨j + 1, by omega, by go_num, hbn.out _ sq.h⟩
                  case measure => simp [intOf]; omega
                · have hjI : ¬ ((j : Int) < (i : Int)) := by omega
                  have hbz : Hid (Below w1.heap.size w1 wv) := hbv
                  go_wp2_with fail
                  go_roundw
                  case rel => exact ⟨i + 1, v + 1, by omega, by first | rfl | rw [hnb], by go_num, hbz, hv3⟩
                  case measure => simp [intOf]; omega
            · obtain ⟨k', hk'⟩ : ∃ k', k = k' + 1 := ⟨k - 1, by omega⟩
              obtain ⟨PL, hPL⟩ : ∃ PL, lvL l h k' = PL := ⟨_, rfl⟩
              have hrow3 : Hid (∀ W', Below w1.heap.size w1 W' → Rows W' 1 (pa k') (pc k') (PL.map chCells)) := fun W' hb => by rw [← hPL]; exact (hq.out.2.2.2.1 k' (by omega)).later hb
              have hel3 : Hid (∀ i x, PL[i]? = some x → ∃ n : Nat, x = (n : Int) ∧ n < l.length) := fun i x hx => by
                rw [← hPL] at hx
                obtain ⟨n, e, _, hn, _⟩ := lvL_at hx
                exact ⟨n, e, hn⟩
              have hah3 : Hid (anyA l PL x PL.length = true) := by rw [← hPL]; exact hah2.out k' hk'
              obtain ⟨b7, o7, x7, l7, c7⟩ := sl_ix (hq.out.2.2.1.later hbq5.out) k' (by omega)
              rw [hPL] at c7
              have dk : ((k : Int) == 0) = false := by simp; omega
              have dk2 : (0 : Int) < (k : Int) := by omega
              have hks : wrap64 ((k : Int) - 1) = (k : Int) - 1 := by simp only [wrap64]; omega
              have hke : (k' : Int) = (k : Int) - 1 := by omega
              rw [hke] at x7
              have hpl : (PL.length : Int) ≤ 9223372036854775807 := rows_len (hrow3.out w1 (Below.refl _ _))
              have hW3 : Hid (Below w1.heap.size w1 W5) := hbq5
              clear hkp hk' hPL hbq5 hke
              go_wp2_with fail
              go_loopw [10, 86] (fun ss mm wu => ∃ (m : Nat) (s : Bool), m ≤ PL.length ∧ ss = .bool s ∧ mm = .int .i64 (m : Int) ∧ Hid (Below w1.heap.size w1 wu) ∧ Hid (anyA l PL x m = s)) (fun _ mm _ => PL.length - (intOf mm).toNat)
              case atStart => exact ⟨0, false, Nat.zero_le _, rfl, rfl, hW3, (rfl : anyA l PL x 0 = false)⟩
              case round =>
                rename World => wu
                obtain ⟨m, s, hm, rfl, rfl, hbu, hsA⟩ := hrel
                clear hW3
                by_cases hmt : m < PL.length
                · have hmI : (m : Int) < (PL.length : Int) := by omega
                  obtain ⟨yy, hyy, _⟩ := get_lt PL m hmt
                  obtain ⟨y, rfl, hyl⟩ := hel3.out m yy hyy
                  obtain ⟨b4, o4, x4, l4, c4⟩ := ch_ixK (hrow3.out wu hbu.out) m (y : Int) hyy
                  obtain ⟨b5, o5, x5, l5, r5⟩ := evs_ix (hlH.out.later (bthen hb1.out hbu.out)) x (evf l x) (evf_at hxl)
                  obtain ⟨b6, o6, x6, l6, r6⟩ := evs_ix (hlH.out.later (bthen hb1.out hbu.out)) y (evf l y) (evf_at hyl)
                  have s5 : ∀ q : Cls (Bey wu), q.w.rangeAt b5 o5 (evf l x).cells := fun q => range_block r5 (q.h.block b5 l5)
                  have s6 : ∀ q : Cls (Bey wu), q.w.rangeAt b6 o6 (evf l y).cells := fun q => range_block r6 (q.h.block b6 l6)
                  obtain ⟨D, hD⟩ : ∃ D, dpf l y x = D := ⟨_, rfl⟩
                  have cD : ∀ q : Cls (Bey wu), Calls Try.prog 33 #[.agg (evf l y).cells.toArray, .agg (evf l x).cells.toArray] q.w fun e w' => e = .returned (.bool D) ∧ Below q.w.heap.size q.w w' := fun q => dependent_any _ _ q.w D (show D = _ from hD.symm)
                  have hnn := bey_some wu
                  have hbn : Hid (∀ W', Below wu.heap.size wu W' → Below w1.heap.size w1 W') := fun W' q => bthen hbu.out q
                  have hnxt : Hid (anyA l PL x (m + 1) = (s || (decide ((y : Int) < (x : Int)) && D))) := by
                    have := anyA_more (l := l) (x := x) hyy
                    rw [hsA.out, Int.toNat_natCast, hD] at this
                    exact this
                  clear r5 r6 l5 l6 hD hsA hyy
                  by_cases hP : (y : Int) < (x : Int)
                  · have hPd : decide ((y : Int) < (x : Int)) = true := decide_eq_true hP
                    have hPd2 : decide (y < x) = true := decide_eq_true (by omega)
                    have hnx2 : Hid (anyA l PL x (m + 1) = (s || D)) := by have := hnxt.out; rw [hPd, Bool.true_and] at this; exact this
                    clear hnxt
                    cases s with
                    | true =>
                      have hnx3 : Hid (anyA l PL x (m + 1) = true) := hnx2.out
                      clear hnx2
                      go_wp2_with fail
                      refine wp_region_cls (Bey wu) (by kernel_rfl) (by kernel_rfl) (bey_drew wu) ?_
                      repeat (go_big_quiet_step (fail))
                      refine wpQuiet_nil ?_
                      intro _ hw'
                      obtain ⟨sq, hw''⟩ := hw'
                      subst hw''
                      clear x4 x5 x6 s5 s6 cD hnn
                      go_wp2
                      go_roundw
                      case rel => exact ⟨m + 1, true, by omega, rfl, by go_num, hbn.out _ sq.h, hnx3⟩
                      case measure => simp [intOf]; omega
                    | false =>
                      have hnx3 : Hid (anyA l PL x (m + 1) = D) := by have := hnx2.out; rw [Bool.false_or] at this; exact this
                      clear hnx2
                      go_wp2_with fail
                      refine wp_region_cls (Bey wu) (by kernel_rfl) (by kernel_rfl) (bey_drew wu) ?_
                      repeat (first
                        | (go_big_quiet_want; (first | refine quiet_load_mid 70 _ rfl b5 o5 rfl _ _ s5 huE.out rfl hiE.out ?_ | refine quiet_load_mid 70 _ rfl b6 o6 rfl _ _ s6 huE.out rfl hiE.out ?_); (simp only [Act.put, List.setIfInBounds_toArray, List.set_cons_zero, List.set_cons_succ]); go_big_quiet_on)
                        | go_big_quiet_step ((go_at_call 33; exact calls_bey (cD _))))
                      refine wpQuiet_nil ?_
                      intro _ hw'
                      obtain ⟨sq, hw''⟩ := hw'
                      subst hw''
                      clear x4 x5 x6 s5 s6 cD hnn
                      go_wp2
                      go_roundw
                      case rel => exact ⟨m + 1, D, by omega, rfl, by go_num, hbn.out _ sq.h, hnx3⟩
                      case measure => simp [intOf]; omega
                  · have hPd : decide ((y : Int) < (x : Int)) = false := decide_eq_false hP
                    have hPd2 : decide (y < x) = false := decide_eq_false (by omega)
                    have hnx3 : Hid (anyA l PL x (m + 1) = s) := by have := hnxt.out; rw [hPd, Bool.false_and, Bool.or_false] at this; exact this
                    clear hnxt hP
                    cases s with
                    | true =>
                      go_wp2_with fail
                      refine wp_region_cls (Bey wu) (by kernel_rfl) (by kernel_rfl) (bey_drew wu) ?_
                      repeat (go_big_quiet_step (fail))
                      refine wpQuiet_nil ?_
                      intro _ hw'
                      obtain ⟨sq, hw''⟩ := hw'
                      subst hw''
                      clear x4 x5 x6 s5 s6 cD hnn
                      go_wp2
                      go_roundw
                      case rel => exact ⟨m + 1, true, by omega, rfl, by go_num, hbn.out _ sq.h, hnx3⟩
                      case measure => simp [intOf]; omega
                    | false =>
                      go_wp2_with fail
                      refine wp_region_cls (Bey wu) (by kernel_rfl) (by kernel_rfl) (bey_drew wu) ?_
                      repeat (go_big_quiet_step (fail))
                      refine wpQuiet_nil ?_
                      intro _ hw'
                      obtain ⟨sq, hw''⟩ := hw'
                      subst hw''
                      clear x4 x5 x6 s5 s6 cD hnn
                      go_wp2
                      go_roundw
                      case rel => exact ⟨m + 1, false, by omega, rfl, by go_num, hbn.out _ sq.h, hnx3⟩
                      case measure => simp [intOf]; omega
                · have hmI : ¬ ((m : Int) < (PL.length : Int)) := by omega
                  have hst : s = true := by
                    have : m = PL.length := by omega
                    rw [← hsA.out, this]; exact hah3.out
                  subst hst
                  have hW4 : Hid (Below w1.heap.size w1 wu) := hbu
                  clear hsA hbu
                  go_wp2_with fail
                  go_loopw [114] (fun jj wv => ∃ j : Nat, j ≤ i ∧ jj = .int .i64 (j : Int) ∧ Hid (Below w1.heap.size w1 wv)) (fun jj _ => i - (intOf jj).toNat)
                  case atStart => exact ⟨0, Nat.zero_le _, rfl, hW4⟩
                  case round =>
                    rename World => wv
                    obtain ⟨j, hj, rfl, hbv⟩ := hrel
                    clear hW4
                    by_cases hjt : j < i
                    · have hjI : (j : Int) < (i : Int) := by omega
                      obtain ⟨yy, hyy, _⟩ := get_lt RL j (by omega)
                      obtain ⟨y, rfl, hyl⟩ := hel.out j yy hyy
                      have ht := rows_take (hrow.out wv hbv.out) i
                      rw [← List.map_take] at ht
                      obtain ⟨b4, o4, x4, l4, c4⟩ := ch_ixK ht j (y : Int) (by rw [List.getElem?_take_of_lt hjt]; exact hyy)
                      rw [List.length_take, Nat.min_eq_left (by omega)] at x4
                      obtain ⟨b5, o5, x5, l5, r5⟩ := evs_ix (hlH.out.later (bthen hb1.out hbv.out)) x (evf l x) (evf_at hxl)
                      obtain ⟨b6, o6, x6, l6, r6⟩ := evs_ix (hlH.out.later (bthen hb1.out hbv.out)) y (evf l y) (evf_at hyl)
                      have s5 : ∀ q : Cls (Bey wv), q.w.rangeAt b5 o5 (evf l x).cells := fun q => range_block r5 (q.h.block b5 l5)
                      have s6 : ∀ q : Cls (Bey wv), q.w.rangeAt b6 o6 (evf l y).cells := fun q => range_block r6 (q.h.block b6 l6)
                      have hdf := hnx.out y j hjt hyy
                      have cD : ∀ q : Cls (Bey wv), Calls Try.prog 33 #[.agg (evf l x).cells.toArray, .agg (evf l y).cells.toArray] q.w fun e w' => e = .returned (.bool false) ∧ Below q.w.heap.size q.w w' := fun q => dependent_any _ _ q.w false (show false = _ from hdf.symm)
                      have hnn := bey_some wv
                      have hbn : Hid (∀ W', Below wv.heap.size wv W' → Below w1.heap.size w1 W') := fun W' q => bthen hbv.out q
                      clear ht r5 r6 l5 l6 hdf hyy
                      go_wp2_with fail
                      refine wp_region_cls (Bey wv) (by kernel_rfl) (by kernel_rfl) (bey_drew wv) ?_
                      repeat (first
                        | (go_big_quiet_want; (first | refine quiet_load_mid 70 _ rfl b5 o5 rfl _ _ s5 huE.out rfl hiE.out ?_ | refine quiet_load_mid 70 _ rfl b6 o6 rfl _ _ s6 huE.out rfl hiE.out ?_); (simp only [Act.put, List.setIfInBounds_toArray, List.set_cons_zero, List.set_cons_succ]); go_big_quiet_on)
                        | go_big_quiet_step ((go_at_call 33; exact calls_bey (cD _))))
                      refine wpQuiet_nil ?_
                      intro _ hw'
                      obtain ⟨sq, hw''⟩ := hw'
                      subst hw''
                      clear x4 x5 x6 s5 s6 cD hnn
                      go_wp2
                      go_roundw
                      case rel => exact ⟨j + 1, by omega, by go_num, hbn.out _ sq.h⟩
                      case measure => simp [intOf]; omega
                    · have hjI : ¬ ((j : Int) < (i : Int)) := by omega
                      have hbz : Hid (Below w1.heap.size w1 wv) := hbv
                      go_wp2_with fail
                      go_roundw
                      case rel => exact ⟨i + 1, v + 1, by omega, by first | rfl | rw [hnb], by go_num, hbz, hv3⟩
                      case measure => simp [intOf]; omega
        · have hie : i = RL.length := by omega
          have hiI : ¬ ((i : Int) < (RL.length : Int)) := by omega
          have hsk : Hid (v = ((lvSum l.length h (k + 1) : Nat) : Int)) := by
            have h1 := hsm.out.1
            have h2 := hv.out
            show v = _
            omega
          clear hv hie
          go_wp2_with fail
          go_roundw
          case rel => exact ⟨k + 1, v, by omega, rfl, by go_num, hbq, hsk⟩
          case measure => simp [intOf]; omega
    · have hke : k = H := by omega
      have hto : v1 = (l.length : Int) := by
        have h1 := hq.out.1.tot
        have h2 := hv1.out
        rw [hke] at h2
        omega
      have hkI : ¬ ((k : Int) < (H : Int)) := by omega
      have hfin : Hid (Below w.heap.size w wr) := bthen hb1.out hbe.out
      have d : (v1 == (l.length : Int)) = true := by simp [hto]
      clear hto hke hv1 hbe
      go_wp2
      go_ret
      exact ⟨rfl, hfin.out⟩
theorem foata_any (l : List Ev) (la : Option Addr) (lc : Nat) (w : World) (hl : EvsIn w la lc l) : Calls Try.prog 8 #[.slice la l.length lc] w fun e w' => e = .returned (.bool true) ∧ Below w.heap.size w w' := by
  obtain ⟨c, hc⟩ := check_ex l
  by_cases h0 : c = 2 ∨ c = 7
  · exact foata_bad l la lc w hl.1 c hc h0
  · have hz : l.length ≤ 256 ∧ (∀ x ∈ l, rightP x) ∧ c = 0 := by
      rcases hc with ⟨_, q⟩ | ⟨_, _, q⟩ | q
      · exact absurd (.inl q) h0
      · exact absurd (.inr q) h0
      · exact q
    obtain ⟨B, hB⟩ := tells_some (dpf l)
    exact foata_in l la lc w hl.1 hz.1 hz.2.1 hB
end Go.Proofs.Ytkadlopcomjonaa.pg
