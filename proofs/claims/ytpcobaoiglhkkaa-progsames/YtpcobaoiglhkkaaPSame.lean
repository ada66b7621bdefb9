/- The contracts of package prog's Same and what it calls. -/
import Derived.Test.YtpcobaoiglhkkaaRSame2
namespace Go.Proofs.Ytpcobaoiglhkkaa.pg
open Go.ChangeShapes Go.WideShapes Go.ChangeAt Go.RowKit
set_option linter.unusedVariables false
set_option linter.unusedSimpArgs false
set_option maxRecDepth 100000
attribute [local go_sem ↓] Go.wp_at_zero Go.wp_at_succ
set_option maxHeartbeats 2000000 in
theorem equalV_any (a b : Option Addr) (ca cb : Nat) (l m : List Vr) (w : World) (hl : Rows w 2 a ca (l.map Vr.cells)) (hm : Rows w 2 b cb (m.map Vr.cells)) (r : Bool) (hr : Hid (r = true ↔ l = m)) :
    Calls Try.prog 10 #[.slice a l.length ca, .slice b m.length cb] w fun e w' => e = .returned (.bool r) ∧ Below w.heap.size w w' := by
  by_cases h1 : l.length = m.length
  · have hln := rows_len hm
    rw [h1]
    have H1 : Hid (l.length = m.length) := h1
    have hlH : Hid (Rows w 2 a ca (l.map Vr.cells)) := hl
    have hmH : Hid (Rows w 2 b cb (m.map Vr.cells)) := hm
    clear h1 hl hm
    go_enter Try.func10, Try.ntmps10
    go_wp2
    go_loopw [13] (fun u wr => ∃ k : Nat, k ≤ m.length ∧ u = .int .i64 k ∧ (∀ j x y, j < k → l[j]? = some x → m[j]? = some y → x = y) ∧ Below w.heap.size w wr) (fun u _ => m.length - (intOf u).toNat)
    case atStart => exact ⟨0, Nat.zero_le _, rfl, fun j x y hj => by omega, Below.refl _ _⟩
    case round =>
      obtain ⟨k, hk, rfl, hall, hbr⟩ := hrel
      by_cases hlt : k < m.length
      · obtain ⟨x, hx, hxm⟩ := get_lt l k (by have := H1.out; omega)
        obtain ⟨y, hy, hym⟩ := get_lt m k hlt
        obtain ⟨bx, ox, hix, _, c0, c1⟩ := vr_ix (hlH.out.later hbr) k x hx
        obtain ⟨bz, oy, hiy, _, e0, e1⟩ := vr_ix (hmH.out.later hbr) k y hy
        rw [H1.out] at hix
        have hklI : (k : Int) < (m.length : Int) := by omega
        have hne := run_neV x y
        cases hq : eqV x y with
        | true =>
          rw [hq] at hne
          have hxy : Hid (x = y) := (eqV_iff x y).mp hq
          clear hq
          go_wp2_with fail
          go_quiet (fail)
          go_wp2
          go_roundw
          case rel => exact ⟨k + 1, by omega, by go_num, (fun j x' y' hj hx' hy' => by
            by_cases hjk : j = k
            · subst hjk; rw [hx] at hx'; rw [hy] at hy'; cases hx'; cases hy'; exact hxy.out
            · exact hall j x' y' (by omega) hx' hy'), below_drewN hbr _⟩
          case measure => simp [intOf]; omega
        | false =>
          rw [hq] at hne
          have hnxy : ¬ x = y := fun q => by
            have := (eqV_iff x y).mpr q
            rw [hq] at this
            exact absurd this (by decide)
          clear hq
          have hv := not_same hr (fun q => by
            subst q
            rw [hx] at hy
            cases hy
            exact hnxy rfl)
          clear hnxy
          go_wp2_with fail
          go_quiet (fail)
          go_wp2
          go_ret
          exact ⟨ret_b hv.out.symm, below_drewN hbr _⟩
      · have hv := is_same hr (list_eq H1.out (fun i x y hx hy => hall i x y (by have := (List.getElem?_eq_some_iff.mp hy).1; omega) hx hy))
        clear hall
        go_wp2
        go_ret
        exact ⟨ret_b hv.out.symm, hbr⟩
  · have hv := not_same hr (fun q => h1 (congrArg List.length q))
    have hI : ¬ (l.length : Int) = m.length := by omega
    clear h1 hl hm
    go_enter Try.func10, Try.ntmps10
    go_wp2
    go_ret
    exact ⟨ret_b hv.out.symm, Below.refl _ _⟩
set_option maxHeartbeats 2000000 in
theorem equalN_any (a b : Option Addr) (ca cb : Nat) (l m : List Int) (w : World) (hl : Rows w 1 a ca (l.map chCells)) (hm : Rows w 1 b cb (m.map chCells)) (r : Bool) (hr : Hid (r = true ↔ l = m)) :
    Calls Try.prog 11 #[.slice a l.length ca, .slice b m.length cb] w fun e w' => e = .returned (.bool r) ∧ Below w.heap.size w w' := by
  by_cases h1 : l.length = m.length
  · have hln := rows_len hm
    rw [h1]
    have H1 : Hid (l.length = m.length) := h1
    have hlH : Hid (Rows w 1 a ca (l.map chCells)) := hl
    have hmH : Hid (Rows w 1 b cb (m.map chCells)) := hm
    clear h1 hl hm
    go_enter Try.func11, Try.ntmps11
    go_wp2
    go_loopw [13] (fun u wr => ∃ k : Nat, k ≤ m.length ∧ u = .int .i64 k ∧ (∀ j x y, j < k → l[j]? = some x → m[j]? = some y → x = y) ∧ Below w.heap.size w wr) (fun u _ => m.length - (intOf u).toNat)
    case atStart => exact ⟨0, Nat.zero_le _, rfl, fun j x y hj => by omega, Below.refl _ _⟩
    case round =>
      obtain ⟨k, hk, rfl, hall, hbr⟩ := hrel
      by_cases hlt : k < m.length
      · obtain ⟨x, hx, hxm⟩ := get_lt l k (by have := H1.out; omega)
        obtain ⟨y, hy, hym⟩ := get_lt m k hlt
        obtain ⟨bx, ox, hix, _, c0⟩ := ch_ix (hlH.out.later hbr) k x hx
        obtain ⟨bz, oy, hiy, _, e0⟩ := ch_ix (hmH.out.later hbr) k y hy
        rw [H1.out] at hix
        have hklI : (k : Int) < (m.length : Int) := by omega
        by_cases hq : x = y
        · have hxy : Hid (x = y) := hq
          have hxb : (x != y) = false := by simp [hq]
          clear hq
          go_wp2_with fail
          go_quiet (fail)
          go_wp2
          go_roundw
          case rel => exact ⟨k + 1, by omega, by go_num, (fun j x' y' hj hx' hy' => by
            by_cases hjk : j = k
            · subst hjk; rw [hx] at hx'; rw [hy] at hy'; cases hx'; cases hy'; exact hxy.out
            · exact hall j x' y' (by omega) hx' hy'), below_drewN hbr _⟩
          case measure => simp [intOf]; omega
        · have hnxy : ¬ x = y := hq
          have hxb : (x != y) = true := by simp [hq]
          clear hq
          have hv := not_same hr (fun q => by
            subst q
            rw [hx] at hy
            cases hy
            exact hnxy rfl)
          clear hnxy
          go_wp2_with fail
          go_quiet (fail)
          go_wp2
          go_ret
          exact ⟨ret_b hv.out.symm, below_drewN hbr _⟩
      · have hv := is_same hr (list_eq H1.out (fun i x y hx hy => hall i x y (by have := (List.getElem?_eq_some_iff.mp hy).1; omega) hx hy))
        clear hall
        go_wp2
        go_ret
        exact ⟨ret_b hv.out.symm, hbr⟩
  · have hv := not_same hr (fun q => h1 (congrArg List.length q))
    have hI : ¬ (l.length : Int) = m.length := by omega
    clear h1 hl hm
    go_enter Try.func11, Try.ntmps11
    go_wp2
    go_ret
    exact ⟨ret_b hv.out.symm, Below.refl _ _⟩
set_option maxHeartbeats 2000000 in
theorem equalC_any (a b : Option Addr) (ca cb : Nat) (l m : List Cas) (w : World) (hl : Rows w 4 a ca (l.map Cas.cells)) (hm : Rows w 4 b cb (m.map Cas.cells)) (r : Bool) (hr : Hid (r = true ↔ l = m)) :
    Calls Try.prog 25 #[.slice a l.length ca, .slice b m.length cb] w fun e w' => e = .returned (.bool r) ∧ Below w.heap.size w w' := by
  by_cases h1 : l.length = m.length
  · have hln := rows_len hm
    rw [h1]
    have H1 : Hid (l.length = m.length) := h1
    have hlH : Hid (Rows w 4 a ca (l.map Cas.cells)) := hl
    have hmH : Hid (Rows w 4 b cb (m.map Cas.cells)) := hm
    clear h1 hl hm
    go_enter Try.func25, Try.ntmps25
    go_wp2
    go_loopw [13] (fun u wr => ∃ k : Nat, k ≤ m.length ∧ u = .int .i64 k ∧ (∀ j x y, j < k → l[j]? = some x → m[j]? = some y → x = y) ∧ Below w.heap.size w wr) (fun u _ => m.length - (intOf u).toNat)
    case atStart => exact ⟨0, Nat.zero_le _, rfl, fun j x y hj => by omega, Below.refl _ _⟩
    case round =>
      obtain ⟨k, hk, rfl, hall, hbr⟩ := hrel
      by_cases hlt : k < m.length
      · obtain ⟨x, hx, hxm⟩ := get_lt l k (by have := H1.out; omega)
        obtain ⟨y, hy, hym⟩ := get_lt m k hlt
        obtain ⟨bx, ox, hix, _, c0, c1, c2, c3⟩ := cas_ix (hlH.out.later hbr) k x hx
        obtain ⟨bz, oy, hiy, _, e0, e1, e2, e3⟩ := cas_ix (hmH.out.later hbr) k y hy
        rw [H1.out] at hix
        have hklI : (k : Int) < (m.length : Int) := by omega
        have hne := run_neC x y
        cases hq : eqC x y with
        | true =>
          rw [hq] at hne
          have hxy : Hid (x = y) := (eqC_iff x y).mp hq
          clear hq
          go_wp2_with fail
          go_quiet (fail)
          go_wp2
          go_roundw
          case rel => exact ⟨k + 1, by omega, by go_num, (fun j x' y' hj hx' hy' => by
            by_cases hjk : j = k
            · subst hjk; rw [hx] at hx'; rw [hy] at hy'; cases hx'; cases hy'; exact hxy.out
            · exact hall j x' y' (by omega) hx' hy'), below_drewN hbr _⟩
          case measure => simp [intOf]; omega
        | false =>
          rw [hq] at hne
          have hnxy : ¬ x = y := fun q => by
            have := (eqC_iff x y).mpr q
            rw [hq] at this
            exact absurd this (by decide)
          clear hq
          have hv := not_same hr (fun q => by
            subst q
            rw [hx] at hy
            cases hy
            exact hnxy rfl)
          clear hnxy
          go_wp2_with fail
          go_quiet (fail)
          go_wp2
          go_ret
          exact ⟨ret_b hv.out.symm, below_drewN hbr _⟩
      · have hv := is_same hr (list_eq H1.out (fun i x y hx hy => hall i x y (by have := (List.getElem?_eq_some_iff.mp hy).1; omega) hx hy))
        clear hall
        go_wp2
        go_ret
        exact ⟨ret_b hv.out.symm, hbr⟩
  · have hv := not_same hr (fun q => h1 (congrArg List.length q))
    have hI : ¬ (l.length : Int) = m.length := by omega
    clear h1 hl hm
    go_enter Try.func25, Try.ntmps25
    go_wp2
    go_ret
    exact ⟨ret_b hv.out.symm, Below.refl _ _⟩
theorem sameInstr_any (a b : Ins) (w : World) (r : Bool) (hr : Hid (r = true ↔ a = b)) : Calls Try.prog 22 #[a.val, b.val] w fun e w' => e = .returned (.bool r) ∧ Below w.heap.size w w' := by
  have hne := run_eqI a b
  have hq : Hid (eqI a b = r) := by
    show eqI a b = r
    have h1 := eqI_iff a b
    have h2 := hr.out
    cases hx : eqI a b <;> cases r <;> simp_all
  rw [hq.out] at hne
  go_enter Try.func22, Try.ntmps22
  go_wp2
  go_ret
  exact ⟨rfl, boxed2 _ _ _⟩
set_option maxHeartbeats 1000000 in
theorem sameSelect_any (a b : MSel) (w : World) (ha : a.lies w) (hb : b.lies w) (r : Bool) (hr : Hid (r = true ↔ a.sel = b.sel)) : Calls Try.prog 24 #[a.val, b.val] w fun e w' => e = .returned (.bool r) ∧ Below w.heap.size w w' := by
  by_cases h1 : a.els = b.els
  · have hbb := boxed2 w (objS a) (objS b)
    have hcall := equalC_any a.at_ b.at_ a.cap b.cap a.cases b.cases _ (ha.1.later hbb) (hb.1.later hbb) r (by
      show r = true ↔ _
      rw [hr.out]
      unfold MSel.sel
      constructor
      · intro q; exact congrArg Sel.cases q
      · intro q; rw [q, h1])
    have h1b : (a.els == b.els) = true := by simp [h1]
    clear h1 ha hb
    cases r
    all_goals
      go_enter Try.func24, Try.ntmps24
      go_wp2_with (go_at_call 25; (with_reducible refine hcall.mono ?_); rintro e w2 ⟨rfl, hb2⟩)
      go_ret
      exact ⟨rfl, bthen hbb hb2⟩
  · have hv := not_same hr (fun q => h1 (congrArg Sel.els q))
    have h1b : (a.els == b.els) = false := by simp [h1]
    clear ha hb
    go_enter Try.func24, Try.ntmps24
    go_wp2
    go_ret
    exact ⟨ret_b hv.out.symm, boxed2 _ _ _⟩
set_option maxHeartbeats 2000000 in
theorem equalFuncI_any (a b : Option Addr) (ca cb : Nat) (l m : List Ins) (w : World) (hl : Rows w 5 a ca (l.map Ins.cells)) (hm : Rows w 5 b cb (m.map Ins.cells)) (r : Bool) (hr : Hid (r = true ↔ l = m)) :
    Calls Try.prog 21 #[.slice a l.length ca, .slice b m.length cb, .func (.func 22) #[] #[]] w fun e w' => e = .returned (.bool r) ∧ Below w.heap.size w w' := by
  by_cases h1 : l.length = m.length
  · have hln := rows_len hm
    rw [h1]
    have H1 : Hid (l.length = m.length) := h1
    have hlH : Hid (Rows w 5 a ca (l.map Ins.cells)) := hl
    have hmH : Hid (Rows w 5 b cb (m.map Ins.cells)) := hm
    clear h1 hl hm
    go_enter Try.func21, Try.ntmps21
    go_wp2
    go_loopw [17] (fun u wr => ∃ k : Nat, k ≤ m.length ∧ u = .int .i64 k ∧ (∀ j x y, j < k → l[j]? = some x → m[j]? = some y → x = y) ∧ Below w.heap.size w wr) (fun u _ => m.length - (intOf u).toNat)
    case atStart => exact ⟨0, Nat.zero_le _, rfl, fun j x y hj => by omega, Below.refl _ _⟩
    case round =>
      obtain ⟨k, hk, rfl, hall, hbr⟩ := hrel
      by_cases hlt : k < m.length
      · obtain ⟨x, hx, hxm⟩ := get_lt l k (by have := H1.out; omega)
        obtain ⟨y, hy, hym⟩ := get_lt m k hlt
        obtain ⟨bx, ox, hix, hbx, c0, c1, c2, c3, c4⟩ := ins_ix (hlH.out.later hbr) k x hx
        obtain ⟨bz, oy, hiy, hbz, e0, e1, e2, e3, e4⟩ := ins_ix (hmH.out.later hbr) k y hy
        rw [H1.out] at hix
        have hz1 : bz < wr.heap.size + 1 := by omega
        obtain ⟨q, hq⟩ : ∃ q : Bool, Hid (q = true ↔ x = y) := by
          by_cases hh : x = y
          · exact ⟨true, by simp [Hid, hh]⟩
          · exact ⟨false, by simp [Hid, hh]⟩
        have hcall : Calls Try.prog 22 #[x.val, y.val] ((wr.alloc (objI x)).alloc (objI y)) _ := sameInstr_any x y _ q hq
        have hbb : Below w.heap.size w ((wr.alloc (objI x)).alloc (objI y)) := bthen hbr (boxed2 _ _ _)
        cases q with
        | true =>
          have hxy : Hid (x = y) := hq.out.mp rfl
          clear hq
          go_wp2_with (go_at_call 22; (with_reducible refine hcall.mono ?_); rintro e w2 ⟨rfl, hb2⟩)
          go_roundw
          case rel => exact ⟨k + 1, by omega, by go_num, (fun j x' y' hj hx' hy' => by
            by_cases hjk : j = k
            · subst hjk; rw [hx] at hx'; rw [hy] at hy'; cases hx'; cases hy'; exact hxy.out
            · exact hall j x' y' (by omega) hx' hy'), bthen hbb hb2⟩
          case measure => simp [intOf]; omega
        | false =>
          have hv := not_same hr (fun t => by
            have t2 := congrArg (fun l => l[k]?) t
            simp only [hx, hy, Option.map_some, Option.some.injEq] at t2
            exact absurd (hq.out.mpr t2) (by decide))
          clear hq
          go_wp2_with (go_at_call 22; (with_reducible refine hcall.mono ?_); rintro e w2 ⟨rfl, hb2⟩)
          go_ret
          exact ⟨ret_b hv.out.symm, bthen hbb hb2⟩
      · have hv := is_same hr (list_eq H1.out (fun i x y hx hy => hall i x y (by have := (List.getElem?_eq_some_iff.mp hy).1; omega) hx hy))
        clear hall
        go_wp2
        go_ret
        exact ⟨ret_b hv.out.symm, hbr⟩
  · have hv := not_same hr (fun q => h1 (by have := congrArg List.length q; simpa using this))
    have hI : ¬ (l.length : Int) = m.length := by omega
    clear h1 hl hm
    go_enter Try.func21, Try.ntmps21
    go_wp2
    go_ret
    exact ⟨ret_b hv.out.symm, Below.refl _ _⟩
set_option maxHeartbeats 2000000 in
theorem equalFuncS_any (a b : Option Addr) (ca cb : Nat) (l m : List MSel) (w : World) (hl : Rows w 2 a ca (l.map MSel.cells)) (hm : Rows w 2 b cb (m.map MSel.cells)) (hls : ∀ s ∈ l, s.lies w) (hms : ∀ s ∈ m, s.lies w) (r : Bool) (hr : Hid (r = true ↔ l.map MSel.sel = m.map MSel.sel)) :
    Calls Try.prog 23 #[.slice a l.length ca, .slice b m.length cb, .func (.func 24) #[] #[]] w fun e w' => e = .returned (.bool r) ∧ Below w.heap.size w w' := by
  by_cases h1 : l.length = m.length
  · have hln := rows_len hm
    rw [h1]
    have H1 : Hid (l.length = m.length) := h1
    have hlH : Hid (Rows w 2 a ca (l.map MSel.cells)) := hl
    have hmH : Hid (Rows w 2 b cb (m.map MSel.cells)) := hm
    clear h1 hl hm
    go_enter Try.func23, Try.ntmps23
    go_wp2
    go_loopw [17] (fun u wr => ∃ k : Nat, k ≤ m.length ∧ u = .int .i64 k ∧ (∀ j x y, j < k → l[j]? = some x → m[j]? = some y → x.sel = y.sel) ∧ Below w.heap.size w wr) (fun u _ => m.length - (intOf u).toNat)
    case atStart => exact ⟨0, Nat.zero_le _, rfl, fun j x y hj => by omega, Below.refl _ _⟩
    case round =>
      obtain ⟨k, hk, rfl, hall, hbr⟩ := hrel
      by_cases hlt : k < m.length
      · obtain ⟨x, hx, hxm⟩ := get_lt l k (by have := H1.out; omega)
        obtain ⟨y, hy, hym⟩ := get_lt m k hlt
        obtain ⟨bx, ox, hix, hbx, c0, c1⟩ := sel_ix (hlH.out.later hbr) k x hx
        obtain ⟨bz, oy, hiy, hbz, e0, e1⟩ := sel_ix (hmH.out.later hbr) k y hy
        rw [H1.out] at hix
        have hz1 : bz < wr.heap.size + 1 := by omega
        obtain ⟨q, hq⟩ : ∃ q : Bool, Hid (q = true ↔ x.sel = y.sel) := by
          by_cases hh : x.sel = y.sel
          · exact ⟨true, by simp [Hid, hh]⟩
          · exact ⟨false, by simp [Hid, hh]⟩
        have hcall : Calls Try.prog 24 #[x.val, y.val] ((wr.alloc (objS x)).alloc (objS y)) _ := sameSelect_any x y _ ((hls x hxm).later (bthen hbr (boxed2 _ _ _))) ((hms y hym).later (bthen hbr (boxed2 _ _ _))) q hq
        have hbb : Below w.heap.size w ((wr.alloc (objS x)).alloc (objS y)) := bthen hbr (boxed2 _ _ _)
        cases q with
        | true =>
          have hxy : Hid (x.sel = y.sel) := hq.out.mp rfl
          clear hq
          go_wp2_with (go_at_call 24; (with_reducible refine hcall.mono ?_); rintro e w2 ⟨rfl, hb2⟩)
          go_roundw
          case rel => exact ⟨k + 1, by omega, by go_num, (fun j x' y' hj hx' hy' => by
            by_cases hjk : j = k
            · subst hjk; rw [hx] at hx'; rw [hy] at hy'; cases hx'; cases hy'; exact hxy.out
            · exact hall j x' y' (by omega) hx' hy'), bthen hbb hb2⟩
          case measure => simp [intOf]; omega
        | false =>
          have hv := not_same hr (fun t => by
            have t2 := congrArg (fun l => l[k]?) t
            simp only [List.getElem?_map, hx, hy, Option.map_some, Option.some.injEq] at t2
            exact absurd (hq.out.mpr t2) (by decide))
          clear hq
          go_wp2_with (go_at_call 24; (with_reducible refine hcall.mono ?_); rintro e w2 ⟨rfl, hb2⟩)
          go_ret
          exact ⟨ret_b hv.out.symm, bthen hbb hb2⟩
      · have hv := is_same hr (list_eq (by simp only [List.length_map]; exact H1.out) (fun i x y hx hy => by
          simp only [List.getElem?_map, Option.map_eq_some_iff] at hx hy
          obtain ⟨x', hx', rfl⟩ := hx
          obtain ⟨y', hy', rfl⟩ := hy
          exact hall i x' y' (by have := (List.getElem?_eq_some_iff.mp hy').1; omega) hx' hy'))
        clear hall
        go_wp2
        go_ret
        exact ⟨ret_b hv.out.symm, hbr⟩
  · have hv := not_same hr (fun q => h1 (by have := congrArg List.length q; simpa using this))
    have hI : ¬ (l.length : Int) = m.length := by omega
    clear h1 hl hm
    go_enter Try.func23, Try.ntmps23
    go_wp2
    go_ret
    exact ⟨ret_b hv.out.symm, Below.refl _ _⟩
end Go.Proofs.Ytpcobaoiglhkkaa.pg
