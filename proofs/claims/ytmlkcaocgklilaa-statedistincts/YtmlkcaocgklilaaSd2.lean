/- Distinct of the document's own; lists of numbers that are the same. -/
import Derived.Test.YtmlkcaocgklilaaSd1
namespace Go.Proofs.Ytmlkcaocgklilaa.pg
open Go.ChangeShapes Go.WideShapes Go.ChangeAt Go.RowKit
set_option linter.unusedVariables false
set_option linter.unusedSimpArgs false
set_option maxRecDepth 100000
attribute [local go_sem ↓] Go.wp_at_zero Go.wp_at_succ
/-- How far the document's own has come. -/
structure RDSt (w : World) (j : Nat) (P : Nat → Nat) (va : Option Addr) (vc : Nat) (wr : World) : Prop where
  be : Below w.heap.size w wr
  ow : OwnL wr w.heap.size 3 1 va vc (((List.range j).map fun i => (P i : Int)).map chCells)
theorem one1q (x : Int) : ∀ u ∈ chCells x, u.oneCell' = true := by intro u hu; simp [chCells] at hu; subst hu; rfl
theorem len1q (l : List Int) : ∀ row ∈ l.map chCells, row.length = 1 := by intro r hr; simp only [List.mem_map] at hr; obtain ⟨x, _, rfl⟩ := hr; rfl
theorem range_snoc (P : Nat → Nat) (j : Nat) : ((List.range (j + 1)).map fun i => (P i : Int)).map chCells = ((List.range j).map fun i => (P i : Int)).map chCells ++ [chCells (P j : Int)] := by simp [List.range_succ]
theorem run_eqT (x y : Sta) (w : World) (R : Bool) (hR : R = true ↔ x.key = y.key) : (binOp .eql 36 (.agg x.cs.toArray) (.agg y.cs.toArray)).run Try.prog w = .ok (.bool R) w := by
  obtain ⟨r, hr, hi⟩ := run_eqS x y w
  have : r = R := Bool.eq_iff_iff.mpr (hi.trans hR.symm)
  rw [hr, this]
set_option maxHeartbeats 1000000 in
theorem rdistinct_any (l : List Sta) (la : Option Addr) (lc : Nat) (w : World) (hl : Rows w 121 la lc (l.map Sta.cs)) (hsz : l.length * 8 ≤ reachBytes) (P : Nat → Nat) (hP : ∀ i, i < l.length → IsFst (l.map Sta.key) i (P i)) :
    Calls Try.prog 7 #[.slice la l.length lc] w fun e w' => ∃ va vc, e = .returned (.tuple #[.int .i64 (cnt P l.length : Int), .slice va l.length vc]) ∧ Rows w' 1 va vc (((List.range l.length).map fun i => (P i : Int)).map chCells) ∧ Below w.heap.size w w' := by
  have ll := rows_len hl
  have hlH : Hid (Rows w 121 la lc (l.map Sta.cs)) := hl
  have hPH : Hid (∀ i, i < l.length → IsFst (l.map Sta.key) i (P i)) := hP
  obtain ⟨iN, hiN, hzN, hsN, hbN⟩ := info_q infoN_q
  unfold reachBytes at hsz
  have huH : Hid (Try.prog.underlying 36 = _) := Try.underlying36
  clear hl hP
  go_enter Try.func7, Try.ntmps7
  go_wp2
  go_loopw [4, 5, 11] (fun o n u wr => ∃ (j : Nat) (va : Option Addr) (vc : Nat), j ≤ l.length ∧ u = .int .i64 j ∧ n = .int .i64 (cnt P j : Int) ∧ o = .slice va j vc ∧ Hid (RDSt w j P va vc wr)) (fun _ _ u _ => l.length - (intOf u).toNat)
  case atStart => exact ⟨0, none, 0, Nat.zero_le _, rfl, rfl, rfl, Below.refl _ _, own_nil_q _ _ _ _⟩
  case round =>
    obtain ⟨j, va, vc, hj, rfl, rfl, rfl, stH⟩ := hrel
    by_cases hlt : j < l.length
    · obtain ⟨x, hx, hxm⟩ := get_lt l j hlt
      obtain ⟨b0, o0, hix, hbl, hrg⟩ := state_ix (hlH.out.later stH.out.be) j x hx
      have hjI : (j : Int) < l.length := by omega
      have hc := cnt_le P j
      have hPj : Hid (IsFst (l.map Sta.key) j (P j)) := hPH.out j hlt
      have hkj : Hid ((l.map Sta.key)[j]? = some x.key) := by show _ = _; simp [hx]
      go_wp2
      go_loopw [7, 8] (fun at_ u wq => ∃ k n : Nat, k ≤ P j ∧ at_ = .int .i64 j ∧ u = .int .i64 k ∧ wq = wr.drewN n) (fun _ u _ => j - (intOf u).toNat)
      case atStart => exact ⟨0, 0, Nat.zero_le _, rfl, rfl, rfl⟩
      case round =>
        rename World => wq
        obtain ⟨k, nd, hk, rfl, rfl, hwq⟩ := hrel
        have hwqH : Hid (wq = wr.drewN nd) := hwq
        clear hwq
        have hPl := hPj.out.1
        by_cases hkj2 : k < j
        · obtain ⟨y, hy, hym⟩ := get_lt l k (by omega)
          obtain ⟨b1, o1, hix1, hbl1, hrg1⟩ := state_ix (hlH.out.later stH.out.be) k y hy
          have hkI : (k : Int) < j := by omega
          have hkI2 : (k : Int) < l.length := by omega
          have hL1 : Hid (∀ s : Cls (fun w' => ∃ n, w' = wq.drewN n), s.w.rangeAt b1 o1 y.cs) := fun s => by obtain ⟨w', n, rfl⟩ := s; rw [hwqH.out]; exact hrg1
          have hL0 : Hid (∀ s : Cls (fun w' => ∃ n, w' = wq.drewN n), s.w.rangeAt b0 o0 x.cs) := fun s => by obtain ⟨w', n, rfl⟩ := s; rw [hwqH.out]; exact hrg
          have hne : Nonempty (Cls (fun w' => ∃ n, w' = wq.drewN n)) := ⟨⟨_, 0, rfl⟩⟩
          have hyk : Hid ((l.map Sta.key)[k]? = some y.key) := by show _ = _; simp [hy]
          by_cases e : k < P j
          · have heq := fun wx => run_eqT y x wx false ⟨(fun q => by cases q), fun q => absurd (hyk.out.trans ((congrArg some q).trans hkj.out.symm)) (hPj.out.2.2 k e)⟩
            clear hrg hrg1
            go_wp2
            refine wp_region_cls (fun w' => ∃ n, w' = wq.drewN n) (by kernel_rfl) (by kernel_rfl) ⟨1, rfl⟩ ?_
            repeat (first
              | (go_big_quiet_want; (first | refine quiet_load_mid 36 _ rfl b1 o1 rfl y.cs _ hL1.out huH.out rfl (infoS121 y) ?_ | refine quiet_load_mid 36 _ rfl b0 o0 rfl x.cs _ hL0.out huH.out rfl (infoS121 x) ?_); (simp only [Act.put, List.setIfInBounds_toArray, List.set_cons_zero, List.set_cons_succ]); go_big_quiet_on)
              | go_big_quiet_step (fail))
            refine wpQuiet_nil ?_
            intro _ hw'
            obtain ⟨sq, hw''⟩ := hw'
            subst hw''
            obtain ⟨sw, nq, rfl⟩ := sq
            dsimp only
            go_wp2
            go_roundw
            case rel => exact ⟨k + 1, nd + nq, by omega, rfl, by go_num, by rw [hwqH.out, World.drewN_drewN]⟩
            case measure => simp [intOf]; omega
          · have e2 : k = P j := by omega
            have heq := fun wx => run_eqT y x wx true ⟨fun _ => (by
              have h1 := hPj.out.2.1
              rw [← e2, hyk.out, hkj.out] at h1
              exact Option.some.inj h1), fun _ => rfl⟩
            have hlen : Hid ((((List.range j).map fun i => (P i : Int)).map chCells).length = j) := by show _ = _; simp
            have hcn : Hid (cnt P (j + 1) = cnt P j) := by show _ = _; simp [cnt]; omega
            have hOw : Hid (∀ n, OwnL (wq.drewN n) w.heap.size 3 1 va vc (((List.range j).map fun i => (P i : Int)).map chCells)) := fun n => by rw [hwqH.out]; exact own_keep stH.out.ow fun b _ => rfl
            have hBe : Hid (∀ n, Below w.heap.size w (wq.drewN n)) := fun n => by rw [hwqH.out]; exact below_drewN (below_drewN stH.out.be nd) n
            have hSz : Hid (∀ n, w.heap.size ≤ (wq.drewN n).heap.size) := fun n => by rw [hwqH.out]; exact stH.out.be.size
            have hne2 : ((P j : Int) == j) = false := by simp; omega
            have e2H : Hid (k = P j) := e2
            clear hrg hrg1 e2 e
            go_wp2
            refine wp_region_cls (fun w' => ∃ n, w' = wq.drewN n) (by kernel_rfl) (by kernel_rfl) ⟨1, rfl⟩ ?_
            repeat (first
              | (go_big_quiet_want; (first | refine quiet_load_mid 36 _ rfl b1 o1 rfl y.cs _ hL1.out huH.out rfl (infoS121 y) ?_ | refine quiet_load_mid 36 _ rfl b0 o0 rfl x.cs _ hL0.out huH.out rfl (infoS121 x) ?_); (simp only [Act.put, List.setIfInBounds_toArray, List.set_cons_zero, List.set_cons_succ]); go_big_quiet_on)
              | go_big_quiet_step (fail))
            refine wpQuiet_nil ?_
            intro _ hw'
            obtain ⟨sq, hw''⟩ := hw'
            subst hw''
            obtain ⟨sw, nq, rfl⟩ := sq
            dsimp only
            have e2 := e2H.out
            subst e2
            go_wp2_with (first
              | (at_builtin; (refine wpList_app1 rfl (.tmp 35) (.tmp 37) 23 rfl w.heap.size 3 iN _ 1 8 Try.underlying23 hiN hzN hsN hbN rfl (by decide) va vc (((List.range j).map fun i => (P i : Int)).map chCells) (by rw [hlen.out]; rfl) (hOw.out _) (chCells (P j : Int)) rfl rfl (one1q _) (by rw [hlen.out]; unfold maxLen; omega) (by rw [hlen.out]; omega) (hSz.out _) ?_); intro va' vc' w2 hg; rw [hlen.out]))
            go_roundw
            case rel => exact ⟨j + 1, va', vc', by omega, by go_num, by rw [hcn.out], rfl, below_min (hBe.out _) (hSz.out _) hg.be, by rw [range_snoc]; exact hg.ow⟩
            case measure => simp [intOf]; omega
        · have e2 : k = j := by omega
          have e3 : P j = j := by omega
          have hlen : Hid ((((List.range j).map fun i => (P i : Int)).map chCells).length = j) := by show _ = _; simp
          have hcn : Hid (cnt P (j + 1) = cnt P j + 1) := by show _ = _; simp [cnt, e3]
          have hOw : Hid (∀ n, OwnL (wq.drewN n) w.heap.size 3 1 va vc (((List.range j).map fun i => (P i : Int)).map chCells)) := fun n => by rw [hwqH.out]; exact own_keep stH.out.ow fun b _ => rfl
          have hBe : Hid (∀ n, Below w.heap.size w (wq.drewN n)) := fun n => by rw [hwqH.out]; exact below_drewN (below_drewN stH.out.be nd) n
          have hSz : Hid (∀ n, w.heap.size ≤ (wq.drewN n).heap.size) := fun n => by rw [hwqH.out]; exact stH.out.be.size
          subst e2
          have e3H : Hid (P k = k) := e3
          have hsn : Hid (((List.range (k + 1)).map fun i => (P i : Int)).map chCells = ((List.range k).map fun i => (P i : Int)).map chCells ++ [chCells (k : Int)]) := by show _ = _; rw [range_snoc, e3]
          clear e3 hrg hk hPl
          go_wp2_with (first
            | (at_builtin; (refine wpList_app1 rfl (.tmp 35) (.tmp 37) 23 rfl w.heap.size 3 iN _ 1 8 Try.underlying23 hiN hzN hsN hbN rfl (by decide) va vc (((List.range k).map fun i => (P i : Int)).map chCells) (by rw [hlen.out]; rfl) (hOw.out 0) (chCells (k : Int)) rfl rfl (one1q _) (by rw [hlen.out]; unfold maxLen; omega) (by rw [hlen.out]; omega) (hSz.out 0) ?_); intro va' vc' w2 hg; rw [hlen.out]))
          go_roundw
          case rel => exact ⟨k + 1, va', vc', by omega, by go_num, by rw [hcn.out]; go_num, rfl, below_min (hBe.out 0) (hSz.out 0) hg.be, by rw [hsn.out]; exact hg.ow⟩
          case measure => simp [intOf]; omega
    · have hj2 : j = l.length := by omega
      subst hj2
      go_wp2
      go_ret2
      exact ⟨va, vc, rfl, own_rows stH.out.ow (len1q _), stH.out.be⟩
end Go.Proofs.Ytmlkcaocgklilaa.pg
