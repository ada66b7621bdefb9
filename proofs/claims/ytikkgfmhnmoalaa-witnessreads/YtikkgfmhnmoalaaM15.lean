/- Bytes compared; what is wrong with a witness's bytes if its numbers are not looked at. -/
import Derived.Test.YtikkgfmhnmoalaaM13
import Derived.Test.YtikkgfmhnmoalaaM14
namespace Go.Proofs.Ytikkgfmhnmoalaa.pg
open Go.ChangeShapes Go.WideShapes Go.ChangeAt Go.RowKit
set_option linter.unusedVariables false
set_option linter.unusedSimpArgs false
set_option maxRecDepth 100000
theorem equal_any (a b : Option Addr) (n m c d : Nat) (f g : Nat → Nat) (w : World) (h1 : octet.Row w a n f) (h2 : octet.Row w b m g) (r : Bool) (hr : octet.sameB f n g m = r) :
    Calls Try.prog 46 #[.slice a n c, .slice b m d] w fun e w' => e = .returned (.bool r) ∧ w' = w := by
  have e1 := octet.conv_any w a n c f h1
  have e2 := octet.conv_any w b m d g h2
  have hr2 : ((octet.strOf f n).toList == (octet.strOf g m).toList) = r := hr
  generalize octet.strOf f n = A at e1 hr2
  generalize octet.strOf g m = B at e2 hr2
  clear hr h1 h2
  go_enter Try.func46, Try.ntmps46
  go_wp2
  go_ret
  exact ⟨rfl, rfl⟩
/-- Part of a list of bytes. -/
theorem row_part {w : World} {b off n : Nat} {f : Nat → Nat} (h : octet.Row w (some ⟨b, off, none⟩) n f) (k m : Nat) (hm : k + m ≤ n) : octet.Row w (some ⟨b, off + k, none⟩) m (fun i => f (k + i)) := by
  refine ⟨by have := h.1; omega, fun i => h.2.1 _, ?_⟩
  rcases h.2.2 with h0 | ⟨b', off', e, hc⟩
  · exact .inl (by omega)
  · simp only [Option.some.injEq, Addr.mk.injEq, and_true] at e
    obtain ⟨rfl, rfl⟩ := e
    exact .inr ⟨b, off + k, rfl, fun i hi => by rw [Nat.add_assoc]; exact hc (k + i) (by omega)⟩
/-- Where bytes lie: in one block, each behind the other. -/
theorem row_addr {w : World} {a : Option Addr} {n : Nat} {f : Nat → Nat} (h : octet.Row w a n f) (hn : 0 < n) : ∃ b off, a = some ⟨b, off, none⟩ := by
  rcases h.2.2 with h0 | ⟨b, off, e, _⟩
  · omega
  · exact ⟨b, off, e⟩
def magB (f : Nat → Nat) (n : Nat) : Bool := decide (4 ≤ n) && octet.sameB f 4 (fl magW) 4
def sumK (f : Nat → Nat) (n : Nat) : Bool := octet.sameB (fun i => f (n - 4 + i)) 4 (fl (sumB (sumOf f (n - 4)))) 4
/-- What is wrong, and where, if the numbers are not looked at. -/
def unfP (f : Nat → Nat) (n : Nat) : Int × Int := if 65536 < n then (2, 0) else if magB f n = false then (40, 0) else if n < 12 then (10, (n : Int)) else if sumK f n = false then (41, (n : Int) - 4) else (0, 0)
set_option maxHeartbeats 2000000 in
theorem prefix_any (a : Option Addr) (b : Nat) (n c d : Nat) (f : Nat → Nat) (w : World) (h1 : octet.Row w a n f) (h2 : octet.Row w (some ⟨b, 0, none⟩) 4 (fl magW)) (hnc : n ≤ c) (hc : (c : Int) ≤ 9223372036854775807) : Calls Try.prog 45 #[.slice a n c, .slice (some ⟨b, 0, none⟩) 4 d] w fun e w' => e = .returned (.bool (magB f n)) ∧ Below w.heap.size w w' := by
  by_cases h4 : 4 ≤ n
  · obtain ⟨b1, off, rfl⟩ := row_addr h1 (by omega)
    have cE : ∀ wx, Below w.heap.size w wx → Calls Try.prog 46 #[.slice (some ⟨b1, off, none⟩) 4 c, .slice (some ⟨b, 0, none⟩) 4 d] wx _ := fun wx hb => equal_any _ _ 4 4 c d f (fl magW) wx ((row_part h1 0 4 (by omega)).later hb |> fun q => by simpa using q) (h2.later hb) _ rfl
    have hm : Hid (magB f n = octet.sameB f 4 (fl magW) 4) := by unfold magB; show _ = _; simp [h4]
    have hI : (4 : Int) ≤ (n : Int) := by omega
    have hcI : (4 : Int) ≤ (c : Int) := by omega
    generalize octet.sameB f 4 (fl magW) 4 = r at *
    clear h1 h2
    go_enter Try.func45, Try.ntmps45
    go_wp2_with (go_at_call 46; (with_reducible refine (cE _ (by first | exact Below.refl _ _ | exact (Below.refl _ _).drew)).mono ?_); rintro e w' ⟨rfl, hw⟩; replace hw := hw.symm; subst hw)
    go_ret
    exact ⟨by rw [hm.out]; rfl, Below.refl _ _⟩
  · have hm : magB f n = false := by unfold magB; simp [h4]
    have hI : (n : Int) < 4 := by omega
    rw [hm]
    clear h1 h2
    go_enter Try.func45, Try.ntmps45
    go_wp2_with fail
    go_ret
    exact ⟨rfl, Below.refl _ _⟩
theorem place_anyW {r : Nat} {v : Int} (w : World) (hc : w.cell? ⟨r, 13, none⟩ = some (.int .i64 v)) (h0 : 0 ≤ v) (h1 : v ≤ 1000000) : Calls Try.prog 30 #[.pointer (some ⟨r, 0, none⟩)] w fun e w' => e = .returned (.int .i64 (8 + v)) ∧ w' = w := by
  go_enter Try.func30, Try.ntmps30
  go_wp2
  go_ret
  exact ⟨rfl, rfl⟩
theorem run_value_of {P : Program} {m : Sem Value} {v : Value} {w w' : World} (h : m.run P w = .ok v w') : (m.bind fun x => pure (.value x) : Sem Next).run P w = .ok (.value v) w' := by
  show (m >>= fun x => pure (Next.value x)).run P w = _
  rw [Sem.run_bind, h]
  rfl
theorem cut_hi (b off n c m : Nat) (hm : m ≤ c) (hc : (c : Int) ≤ 9223372036854775807) : ∀ wx, (Instr.sliceAt 32 (.slice (some ⟨b, off, none⟩) n c) none (some (.int .i64 (m : Int))) none).run Try.prog wx = .ok (.slice (some ⟨b, off, none⟩) m c) wx := by
  intro wx
  have u := Try.underlying32
  have z := Try.sizeOf5
  have q2 : (m : Int) ≤ c := by omega
  simp [Instr.sliceAt, run_underlying u, asIntOf, go_sem, z, q2, Addr.add]
theorem cut_lo (b off n c m : Nat) (hm : m < n) (hn : n ≤ c) (hc : (c : Int) ≤ 9223372036854775807) : ∀ wx, (Instr.sliceAt 32 (.slice (some ⟨b, off, none⟩) n c) (some (.int .i64 (m : Int))) none none).run Try.prog wx = .ok (.slice (some ⟨b, off + m, none⟩) (n - m) (c - m)) wx := by
  intro wx
  have u := Try.underlying32
  have z := Try.sizeOf5
  have q2 : (m : Int) ≤ n := by omega
  have q3 : (n : Int) ≤ c := by omega
  have q4 : ¬ (c : Int) - m = 0 := by omega
  have q5 : ¬ m = c := by omega
  simp [Instr.sliceAt, run_underlying u, asIntOf, go_sem, z, q2, q3, q4, q5, Addr.add]
  rw [if_neg (by omega)]
  by_cases h : m = 0
  · subst h; rfl
  · rw [if_neg h]
theorem row_mag (w : World) (A : Nat) (h : w.heap[A]? = some objMag) : octet.Row w (some ⟨A, 0, none⟩) 4 (fl magW) := rows_row (rows_mag h) (by intro b hb; simp at hb; omega)
theorem row_sum {w : World} {A x : Nat} (hx : x < 4294967296) (h : w.heap[A]? = some (objSum x)) : octet.Row w (some ⟨A, 0, none⟩) 4 (fl (sumB x)) := rows_row (rows_sum h) (bt_sum x hx)
set_option maxHeartbeats 4000000 in
theorem unfit_any (a : Option Addr) (n c : Nat) (f : Nat → Nat) (w : World) (hr : octet.Row w a n f) (hnc : n ≤ c) (hc : (c : Int) ≤ 9223372036854775807) : Calls Try.prog 25 #[.slice a n c] w fun e w' => e = .returned (.tuple #[.int .i64 (unfP f n).1, .int .i64 (unfP f n).2]) ∧ Below w.heap.size w w' := by
  have hcv : ∀ wx : World, (convert 32 32 (.slice (some ⟨wx.heap.size, 0, none⟩) 4 4)).run Try.prog (wx.alloc (.cells #[.int .u8 115, .int .u8 99, .int .u8 97, .int .u8 119] 5)) = .ok (.slice (some ⟨wx.heap.size, 0, none⟩) 4 4) (wx.alloc objMag) := fun wx => Lib.run_convert_bytes_const wx 32 5 _ 4 4 Try.underlying32 Try.underlying5
  have hcv1 := hcv w
  have cP := prefix_any a w.heap.size n c 4 f (w.alloc objMag) (hr.later (boxed _ _)) (row_mag _ _ (heap_alloc_new _ _)) hnc hc
  unfold unfP
  by_cases h1 : 65536 < n
  · rw [if_pos h1]
    have hI : (65536 : Int) < (n : Int) := by omega
    clear hr cP
    go_enter Try.func25, Try.ntmps25
    go_wp2_with fail
    go_ret2
    exact ⟨rfl, Below.refl _ _⟩
  · rw [if_neg h1]
    have hI : ¬ (65536 : Int) < (n : Int) := by omega
    by_cases h2 : magB f n = false
    · rw [if_pos h2]
      rw [h2] at cP
      clear hr
      go_enter Try.func25, Try.ntmps25
      go_wp2_with (go_at_call 45; (with_reducible refine cP.mono ?_); rintro e w1 ⟨rfl, hb1⟩)
      go_ret2
      exact ⟨rfl, bthen (boxed _ _) hb1⟩
    · rw [if_neg h2]
      have h2t : magB f n = true := by simpa using h2
      rw [h2t] at cP
      by_cases h3 : n < 12
      · rw [if_pos h3]
        have hJ : (n : Int) - 4 < 8 := by omega
        clear hr
        go_enter Try.func25, Try.ntmps25
        go_wp2_with (go_at_call 45; (with_reducible refine cP.mono ?_); rintro e w1 ⟨rfl, hb1⟩)
        go_ret2
        exact ⟨rfl, bthen (boxed _ _) hb1⟩
      · rw [if_neg h3]
        have hJ : ¬ (n : Int) - 4 < 8 := by omega
        obtain ⟨b, off, rfl⟩ := row_addr hr (by omega)
        obtain ⟨m, hm⟩ : ∃ m : Nat, n = m + 4 := ⟨n - 4, by omega⟩
        have hmI : (n : Int) - 4 = (m : Int) := by omega
        have hX : sumOf f m < 4294967296 := by unfold sumOf; omega
        have hm4 : n - 4 = m := by omega
        have cS : ∀ wx, Below w.heap.size w wx → Calls Try.prog 20 #[.slice (some ⟨b, off, none⟩) m c] wx fun e w' => e = .returned (.int .u32 ((sumOf f m : Nat) : Int)) ∧ w' = wx := fun wx hb => octet.sum_any _ m c f wx (by have q := (row_part hr 0 m (by omega)).later hb; simpa using q)
        have cX : ∀ wx, Calls Try.prog 17 #[.int .u32 ((sumOf f m : Nat) : Int)] wx _ := fun wx => wfixed_any _ hX wx
        have hK : sumK f n = octet.sameB (fun i => f (m + i)) 4 (fl (sumB (sumOf f m))) 4 := by unfold sumK; rw [hm4]
        have cE : ∀ wx A d, Below w.heap.size w wx → wx.heap[A]? = some (objSum (sumOf f m)) → Calls Try.prog 46 #[.slice (some ⟨b, off + m, none⟩) 4 d, .slice (some ⟨A, 0, none⟩) 4 4] wx fun e w' => e = .returned (.bool (sumK f n)) ∧ w' = wx := fun wx A d hb hA => equal_any _ _ 4 4 d 4 _ _ wx ((row_part hr m 4 (by omega)).later hb) (row_sum hX hA) _ hK.symm
        rw [hmI]
        rw [hmI] at hJ
        generalize sumK f n = r at *
        generalize sumOf f m = X at *
        have hmn : Hid (n = m + 4) := hm
        clear hr hX hK hm hm4 hcv
        have hms : (m : Int) ≤ 65536 := by omega
        have hmn2 : (m : Int) ≤ (n : Int) := by omega
        have hncI : (n : Int) ≤ (c : Int) := by omega
        have hmcI : (m : Int) ≤ (c : Int) := by omega
        have hm0 : (0 : Int) ≤ (m : Int) := by omega
        go_enter Try.func25, Try.ntmps25
        go_wp2_with (go_at_call 45; (with_reducible refine cP.mono ?_); rintro e w1 ⟨rfl, hb1⟩)
        have hbD : Below w.heap.size w w1.drew := (bthen (boxed _ _) hb1).drew
        have hbW : Hid (Below w.heap.size w w1) := bthen (boxed _ _) hb1
        have hmo : Try.prog.follows .mixedOrders = true := by kernel_rfl
        clear hb1 cP hcv1 hmI
        have e4 : n - m = 4 := by have := hmn.out; omega
        have c1 := cut_lo b off n c m (by have := hmn.out; omega) hnc hc
        rw [e4] at c1
        have c2 := cut_hi b off n c m (by omega) hc
        refine wp_region_noPanic ?_
        refine wp_region_held_drew (S := fun w' => Below w.heap.size w w') (by kernel_rfl) hbD (fun hH => ?_)
        refine reg_move (i := 0) rfl (by kernel_rfl) (by kernel_rfl) (by kernel_rfl) (fun _ _ _ _ h => h) rfl (.slice (some ⟨b, off, none⟩) n c) (fun _ => rfl) hH ?_
        simp only [Act.put, List.getElem_toArray, List.getElem_cons_succ, List.getElem_cons_zero, List.setIfInBounds_toArray, List.set_cons_zero, List.set_cons_succ]
        refine reg_move (i := 1) rfl (by kernel_rfl) (by kernel_rfl) (by kernel_rfl) (fun _ _ _ _ h => h) rfl (.int .i64 (m : Int)) (fun _ => rfl) hH ?_
        simp only [Act.put, List.getElem_toArray, List.getElem_cons_succ, List.getElem_cons_zero, List.setIfInBounds_toArray, List.set_cons_zero, List.set_cons_succ]
        refine reg_move (i := 2) rfl (by kernel_rfl) (by kernel_rfl) (by kernel_rfl) (fun _ _ _ _ h => h) rfl (.slice (some ⟨b, off + m, none⟩) 4 (c - m)) (fun wx => by unfold execOp; exact run_value_of (c1 wx)) hH ?_
        simp only [Act.put, List.getElem_toArray, List.getElem_cons_succ, List.getElem_cons_zero, List.setIfInBounds_toArray, List.set_cons_zero, List.set_cons_succ]
        refine reg_move (i := 3) rfl (by kernel_rfl) (by kernel_rfl) (by kernel_rfl) (fun _ _ _ _ h => h) rfl (.slice (some ⟨b, off, none⟩) n c) (fun _ => rfl) hH ?_
        simp only [Act.put, List.getElem_toArray, List.getElem_cons_succ, List.getElem_cons_zero, List.setIfInBounds_toArray, List.set_cons_zero, List.set_cons_succ]
        refine reg_move (i := 4) rfl (by kernel_rfl) (by kernel_rfl) (by kernel_rfl) (fun _ _ _ _ h => h) rfl (.int .i64 (m : Int)) (fun _ => rfl) hH ?_
        simp only [Act.put, List.getElem_toArray, List.getElem_cons_succ, List.getElem_cons_zero, List.setIfInBounds_toArray, List.set_cons_zero, List.set_cons_succ]
        refine reg_move (i := 5) rfl (by kernel_rfl) (by kernel_rfl) (by kernel_rfl) (fun _ _ _ _ h => h) rfl (.slice (some ⟨b, off, none⟩) m c) (fun wx => by unfold execOp; exact run_value_of (c2 wx)) hH ?_
        simp only [Act.put, List.getElem_toArray, List.getElem_cons_succ, List.getElem_cons_zero, List.setIfInBounds_toArray, List.set_cons_zero, List.set_cons_succ]
        refine reg_call1 (i := 6) (by kernel_rfl) rfl rfl 20 _ _ rfl (.slice (some ⟨b, off, none⟩) m c) rfl (cf_sumW _ _) _ (cS _ hH) ?_
        rintro e w5 ⟨rfl, hw5⟩
        rw [hw5]
        refine ⟨_, rfl, hH, fun _ => ?_⟩
        simp only [Act.put, List.getElem_toArray, List.getElem_cons_succ, List.getElem_cons_zero, List.setIfInBounds_toArray, List.set_cons_zero, List.set_cons_succ]
        refine reg_call1 (i := 7) (by kernel_rfl) rfl rfl 17 _ _ rfl (.int .u32 (X : Int)) rfl (cf_fixedW _ _) _ (cX _) ?_
        rintro e w6 ⟨A6, rfl, hA6, hA7, hb6⟩
        have hH6 : Below w.heap.size w w6 := bthen hH hb6
        refine ⟨_, rfl, hH6, fun _ => ?_⟩
        simp only [Act.put, List.getElem_toArray, List.getElem_cons_succ, List.getElem_cons_zero, List.setIfInBounds_toArray, List.set_cons_zero, List.set_cons_succ]
        refine reg_call2 (i := 8) (by kernel_rfl) rfl rfl 46 _ _ _ _ rfl (.slice (some ⟨b, off + m, none⟩) 4 (c - m)) (.slice (some ⟨A6, 0, none⟩) 4 4) rfl rfl (cf_any Try.func46 (by kernel_rfl) (by kernel_rfl) _ _) _ (cE _ _ _ hH6 hA7) ?_
        rintro e w7 ⟨rfl, hw7⟩
        rw [hw7]
        refine ⟨_, rfl, hH6, fun _ => ?_⟩
        simp only [Act.put, List.getElem_toArray, List.getElem_cons_succ, List.getElem_cons_zero, List.setIfInBounds_toArray, List.set_cons_zero, List.set_cons_succ]
        refine reg_move (i := 9) rfl (by kernel_rfl) (by kernel_rfl) (by kernel_rfl) (fun _ _ _ _ h => h) rfl (.bool (!r)) (fun _ => rfl) hH6 ?_
        simp only [Act.put, List.getElem_toArray, List.getElem_cons_succ, List.getElem_cons_zero, List.setIfInBounds_toArray, List.set_cons_zero, List.set_cons_succ]
        refine reg_move (i := 10) rfl (by kernel_rfl) (by kernel_rfl) (by kernel_rfl) (fun _ _ _ _ h => h) rfl (.bool (!r)) (fun _ => rfl) hH6 ?_
        simp only [Act.put, List.getElem_toArray, List.getElem_cons_succ, List.getElem_cons_zero, List.setIfInBounds_toArray, List.set_cons_zero, List.set_cons_succ]
        refine wpAnyH_done (by kernel_rfl) (NoPanic.normal ?_) _
        have hfin : Hid (Below w.heap.size w w6) := hH6
        clear hH hH6 hb6 hA6 hA7 cE cS cX c1 c2 hbD
        cases r with
        | true =>
          go_wp2_with fail
          go_ret2
          exact ⟨rfl, hfin.out⟩
        | false =>
          go_wp2_with fail
          go_ret2
          exact ⟨rfl, hfin.out⟩
end Go.Proofs.Ytikkgfmhnmoalaa.pg
/- Numbers read one behind the other into where they stand. -/
namespace Go.Proofs.Ytikkgfmhnmoalaa.pg
open Go.ChangeShapes Go.WideShapes Go.ChangeAt Go.RowKit
set_option linter.unusedVariables false
set_option linter.unusedSimpArgs false
set_option maxRecDepth 100000
/-- How a reader stands while numbers are read: vs what was read, a where the last one began, k the place; the numbers of the list E stand where S says. -/
structure Rds (r q : Nat) (ba : Option Addr) (bc n : Nat) (f : Nat → Nat) (la : Option Addr) (lc : Nat) (E : List (Addr × Int × Int)) (S : List Int → Nat → Nat → World → Prop) : Prop where
  p : ∀ {vs a k W}, S vs a k W → W.cell? ⟨r, 0, none⟩ = some (.pointer (some ⟨q, 0, none⟩))
  d : ∀ {vs a k W}, S vs a k W → octet.Rd W q 109 (.slice ba n bc) k
  w : ∀ {vs a k W}, S vs a k W → octet.Row W ba n f
  kn : ∀ {vs a k W}, S vs a k W → k ≤ n
  c : ∀ {vs a k W}, S vs a k W → ∃ v, W.cell? ⟨r, 13, none⟩ = some v
  z : ∀ {vs a k W}, S vs a k W → W.frozen? ⟨r, 13, none⟩ = false
  l : ∀ {vs a k W}, S vs a k W → Rows W 3 la lc (E.map nmC)
  a : ∀ {vs a k W}, S vs a k W → S vs k k (W.setCell ⟨r, 13, none⟩ (.int .i64 (k : Int)))
  q : ∀ {vs a k W} (k' : Nat), k' ≤ n → S vs a k W → S vs a k' (W.setCell ⟨q, 1, none⟩ (.int .i64 (k' : Int)))
  b : ∀ {vs a k W W'}, Below W.heap.size W W' → S vs a k W → S vs a k W'
  x : ∀ {vs a k W x}, S vs a k W → E[vs.length]? = some x → (∃ v, W.cell? x.1 = some v) ∧ W.frozen? x.1 = false ∧ ∀ v : Int, S (vs ++ [v]) a k (W.setCell x.1 (.int .i64 v)) ∧ (W.setCell x.1 (.int .i64 v)).cell? x.1 = some (.int .i64 v)
theorem nm_ix2 {w : World} {a : Option Addr} {cap : Nat} {l : List (Addr × Int × Int)} (h : Rows w 3 a cap (l.map nmC)) (i : Nat) (x : Addr × Int × Int) (hi : l[i]? = some x) :
    ∃ b o, (∀ wx, (Instr.indexAt 91 (.slice a l.length cap) (.int .i64 (i : Int))).run Try.prog wx = .ok (.pointer (some ⟨b, o, none⟩)) wx) ∧ b < w.heap.size ∧ w.cell? ⟨b, o, none⟩ = some (.pointer (some x.1)) ∧ w.cell? ⟨b, o + 1, none⟩ = some (.int .i64 x.2.1) ∧ w.cell? ⟨b, o + 2, none⟩ = some (.int .i64 x.2.2) := by
  obtain ⟨b, o, hr, hlt, hc⟩ := h.ix 91 57 Try.underlying91 (by kernel_rfl) (fun wx => Try.sizeOf57 wx) i (row := nmC x) (by simp [hi])
  rw [List.length_map] at hr
  exact ⟨b, o, hr, hlt, hc 0 _ rfl, hc 1 _ rfl, hc 2 _ rfl⟩
abbrev bndL (E : List (Addr × Int × Int)) : List (Int × Int) := E.map fun x => (x.2.1, x.2.2)
set_option maxHeartbeats 4000000 in
theorem each_any {r q : Nat} {ba : Option Addr} {bc n : Nat} {f : Nat → Nat} {la : Option Addr} {lc : Nat} {E : List (Addr × Int × Int)} {S : List Int → Nat → Nat → World → Prop} (hS : Rds r q ba bc n f la lc E S) (a0 k0 : Nat) (w : World) (h0 : S [] a0 k0 w) (R : RL) (hR : rdL f n (bndL E) a0 k0 = R) :
    Calls Try.prog 49 #[.pointer (some ⟨r, 0, none⟩), .slice la E.length lc] w fun e w' => e = .returned (.int .i64 R.e) ∧ ∃ vs, S vs R.at_ R.k w' ∧ (R.e = 0 → vs = R.vs) := by
  have hlE : (E.length : Int) ≤ 9223372036854775807 := rows_len (hS.l h0)
  have hSH : Hid _ := hS
  have h0H : Hid (S [] a0 k0 w) := h0
  have hRH : Hid (rdL f n (bndL E) a0 k0 = R) := hR
  clear hS h0 hR
  go_enter Try.func49, Try.ntmps49
  go_wp2_with fail
  go_loopw [11] (fun u wr => ∃ (i a k : Nat) (vs : List Int), i ≤ E.length ∧ u = .int .i64 (i : Int) ∧ Hid (S vs a k wr ∧ vs.length = i ∧ (R.e = (rdL f n (bndL (E.drop i)) a k).e ∧ R.at_ = (rdL f n (bndL (E.drop i)) a k).at_ ∧ R.k = (rdL f n (bndL (E.drop i)) a k).k ∧ (R.e = 0 → R.vs = vs ++ (rdL f n (bndL (E.drop i)) a k).vs)))) (fun u _ => E.length - (intOf u).toNat)
  case atStart => exact ⟨0, a0, k0, [], Nat.zero_le _, rfl, h0H.out, rfl, by rw [List.drop_zero, hRH.out]; exact ⟨rfl, rfl, rfl, fun _ => rfl⟩⟩
  case round =>
    clear h0H hRH
    obtain ⟨i, a, k, vs, hi, rfl, hs⟩ := hrel
    by_cases hlt : i < E.length
    · have hiI : (i : Int) < (E.length : Int) := by omega
      obtain ⟨x, hx⟩ : ∃ x, E[i]? = some x := ⟨_, List.getElem?_eq_getElem hlt⟩
      obtain ⟨b, o, hix, hbl, c0, c1, c2⟩ := nm_ix2 (hSH.out.l hs.out.1) i x hx
      have hdrop : E.drop i = x :: E.drop (i + 1) := by
        rw [List.drop_eq_getElem_cons hlt]
        rw [List.getElem?_eq_getElem hlt] at hx
        rw [Option.some.inj hx]
      obtain ⟨V, hV⟩ : ∃ V, V = wr.alloc (.cells #[.pointer (some x.1), .int .i64 x.2.1, .int .i64 x.2.2] 57) := ⟨_, rfl⟩
      have hbV : Below wr.heap.size wr V := by rw [hV]; exact boxed _ _
      have hA : V.heap[wr.heap.size]? = some (.cells #[.pointer (some x.1), .int .i64 x.2.1, .int .i64 x.2.2] 57) := by rw [hV]; exact heap_alloc_new _ _
      have s1 := hSH.out.b hbV hs.out.1
      have v0 := hSH.out.p s1
      have cAt := octet.at_any q _ (k : Int) V (hSH.out.d s1)
      obtain ⟨y, v13⟩ := hSH.out.c s1
      have f13 := hSH.out.z s1
      have s2 := hSH.out.a s1
      have hrl : r < wr.heap.size := cell_lt (hSH.out.p hs.out.1)
      have hql : q < wr.heap.size := (hSH.out.d hs.out.1).lt
      obtain ⟨V1, hV1⟩ : ∃ V1, V1 = V.setCell ⟨r, 13, none⟩ (.int .i64 (k : Int)) := ⟨_, rfl⟩
      rw [← hV1] at s2
      have v1 := hSH.out.p s2
      obtain ⟨X, Ee, Rr, hG⟩ : ∃ X Ee Rr, octet.gotten f n (k : Int) = (X, Ee, Rr) := ⟨_, _, _, rfl⟩
      have hA1 : V1.heap[wr.heap.size]? = some (.cells #[.pointer (some x.1), .int .i64 x.2.1, .int .i64 x.2.2] 57) := by rw [hV1]; exact (Below.heap_setCell _ _ _ _ (by show wr.heap.size ≠ r; omega)).trans hA
      by_cases hR0 : Rr = 0
      · subst hR0
        have hf := (hSH.out.w s2).2.1
        obtain ⟨xx, g1, g2, g3, g4⟩ := gotten_once hf hG
        obtain ⟨k', hk'⟩ : ∃ k' : Nat, k' = k + octet.szN xx := ⟨_, rfl⟩
        rw [← hk'] at g3
        have hkn : k' ≤ n := by have := g4.1; rw [putB_len] at this; omega
        have cU := octet.uint_ok q ba n bc k f V1 (hSH.out.d s2) (hSH.out.w s2) X Ee hG (hSH.out.kn s2)
        subst g3
        have s3 := hSH.out.q k' hkn s2
        obtain ⟨V2, hV2⟩ : ∃ V2, V2 = V1.setCell ⟨q, 1, none⟩ (.int .i64 (k' : Int)) := ⟨_, rfl⟩
        rw [← hV2] at s3 cU
        have hA2 : V2.heap[wr.heap.size]? = some (.cells #[.pointer (some x.1), .int .i64 x.2.1, .int .i64 x.2.2] 57) := by rw [hV2]; exact (Below.heap_setCell _ _ _ _ (by show wr.heap.size ≠ q; omega)).trans hA1
        have d0 : V2.cell? ⟨wr.heap.size, 0, none⟩ = some (.pointer (some x.1)) := by rw [cell_of_row V2 _ 0 _ _ _ hA2]; rfl
        have hxi : E[vs.length]? = some x := by rw [hs.out.2.1]; exact hx
        obtain ⟨⟨yx, dx⟩, fx, sx⟩ := hSH.out.x s3 hxi
        have hxl : x.1.block < wr.heap.size := cell_lt (hSH.out.x hs.out.1 hxi).1.choose_spec
        obtain ⟨v, hv⟩ : ∃ v, v = min (xx : Int) 9223372036854775807 := ⟨_, rfl⟩
        have hvc : v = capI X := by rw [hv, g1]; rfl
        have hXb : 0 ≤ X ∧ X < 18446744073709551616 := by omega
        obtain ⟨s4, dv⟩ := sx v
        obtain ⟨V3, hV3⟩ : ∃ V3, V3 = V2.setCell x.1 (.int .i64 v) := ⟨_, rfl⟩
        rw [← hV3] at s4 dv
        have hA3 : V3.heap[wr.heap.size]? = some (.cells #[.pointer (some x.1), .int .i64 x.2.1, .int .i64 x.2.2] 57) := by rw [hV3]; exact (Below.heap_setCell _ _ _ _ (by omega)).trans hA2
        have e0 : (V2.setCell x.1 (.int .i64 (min (xx : Int) 9223372036854775807))).cell? ⟨wr.heap.size, 0, none⟩ = some (.pointer (some x.1)) := by rw [← hv, ← hV3, cell_of_row V3 _ 0 _ _ _ hA3]; rfl
        have e1 : (V2.setCell x.1 (.int .i64 (min (xx : Int) 9223372036854775807))).cell? ⟨wr.heap.size, 1, none⟩ = some (.int .i64 x.2.1) := by rw [← hv, ← hV3, cell_of_row V3 _ 1 _ _ _ hA3]; rfl
        have e2 : (V2.setCell x.1 (.int .i64 (min (xx : Int) 9223372036854775807))).cell? ⟨wr.heap.size, 2, none⟩ = some (.int .i64 x.2.2) := by rw [← hv, ← hV3, cell_of_row V3 _ 2 _ _ _ hA3]; rfl
        have cF := fits_any x.1 x.2.1 x.2.2 v V3 dv (cell_lt dv) _ rfl
        rw [hdrop] at hs
        have hsH : Hid (vs.length = i ∧ R.e = (rdL f n ((x.2.1, x.2.2) :: bndL (E.drop (i + 1))) a k).e ∧ R.at_ = (rdL f n ((x.2.1, x.2.2) :: bndL (E.drop (i + 1))) a k).at_ ∧ R.k = (rdL f n ((x.2.1, x.2.2) :: bndL (E.drop (i + 1))) a k).k ∧ (R.e = 0 → R.vs = vs ++ (rdL f n ((x.2.1, x.2.2) :: bndL (E.drop (i + 1))) a k).vs)) := ⟨hs.out.2.1, hs.out.2.2⟩
        have hGH : Hid (octet.gotten f n (k : Int) = (X, (k' : Int), 0)) := hG
        have s4H : Hid (S (vs ++ [v]) k k' V3) := s4
        have hvH : Hid (v = capI X) := hvc
        have v0e : (wr.alloc (.cells #[.pointer (some x.1), .int .i64 x.2.1, .int .i64 x.2.2] 57)).cell? ⟨r, 0, none⟩ = some (.pointer (some ⟨q, 0, none⟩)) := by rw [← hV]; exact v0
        have v1e : (V.setCell ⟨r, 13, none⟩ (.int .i64 (k : Int))).cell? ⟨r, 0, none⟩ = some (.pointer (some ⟨q, 0, none⟩)) := by rw [← hV1]; exact v1
        have v13e := v13
        have hVH : Hid (V = wr.alloc (.cells #[.pointer (some x.1), .int .i64 x.2.1, .int .i64 x.2.2] 57)) := hV
        have hV1H : Hid (V1 = V.setCell ⟨r, 13, none⟩ (.int .i64 (k : Int))) := hV1
        have hV3H : Hid (V3 = V2.setCell x.1 (.int .i64 (min (xx : Int) 9223372036854775807))) := by rw [hV3, hv]; rfl
        clear v0 v1 hV hV1 hV2 hV3 v13e hk' hv
        clear s1 s2 s3 s4 sx hs hG hdrop hA hA1 hA2 hA3 hbV g4 hf hxi hvc hbl
        cases hfit : (decide (x.2.1 ≤ v) && decide (v ≤ x.2.2)) with
        | true =>
          rw [hfit] at cF
          go_wp2_with (first
            | (go_at_call 50; rw [← hVH.out]; (with_reducible refine cAt.mono ?_); rintro e w' ⟨rfl, hw⟩; rw [hw]; clear hw w')
            | (go_at_call 56; rw [← hV1H.out]; (with_reducible refine cU.mono ?_); rintro e w' ⟨rfl, hw⟩; rw [hw]; clear hw w')
            | (go_at_call 36; rw [← hV3H.out]; (with_reducible refine cF.mono ?_); rintro e w6 ⟨rfl, hb6⟩))
          have hb : x.2.1 ≤ capI X ∧ capI X ≤ x.2.2 := by rw [← hvH.out]; simpa using hfit
          have hrd := rdL_ok (b := (x.2.1, x.2.2)) (t := bndL (E.drop (i + 1))) (a := a) hGH.out hb
          have hs5 : Hid (S (vs ++ [v]) k k' w6 ∧ (vs ++ [v]).length = i + 1 ∧ (R.e = (rdL f n (bndL (E.drop (i + 1))) k k').e ∧ R.at_ = (rdL f n (bndL (E.drop (i + 1))) k k').at_ ∧ R.k = (rdL f n (bndL (E.drop (i + 1))) k k').k ∧ (R.e = 0 → R.vs = (vs ++ [v]) ++ (rdL f n (bndL (E.drop (i + 1))) k k').vs))) := by
            obtain ⟨q1, q2, q3, q4, q5⟩ := hsH.out
            rw [hrd] at q2 q3 q4 q5
            simp only [Int.toNat_natCast] at q2 q3 q4 q5
            exact ⟨hSH.out.b hb6 s4H.out, by rw [List.length_append, q1]; rfl, q2, q3, q4, fun h => by rw [q5 h, hvH.out, List.append_assoc]; rfl⟩
          clear hrd hb hb6 hsH hGH hvH s4H hVH hV1H hV3H cF cU cAt e0 e1 e2 d0 dx fx v13 f13 v0e v1e c0 c1 c2
          go_wp2_with fail
          go_roundw
          case rel => exact ⟨i + 1, k, k', vs ++ [v], by omega, by go_num, hs5⟩
          case measure => simp [intOf]; omega
        | false =>
          rw [hfit] at cF
          go_wp2_with (first
            | (go_at_call 50; rw [← hVH.out]; (with_reducible refine cAt.mono ?_); rintro e w' ⟨rfl, hw⟩; rw [hw]; clear hw w')
            | (go_at_call 56; rw [← hV1H.out]; (with_reducible refine cU.mono ?_); rintro e w' ⟨rfl, hw⟩; rw [hw]; clear hw w')
            | (go_at_call 36; rw [← hV3H.out]; (with_reducible refine cF.mono ?_); rintro e w6 ⟨rfl, hb6⟩))
          have hb : ¬ (x.2.1 ≤ capI X ∧ capI X ≤ x.2.2) := by
            rw [← hvH.out]
            intro q
            simp [q.1, q.2] at hfit
          have hrd := rdL_bad (b := (x.2.1, x.2.2)) (t := bndL (E.drop (i + 1))) (a := a) hGH.out hb
          obtain ⟨q1, q2, q3, q4, q5⟩ := hsH.out
          rw [hrd] at q2 q3 q4
          simp only [Int.toNat_natCast] at q2 q3 q4
          go_ret
          exact ⟨by rw [q2]; rfl, vs ++ [v], by rw [q3, q4]; exact hSH.out.b hb6 s4H.out, fun h => by rw [q2] at h; cases h⟩
      · have cU := octet.uint_err q ba n bc k f V1 (hSH.out.d s2) (hSH.out.w s2) X Ee Rr hG hR0 (hSH.out.kn s2)
        have hrd := rdL_err (b := (x.2.1, x.2.2)) (t := bndL (E.drop (i + 1))) (a := a) hG hR0
        have hfin : Hid (R.e = Rr ∧ S vs R.at_ R.k V1) := by
          obtain ⟨q0, q1, q2, q3, q4, q5⟩ := hs.out
          rw [hdrop] at q2 q3 q4
          have e : bndL (x :: E.drop (i + 1)) = (x.2.1, x.2.2) :: bndL (E.drop (i + 1)) := rfl
          rw [e, hrd] at q2 q3 q4
          exact ⟨q2, by rw [q3, q4]; exact s2⟩
        have hRb : (Rr != 0) = true := by simpa using hR0
        have v0e : (wr.alloc (.cells #[.pointer (some x.1), .int .i64 x.2.1, .int .i64 x.2.2] 57)).cell? ⟨r, 0, none⟩ = some (.pointer (some ⟨q, 0, none⟩)) := by rw [← hV]; exact v0
        have v1e : (V.setCell ⟨r, 13, none⟩ (.int .i64 (k : Int))).cell? ⟨r, 0, none⟩ = some (.pointer (some ⟨q, 0, none⟩)) := by rw [← hV1]; exact v1
        have hVH : Hid (V = wr.alloc (.cells #[.pointer (some x.1), .int .i64 x.2.1, .int .i64 x.2.2] 57)) := hV
        have hV1H : Hid (V1 = V.setCell ⟨r, 13, none⟩ (.int .i64 (k : Int))) := hV1
        clear v0 v1 hV hV1 s1 s2 hs hG hdrop hA hA1 hbV hrd hbl hx
        go_wp2_with (first
          | (go_at_call 50; rw [← hVH.out]; (with_reducible refine cAt.mono ?_); rintro e w' ⟨rfl, hw⟩; rw [hw]; clear hw w')
          | (go_at_call 56; rw [← hV1H.out]; (with_reducible refine cU.mono ?_); rintro e w' ⟨rfl, hw⟩; rw [hw]; clear hw w'))
        go_ret
        exact ⟨by rw [hfin.out.1]; rfl, vs, hfin.out.2, fun h => (hR0 (hfin.out.1.symm.trans h)).elim⟩
    · have hie : i = E.length := by omega
      have hfin : Hid (R.e = 0 ∧ S vs R.at_ R.k wr ∧ vs = R.vs) := by
        obtain ⟨q0, q1, q2, q3, q4, q5⟩ := hs.out
        have e : bndL (E.drop i) = [] := by rw [hie, List.drop_length]; rfl
        rw [e] at q2 q3 q4 q5
        have h0 : R.e = 0 := q2
        have h1 := q5 h0
        exact ⟨h0, by rw [q3, q4]; exact q0, by rw [h1]; exact (List.append_nil vs).symm⟩
      have hnI : (E.length : Int) ≤ (i : Int) := by omega
      clear hs hie
      go_wp2_with fail
      go_ret
      exact ⟨by rw [hfin.out.1]; rfl, vs, hfin.out.2.1, fun _ => hfin.out.2.2⟩
end Go.Proofs.Ytikkgfmhnmoalaa.pg
/- A witness's reader: how it stands in memory, and its numbers read into where they stand. -/
namespace Go.Proofs.Ytikkgfmhnmoalaa.pg
open Go.ChangeShapes Go.WideShapes Go.ChangeAt Go.RowKit
set_option linter.unusedVariables false
set_option linter.unusedSimpArgs false
set_option maxRecDepth 100000
abbrev rdC (q : Nat) (M : Wi) (pa : Option Addr) (pc : Nat) (a : Nat) : List Value := .pointer (some ⟨q, 0, none⟩) :: (M.cells pa pc ++ [.int .i64 (a : Int)])
abbrev objRd (q : Nat) (M : Wi) (pa : Option Addr) (pc : Nat) (a : Nat) : Obj := .cells (rdC q M pa pc a).toArray 76
structure RdW (w0 W : World) (r q : Nat) (ba : Option Addr) (bc n : Nat) (f : Nat → Nat) (M : Wi) (pa : Option Addr) (pc : Nat) (a k : Nat) : Prop where
  rb : W.heap[r]? = some (objRd q M pa pc a)
  d : octet.Rd W q 109 (.slice ba n bc) k
  row : octet.Row W ba n f
  kn : k ≤ n
  ow : OwnL W w0.heap.size 66 2 pa pc (M.pk.map pkC)
  n1 : r ≠ q
  n2 : r ∉ blk ba
  n3 : q ∉ blk ba
  n4 : r ∉ blk pa
  n5 : q ∉ blk pa
  be : Below 0 w0 W
  fr : ∀ b, b < w0.heap.size → b ≠ r → b ≠ q → W.heap[b]? = w0.heap[b]?
  bz : ∀ b ∈ blk ba, b < W.heap.size
section
variable {w0 W W' : World} {r q : Nat} {ba : Option Addr} {bc n : Nat} {f : Nat → Nat} {M : Wi} {pa : Option Addr} {pc a k : Nat}
theorem row_same {W W' : World} {ba : Option Addr} {n : Nat} {f : Nat → Nat} (h : octet.Row W ba n f) (hk : ∀ b ∈ blk ba, W'.heap[b]? = W.heap[b]?) : octet.Row W' ba n f :=
  ⟨h.1, h.2.1, h.2.2.imp_right fun ⟨b, off, e, hc⟩ => ⟨b, off, e, fun i hi => by
    rw [World.cell?_of_block (w := W) (hk b (by rw [e]; simp [blk]))]
    exact hc i hi⟩⟩
theorem RdW.keep (h : RdW w0 W r q ba bc n f M pa pc a k) (hr : W'.heap[r]? = W.heap[r]?) (hq : W'.heap[q]? = W.heap[q]?) (hb : ∀ b ∈ blk ba, W'.heap[b]? = W.heap[b]?) (hp : ∀ b ∈ blk pa, W'.heap[b]? = W.heap[b]?) (hw : Below 0 W W') (hf : ∀ b, b < w0.heap.size → b ≠ r → b ≠ q → W'.heap[b]? = W.heap[b]?) : RdW w0 W' r q ba bc n f M pa pc a k :=
  ⟨hr.trans h.rb, hq.trans h.d, row_same h.row hb, h.kn, own_keep h.ow hp, h.n1, h.n2, h.n3, h.n4, h.n5, h.be.trans hw, fun b b1 b2 b3 => (hf b b1 b2 b3).trans (h.fr b b1 b2 b3), fun b hb => Nat.lt_of_lt_of_le (h.bz b hb) hw.size⟩
theorem row_blk (h : octet.Row W ba n f) : n = 0 ∨ ∀ b ∈ blk ba, b < W.heap.size := by
  rcases h.2.2 with h0 | ⟨b, off, e, hc⟩
  · exact .inl h0
  · by_cases hn : n = 0
    · exact .inl hn
    · refine .inr fun x hx => ?_
      rw [e] at hx
      simp only [blk, List.mem_singleton] at hx
      subst hx
      exact cell_lt (hc 0 (by omega))
theorem RdW.later (h : RdW w0 W r q ba bc n f M pa pc a k) (hb : Below W.heap.size W W') : RdW w0 W' r q ba bc n f M pa pc a k := by
  refine ⟨(hb.block r (Array.getElem?_eq_some_iff.mp h.rb).1).trans h.rb, (hb.block q h.d.lt).trans h.d, h.row.later hb, h.kn, own_keep h.ow (fun g hg => hb.block g (blk_lt h.ow g hg).2), h.n1, h.n2, h.n3, h.n4, h.n5, h.be.trans (hb.mono (Nat.zero_le _)), fun b b1 b2 b3 => (hb.block b (Nat.lt_of_lt_of_le b1 h.be.size)).trans (h.fr b b1 b2 b3), fun b q => Nat.lt_of_lt_of_le (h.bz b q) hb.size⟩
theorem size_setCell (W : World) (p : Addr) (v : Value) : (W.setCell p v).heap.size = W.heap.size := by
  show (W.heap.modify p.block _).size = _
  rw [Array.size_modify]
theorem set_other (W : World) (t j b : Nat) (v : Value) (h : b ≠ t) : (W.setCell ⟨t, j, none⟩ v).heap[b]? = W.heap[b]? := Below.heap_setCell W ⟨t, j, none⟩ v b h
theorem RdW.other (h : RdW w0 W r q ba bc n f M pa pc a k) (t j : Nat) (v : Value) (h1 : t ≠ r) (h2 : t ≠ q) (h3 : t ∉ blk ba) (h4 : t ∉ blk pa) (h5 : w0.heap.size ≤ t) : RdW w0 (W.setCell ⟨t, j, none⟩ v) r q ba bc n f M pa pc a k :=
  h.keep (set_other _ _ _ _ _ (fun e => h1 e.symm)) (set_other _ _ _ _ _ (fun e => h2 e.symm)) (fun b hb => set_other _ _ _ _ _ (fun e => h3 (e ▸ hb))) (fun b hb => set_other _ _ _ _ _ (fun e => h4 (e ▸ hb))) ((Below.refl _ W).setCell (p := ⟨t, j, none⟩) (Nat.zero_le _) v) (fun b b1 _ _ => set_other _ _ _ _ _ (by omega))
theorem RdW.setK (h : RdW w0 W r q ba bc n f M pa pc a k) (k' : Nat) (hk : k' ≤ n) : RdW w0 (W.setCell ⟨q, 1, none⟩ (.int .i64 (k' : Int))) r q ba bc n f M pa pc a k' :=
  ⟨(set_other _ _ _ _ _ h.n1).trans h.rb, h.d.set k', row_same h.row (fun b hb => set_other _ _ _ _ _ (fun e => h.n3 (e ▸ hb))), hk, own_keep h.ow (fun b hb => set_other _ _ _ _ _ (fun e => h.n5 (e ▸ hb))), h.n1, h.n2, h.n3, h.n4, h.n5, h.be.setCell (p := ⟨q, 1, none⟩) (Nat.zero_le _) _, fun b b1 b2 b3 => (set_other _ _ _ _ _ b3).trans (h.fr b b1 b2 b3), fun b hb => by rw [size_setCell]; exact h.bz b hb⟩
theorem RdW.setR (h : RdW w0 W r q ba bc n f M pa pc a k) (j : Nat) (v : Value) (M' : Wi) (pa' : Option Addr) (pc' a' : Nat) (e : (rdC q M pa pc a).set j v = rdC q M' pa' pc' a') (ho : OwnL W w0.heap.size 66 2 pa' pc' (M'.pk.map pkC)) (h4 : r ∉ blk pa') (h5 : q ∉ blk pa') : RdW w0 (W.setCell ⟨r, j, none⟩ v) r q ba bc n f M' pa' pc' a' k := by
  refine ⟨?_, (set_other _ _ _ _ _ (fun e => h.n1 e.symm)).trans h.d, row_same h.row (fun b hb => set_other _ _ _ _ _ (fun e => h.n2 (e ▸ hb))), h.kn, own_keep ho (fun b hb => set_other _ _ _ _ _ (fun e => h4 (e ▸ hb))), h.n1, h.n2, h.n3, h4, h5, h.be.setCell (p := ⟨r, j, none⟩) (Nat.zero_le _) _, fun b b1 b2 b3 => (set_other _ _ _ _ _ b2).trans (h.fr b b1 b2 b3), fun b hb => by rw [size_setCell]; exact h.bz b hb⟩
  rw [setCell_eq_setRow W r j _ _ _ _ h.rb, setRow_heap W r _ _ _ _ h.rb]
  show some (Obj.cells ((rdC q M pa pc a).toArray.setIfInBounds j v) _ _) = _
  rw [List.setIfInBounds_toArray, e]
theorem RdW.setA (h : RdW w0 W r q ba bc n f M pa pc a k) (a' : Nat) : RdW w0 (W.setCell ⟨r, 13, none⟩ (.int .i64 (a' : Int))) r q ba bc n f M pa pc a' k :=
  h.setR 13 _ M pa pc a' rfl h.ow h.n4 h.n5
theorem RdW.cell (h : RdW w0 W r q ba bc n f M pa pc a k) (j : Nat) (v : Value) (hv : (rdC q M pa pc a)[j]? = some v) : W.cell? ⟨r, j, none⟩ = some v := by
  rw [cell_of_row W r j _ _ _ h.rb]
  simpa using hv
theorem RdW.fz (h : RdW w0 W r q ba bc n f M pa pc a k) (j : Nat) : W.frozen? ⟨r, j, none⟩ = false := frozen_of_row W r j _ _ h.rb
theorem RdW.append {w8 : World} {va : Option Addr} {vc : Nat} {p : Int × Int} (h : RdW w0 W r q ba bc n f M pa pc a k) (ho : OwnL w8 w0.heap.size 66 2 va vc ((M.pk ++ [p]).map pkC)) (hk : ∀ b, b < W.heap.size → b ∉ blk pa → w8.heap[b]? = W.heap[b]?) (hB : Below (min w0.heap.size W.heap.size) W w8) (hbl : blk va = blk pa ∨ blk va = [W.heap.size]) (hba : ∀ b ∈ blk ba, b ∉ blk pa) :
    RdW w0 (w8.setCell ⟨r, 9, none⟩ (.slice va (M.pk.length + 1) vc)) r q ba bc n f { M with pk := M.pk ++ [p] } va vc a k := by
  have hrl := (Array.getElem?_eq_some_iff.mp h.rb).1
  have h0 : Below w0.heap.size W w8 := hB.mono (by have := h.be.size; omega)
  have r4 : r ∉ blk va := fun q => by rcases hbl with e | e <;> rw [e] at q; exact h.n4 q; simp at q; omega
  have r5 : q ∉ blk va := fun e2 => by rcases hbl with e | e <;> rw [e] at e2; exact h.n5 e2; have := h.d.lt; simp at e2; omega
  have hr8 := (hk r hrl h.n4).trans h.rb
  refine ⟨?_, (set_other _ _ _ _ _ (fun e => h.n1 e.symm)).trans ((hk q h.d.lt h.n5).trans h.d), row_same h.row (fun b hb => (set_other w8 r 9 b _ (fun e => h.n2 (by rw [← e]; exact hb))).trans (hk b (h.bz b hb) (hba b hb))), h.kn, own_keep ho (fun b hb => set_other w8 r 9 b _ (fun e => r4 (by rw [← e]; exact hb))), h.n1, h.n2, h.n3, r4, r5, (h.be.trans (h0.mono (Nat.zero_le _))).setCell (p := ⟨r, 9, none⟩) (Nat.zero_le _) _, fun b b1 b2 b3 => (set_other w8 r 9 b _ b2).trans ((h0.block b b1).trans (h.fr b b1 b2 b3)), fun b hb => by rw [size_setCell]; exact Nat.lt_of_lt_of_le (h.bz b hb) h0.size⟩
  rw [setCell_eq_setRow w8 r 9 _ _ _ _ hr8, setRow_heap w8 r _ _ _ _ hr8]
  show some (Obj.cells ((rdC q M pa pc a).toArray.setIfInBounds 9 _) _ _) = _
  rw [List.setIfInBounds_toArray]
  have e : (rdC q M pa pc a).set 9 (.slice va (M.pk.length + 1) vc) = rdC q { M with pk := M.pk ++ [p] } va vc a := by
    simp [rdC, Wi.cells]
  rw [e]
theorem RdW.base (h : RdW w0 W r q ba bc n f M none 0 a k) (hM : M.pk = []) : RdW W W r q ba bc n f M none 0 a k := ⟨h.rb, h.d, h.row, h.kn, by rw [hM]; exact own_nil_q _ _ _ _, h.n1, h.n2, h.n3, h.n4, h.n5, Below.refl _ _, fun _ _ _ _ => rfl, h.bz⟩
/-- A witness whose first numbers are these. -/
def fillW (s : Int) (vs : List Int) : Wi := ⟨s, vs.getD 0 0, vs.getD 1 0, vs.getD 2 0, vs.getD 3 0, vs.getD 4 0, vs.getD 5 0, vs.getD 6 0, [], vs.getD 7 0, vs.getD 8 0, vs.getD 9 0⟩
theorem rows_butO {W : World} {kk cap t j : Nat} {A : Nat} {L : List (List Value)} (h : Rows W kk (some ⟨A, 0, none⟩) cap L) (hA : A ≠ t) (v : Value) : Rows (W.setCell ⟨t, j, none⟩ v) kk (some ⟨A, 0, none⟩) cap L :=
  h.keepC (B := t) (by simp only [blk, List.mem_singleton]; exact fun e => hA e.symm) (But.set ⟨t, j, none⟩ v).c
/-- The head's numbers are read into the reader itself. -/
theorem head_rds (w0 : World) (r q : Nat) (ba : Option Addr) (bc n : Nat) (f : Nat → Nat) (s : Int) (A : Nat) (hr : A ≠ r) (hq : A ≠ q) :
    Rds r q ba bc n f (some ⟨A, 0, none⟩) 10 (headL r 1) (fun vs a k W => RdW w0 W r q ba bc n f (fillW s vs) none 0 a k ∧ Rows W 3 (some ⟨A, 0, none⟩) 10 ((headL r 1).map nmC)) where
  p h := h.1.cell 0 _ rfl
  d h := h.1.d
  w h := h.1.row
  kn h := h.1.kn
  c h := ⟨_, h.1.cell 13 _ rfl⟩
  z h := h.1.fz 13
  l h := h.2
  a h := ⟨h.1.setA _, rows_butO h.2 hr _⟩
  q k' hk h := ⟨h.1.setK k' hk, rows_butO h.2 hq _⟩
  b hb h := ⟨h.1.later hb, h.2.later hb⟩
  x {vs a k W x} h hx := by
    have key : ∀ (j : Nat), x.1 = ⟨r, j, none⟩ → j < 14 → (∀ v : Int, (rdC q (fillW s vs) none 0 a).set j (.int .i64 v) = rdC q (fillW s (vs ++ [v])) none 0 a) → (∃ v, W.cell? x.1 = some v) ∧ W.frozen? x.1 = false ∧ ∀ v : Int, (RdW w0 (W.setCell x.1 (.int .i64 v)) r q ba bc n f (fillW s (vs ++ [v])) none 0 a k ∧ Rows (W.setCell x.1 (.int .i64 v)) 3 (some ⟨A, 0, none⟩) 10 ((headL r 1).map nmC)) ∧ (W.setCell x.1 (.int .i64 v)).cell? x.1 = some (.int .i64 v) := fun j e hj he => by
      rw [e]
      refine ⟨⟨_, h.1.cell j ((rdC q (fillW s vs) none 0 a)[j]'(by show j < 14; exact hj)) (List.getElem?_eq_getElem _)⟩, h.1.fz j, fun v => ?_⟩
      have h2 := h.1.setR j (.int .i64 v) (fillW s (vs ++ [v])) none 0 a (he v) (own_nil_q _ _ _ _) (by simp [blk]) (by simp [blk])
      refine ⟨⟨h2, rows_butO h.2 hr _⟩, h2.cell j _ ?_⟩
      rw [← he v, List.getElem?_set_self (by show j < 14; exact hj)]
    match vs, hx with
    | [], hx => simp [headL] at hx; subst hx; exact key 2 rfl (by decide) (fun v => rfl)
    | [_], hx => simp [headL] at hx; subst hx; exact key 3 rfl (by decide) (fun v => rfl)
    | [_, _], hx => simp [headL] at hx; subst hx; exact key 4 rfl (by decide) (fun v => rfl)
    | [_, _, _], hx => simp [headL] at hx; subst hx; exact key 5 rfl (by decide) (fun v => rfl)
    | [_, _, _, _], hx => simp [headL] at hx; subst hx; exact key 6 rfl (by decide) (fun v => rfl)
    | [_, _, _, _, _], hx => simp [headL] at hx; subst hx; exact key 7 rfl (by decide) (fun v => rfl)
    | [_, _, _, _, _, _], hx => simp [headL] at hx; subst hx; exact key 8 rfl (by decide) (fun v => rfl)
    | [_, _, _, _, _, _, _], hx => simp [headL] at hx; subst hx; exact key 10 rfl (by decide) (fun v => rfl)
    | [_, _, _, _, _, _, _, _], hx => simp [headL] at hx; subst hx; exact key 11 rfl (by decide) (fun v => rfl)
    | [_, _, _, _, _, _, _, _, _], hx => simp [headL] at hx; subst hx; exact key 12 rfl (by decide) (fun v => rfl)
    | _ :: _ :: _ :: _ :: _ :: _ :: _ :: _ :: _ :: _ :: t, hx =>
      have := (List.getElem?_eq_some_iff.mp hx).1
      simp [headL] at this
      omega
/-- Numbers that are read into a block of their own. -/
theorem own_rds (w0 : World) (r q : Nat) (ba : Option Addr) (bc n : Nat) (f : Nat → Nat) (M : Wi) (pa : Option Addr) (pc A t : Nat) (ty : TypeId) (E : List (Addr × Int × Int)) (C : List Int → List Value) (hr : A ≠ r) (hq : A ≠ q) (hA : A ≠ t) (t1 : t ≠ r) (t2 : t ≠ q) (t3 : t ∉ blk ba) (t4 : t ∉ blk pa) (t5 : w0.heap.size ≤ t)
    (hC : ∀ (vs : List Int) (x : Addr × Int × Int), E[vs.length]? = some x → x.1 = ⟨t, vs.length, none⟩ ∧ vs.length < (C vs).length ∧ ∀ v : Int, (C vs).set vs.length (.int .i64 v) = C (vs ++ [v])) :
    Rds r q ba bc n f (some ⟨A, 0, none⟩) E.length E (fun vs a k W => RdW w0 W r q ba bc n f M pa pc a k ∧ W.heap[t]? = some (.cells (C vs).toArray ty) ∧ Rows W 3 (some ⟨A, 0, none⟩) E.length (E.map nmC)) where
  p h := h.1.cell 0 _ rfl
  d h := h.1.d
  w h := h.1.row
  kn h := h.1.kn
  c h := ⟨_, h.1.cell 13 _ rfl⟩
  z h := h.1.fz 13
  l h := h.2.2
  a h := ⟨h.1.setA _, (set_other _ _ _ _ _ t1).trans h.2.1, rows_butO h.2.2 hr _⟩
  q k' hk h := ⟨h.1.setK k' hk, (set_other _ _ _ _ _ t2).trans h.2.1, rows_butO h.2.2 hq _⟩
  b hb h := ⟨h.1.later hb, (hb.block _ (Array.getElem?_eq_some_iff.mp h.2.1).1).trans h.2.1, h.2.2.later hb⟩
  x {vs a k W x} h hx := by
    obtain ⟨e, hl, hs⟩ := hC vs x hx
    rw [e]
    refine ⟨⟨(C vs)[vs.length], by rw [cell_of_row W t _ _ _ _ h.2.1]; simp⟩, frozen_of_row W t _ _ _ h.2.1, fun v => ?_⟩
    have hb : (W.setCell ⟨t, vs.length, none⟩ (.int .i64 v)).heap[t]? = some (.cells (C (vs ++ [v])).toArray ty) := by
      rw [setCell_eq_setRow W t _ _ _ _ _ h.2.1, setRow_heap W t _ _ _ _ h.2.1]
      show some (Obj.cells ((C vs).toArray.setIfInBounds vs.length _) _ _) = _
      rw [List.setIfInBounds_toArray, hs v]
    refine ⟨⟨h.1.other t _ _ t1 t2 t3 t4 t5, hb, rows_butO h.2.2 hA _⟩, ?_⟩
    rw [cell_of_row _ t _ _ _ _ hb, ← hs v]
    simp [hl]
end
end Go.Proofs.Ytikkgfmhnmoalaa.pg
