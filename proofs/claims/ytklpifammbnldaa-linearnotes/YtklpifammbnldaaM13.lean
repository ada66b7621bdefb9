/- The order of accesses; whether a list has an access. -/
import Derived.Test.YtklpifammbnldaaM12
import Derived.Deep.DeepCutAuto
namespace Go.Proofs.Ytklpifammbnldaa.pg
open Go.ChangeShapes Go.WideShapes Go.ChangeAt Go.RowKit
set_option linter.unusedVariables false
set_option linter.unusedSimpArgs false
set_option maxRecDepth 100000
attribute [local go_sem ↓] Go.wp_at_zero Go.wp_at_succ
/-- An access stands ahead of another one. -/
def bef (x y : Acc) : Bool := decide (x.kind < y.kind ∨ x.kind = y.kind ∧ x.num < y.num)
def cmpA (x y : Acc) : Int := orP (cmpP x.kind y.kind) (cmpP x.num y.num)
theorem cmpA_bef (x y : Acc) : 0 ≤ cmpA x y ↔ bef x y = false := by
  unfold cmpA orP cmpP bef
  rw [decide_eq_false_iff_not]
  by_cases a : x.kind < y.kind <;> by_cases b : y.kind < x.kind <;> by_cases c : x.num < y.num <;> by_cases d : y.num < x.num <;> simp [a, b, c, d] <;> omega
theorem keep4 {A0 A1 A2 A3 Q : Prop} (h : A0 ∧ A1 ∧ A2 ∧ A3 ∧ Q) : Q := h.2.2.2.2
set_option maxHeartbeats 1000000 in
theorem compare_any (x y : Acc) (w : World) : Calls Try.prog 69 #[x.val, y.val] w fun e w' => e = .returned (.int .i64 (cmpA x y)) ∧ Below w.heap.size w w' := by
  have hb := boxed2 w (objA x) (objA y)
  have bA := (boxA_new w x).later (boxed (w.alloc (objA x)) (objA y))
  have bB := boxA_new (w.alloc (objA x)) y
  rw [World.size_alloc] at bB
  have cC : ∀ a b wx, Calls Try.prog 76 #[.int .i64 a, .int .i64 b] wx _ := fun a b wx => cmp_any a b wx
  go_enter Try.func69, Try.ntmps69
  go_wp2_with fail
  generalize (w.alloc (objA x)).alloc (objA y) = W at *
  generalize w.heap.size + 1 = B0 at *
  have hbH : Hid (Below w.heap.size w W) := hb
  have KH : Hid (∀ w', Below W.heap.size W w' → w'.cell? ⟨w.heap.size, 0, none⟩ = some (.int .i64 x.kind) ∧ w'.cell? ⟨w.heap.size, 1, none⟩ = some (.int .i64 x.num) ∧ w'.cell? ⟨B0, 0, none⟩ = some (.int .i64 y.kind) ∧ w'.cell? ⟨B0, 1, none⟩ = some (.int .i64 y.num) ∧ Below W.heap.size W w') := fun w' h' => ⟨(bA.later h').1, (bA.later h').2.1, (bB.later h').1, (bB.later h').2.1, h'⟩
  clear hb bA bB
  go_region_held3 (fun w' => w'.cell? ⟨w.heap.size, 0, none⟩ = some (.int .i64 x.kind) ∧ w'.cell? ⟨w.heap.size, 1, none⟩ = some (.int .i64 x.num) ∧ w'.cell? ⟨B0, 0, none⟩ = some (.int .i64 y.kind) ∧ w'.cell? ⟨B0, 1, none⟩ = some (.int .i64 y.num) ∧ Below W.heap.size W w') ((refine KH.out _ ?_; repeat (first | assumption | exact keep4 (by assumption) | exact Below.refl _ _ | refine Below.drew ?_ | refine bthen ?_ (boxed _ _))))
    (first
      | (go_at_call 76; (with_reducible refine (cC _ _ _).mono ?_); rintro e w' ⟨rfl, rfl⟩)
      | (go_at_call 75; (refine (or_any _ _ _ _ (World.cell?_alloc_at _ _ _ _ rfl) (World.cell?_alloc_at _ _ _ _ rfl)).mono ?_); rintro e w' ⟨rfl, rfl⟩))
  all_goals go_wp2
  all_goals go_ret
  all_goals exact ⟨rfl, bthen hbH.out (by repeat (first | assumption | exact keep4 (by assumption) | exact Below.refl _ _ | refine Below.drew ?_ | refine bthen ?_ (boxed _ _)))⟩
set_option maxHeartbeats 1000000 in
theorem index_any (l : List Acc) (a : Option Addr) (c : Nat) (v : Acc) (w : World) (hl : Rows w 3 a c (l.map Acc.cells)) : Calls Try.prog 77 #[.slice a l.length c, v.val] w fun e w' => ∃ r : Int, e = .returned (.int .i64 r) ∧ (0 ≤ r ↔ v ∈ l) ∧ Below w.heap.size w w' := by
  have hlI := rows_len hl
  have hlH : Hid (Rows w 3 a c (l.map Acc.cells)) := hl
  have hb := boxed w (objA v)
  have bA := boxA_new w v
  clear hl
  go_enter Try.func77, Try.ntmps77
  go_wp2_with fail
  generalize w.alloc (objA v) = W at *
  obtain ⟨k0, k1, k2⟩ := bA
  have hbH : Hid (Below w.heap.size w W) := hb
  clear hb
  go_loopw [8] (fun u wr => ∃ k n : Nat, k ≤ l.length ∧ u = .int .i64 k ∧ wr = W.drewN n ∧ Hid (∀ x ∈ l.take k, x ≠ v)) (fun u _ => l.length - (intOf u).toNat)
  case atStart => exact ⟨0, 0, Nat.zero_le _, rfl, rfl, fun s hs => by simp at hs⟩
  case round =>
    obtain ⟨k, n, hk, rfl, rfl, hno⟩ := hrel
    by_cases hlt : k < l.length
    · obtain ⟨y, hy, hym⟩ := get_lt l k hlt
      obtain ⟨b1, o1, hix1, hbl1, m0, m1, m2⟩ := acc_ix (hlH.out.later hbH.out) k y hy
      have hkI : (k : Int) < l.length := by omega
      have heq := fun wx => run_eqA v y wx
      by_cases e : v = y
      · rw [(eqA_iff v y).mpr e] at heq
        have hin : Hid (v ∈ l) := e ▸ hym
        clear e
        go_wp2
        refine wp_region_quiet_lit (by kernel_rfl) (by kernel_rfl) ?_
        repeat (go_big_quiet_step (fail))
        refine wpQuiet_nil ?_
        intro _ hw'
        obtain ⟨nq, hw''⟩ := hw'
        subst hw''
        go_wp2
        go_ret
        exact ⟨_, rfl, ⟨fun _ => hin.out, fun _ => by omega⟩, bthen hbH.out (below_drewN (below_drewN (Below.refl _ _) n) nq)⟩
      · rw [Bool.eq_false_iff.mpr fun q => e ((eqA_iff v y).mp q)] at heq
        have eH : Hid (∀ x ∈ l.take (k + 1), x ≠ v) := fun z hz => by
          rw [take_one l k y hy, List.mem_append, List.mem_singleton] at hz
          rcases hz with hz | rfl
          · exact hno.out z hz
          · exact fun q => e q.symm
        clear e
        go_wp2
        refine wp_region_quiet_lit (by kernel_rfl) (by kernel_rfl) ?_
        repeat (go_big_quiet_step (fail))
        refine wpQuiet_nil ?_
        intro _ hw'
        obtain ⟨nq, hw''⟩ := hw'
        subst hw''
        go_wp2
        go_roundw
        case rel => exact ⟨k + 1, n + nq, by omega, by go_num, rfl, eH⟩
        case measure => simp [intOf]; omega
    · have hk2 : k = l.length := by omega
      subst hk2
      rw [List.take_length] at hno
      go_wp2
      go_ret
      exact ⟨_, rfl, ⟨fun q => absurd q (by omega), fun q => absurd rfl (hno.out v q)⟩, bthen hbH.out (below_drewN (Below.refl _ _) _)⟩
theorem contains_any (l : List Acc) (a : Option Addr) (c : Nat) (v : Acc) (w : World) (hl : Rows w 3 a c (l.map Acc.cells)) (R : Bool) (hR : Hid (R = true ↔ v ∈ l)) : Calls Try.prog 70 #[.slice a l.length c, v.val] w fun e w' => e = .returned (.bool R) ∧ Below w.heap.size w w' := by
  have c1 : Calls Try.prog 77 #[.slice a l.length c, v.val] (w.alloc (objA v)) _ := index_any l a c v _ (hl.later (boxed _ _))
  clear hl
  go_enter Try.func70, Try.ntmps70
  go_wp2_with (go_at_call 77; (with_reducible refine c1.mono ?_); rintro e w1 ⟨r, rfl, hr, hb1⟩; (have hrH : Hid (0 ≤ r ↔ v ∈ l) := hr); clear hr)
  go_ret
  exact ⟨ret_b (by rw [Bool.eq_iff_iff, decide_eq_true_iff]; exact hrH.out.trans hR.out.symm), bthen (boxed _ _) hb1⟩
end Go.Proofs.Ytklpifammbnldaa.pg
/- When an event may stand in a trace, by package depend. -/
namespace Go.Proofs.Ytklpifammbnldaa.pg
open Go.ChangeShapes Go.WideShapes Go.ChangeAt Go.RowKit
set_option linter.unusedVariables false
set_option linter.unusedSimpArgs false
set_option maxRecDepth 100000
attribute [local go_sem ↓] Go.wp_at_zero Go.wp_at_succ
abbrev acc0 : Acc := ⟨0, 0, false⟩
/-- An access that there may be, behind the one ahead of it. -/
def okA (l : List Acc) (i : Nat) : Prop := ∀ a, l[i]? = some a → (0 ≤ a.num ∧ a.num < manyP a.kind) ∧ (0 < i → ∀ b, l[i - 1]? = some b → bef b a = true)
/-- An event may stand in a trace. -/
def rightP (x : Ev) : Prop := (0 ≤ x.go ∧ x.go < 6 ∧ 1 ≤ x.n ∧ x.n ≤ 6) ∧ (∀ i, i < tN x.n → okA x.list i) ∧ (∀ a ∈ x.list.drop (tN x.n), a = acc0) ∧ (⟨5, x.go, true⟩ : Acc) ∈ x.of
theorem tN_eq {n : Int} (h1 : 1 ≤ n) (h2 : n ≤ 6) : ((tN n : Nat) : Int) = n := by rw [tN_int, Int.max_def, Int.min_def]; split <;> split <;> omega
theorem of_at {x : Ev} {i : Nat} (h : i < tN x.n) : x.of[i]? = x.list[i]? := by unfold Ev.of; rw [List.getElem?_take, if_pos h]
theorem right_no1 (x : Ev) (w : World) (hno : x.go < 0 ∨ 6 ≤ x.go ∨ x.n < 1 ∨ 6 < x.n) : Calls Try.prog 53 #[x.val] w fun e w' => e = .returned (.bool false) ∧ Below w.heap.size w w' := by
  by_cases h0 : x.go < 0
  · clear hno
    go_enter Try.func53, Try.ntmps53
    go_wp2
    go_ret
    exact ⟨rfl, boxed _ _⟩
  · by_cases h1 : 6 ≤ x.go
    · clear hno
      go_enter Try.func53, Try.ntmps53
      go_wp2
      go_ret
      exact ⟨rfl, boxed _ _⟩
    · by_cases h2 : x.n < 1
      · clear hno
        go_enter Try.func53, Try.ntmps53
        go_wp2
        go_ret
        exact ⟨rfl, boxed _ _⟩
      · have h3 : 6 < x.n := by omega
        clear hno
        go_enter Try.func53, Try.ntmps53
        go_wp2
        go_ret
        exact ⟨rfl, boxed _ _⟩
/-- The slices of an event's accesses. -/
theorem slice_two (B N : Nat) (h1 : 1 ≤ N) (h2 : N ≤ 6) : (∀ wx, (Instr.sliceAt 90 (.pointer (some ⟨B, 7, none⟩)) none (some (.int .i64 (N : Int))) none).run Try.prog wx = .ok (.slice (some ⟨B, 7, none⟩) N 6) wx) ∧
    ∃ ra, (∀ wx, (Instr.sliceAt 90 (.pointer (some ⟨B, 7, none⟩)) (some (.int .i64 (N : Int))) none none).run Try.prog wx = .ok (.slice (some ra) (6 - N) (6 - N)) wx) ∧ (N < 6 → ra = ⟨B, 7 + N * 3, none⟩) := by
  have u := Try.underlying90
  have z := Try.sizeOf89
  have h6 : N = 1 ∨ N = 2 ∨ N = 3 ∨ N = 4 ∨ N = 5 ∨ N = 6 := by omega
  rcases h6 with rfl | rfl | rfl | rfl | rfl | rfl
  case inr.inr.inr.inr.inr => exact ⟨fun wx => by simp [Instr.sliceAt, run_underlying u, asIntOf, go_sem, z], ⟨B, 7, none⟩, fun wx => by simp [Instr.sliceAt, run_underlying u, asIntOf, go_sem, z], fun h => by omega⟩
  all_goals exact ⟨fun wx => by simp [Instr.sliceAt, run_underlying u, asIntOf, go_sem, z], _, fun wx => by simp [Instr.sliceAt, run_underlying u, asIntOf, go_sem, z], fun _ => rfl⟩
theorem rows_rest {w : World} {B N : Nat} {x : Ev} {ra : Addr} (h : BoxE w B x) (h2 : N ≤ 6) (hra : N < 6 → ra = ⟨B, 7 + N * 3, none⟩) : Rows w 3 (some ra) (6 - N) ((x.list.drop N).map Acc.cells) := by
  have hl : x.list.length = 6 := rfl
  refine ⟨by rw [List.length_map, List.length_drop, hl]; exact Nat.le_refl _, by omega, by simp, ?_⟩
  by_cases e : N = 6
  · left; subst e; rfl
  · right
    refine ⟨B, 7 + N * 3, by rw [hra (by omega)], World.block_lt_of_cell? _ _ h.1, fun i row hi => ?_⟩
    rw [List.getElem?_map, Option.map_eq_some_iff] at hi
    obtain ⟨a, ha, rfl⟩ := hi
    rw [List.getElem?_drop] at ha
    refine ⟨rfl, fun j u hj => ?_⟩
    have := x.list_at h (N + i) a ha j u hj
    rw [show 7 + N * 3 + (i * 3 + j) = 7 + ((N + i) * 3 + j) by omega]
    exact this
end Go.Proofs.Ytklpifammbnldaa.pg
/- Whether an event may stand in a trace: the contract of package depend's right. -/
namespace Go.Proofs.Ytklpifammbnldaa.pg
open Go.ChangeShapes Go.WideShapes Go.ChangeAt Go.RowKit
set_option linter.unusedVariables false
set_option linter.unusedSimpArgs false
set_option maxRecDepth 100000
attribute [local go_sem ↓] Go.wp_at_zero Go.wp_at_succ
theorem ok_more {l : List Acc} {k : Nat} (h : ∀ i, i < k → okA l i) (h2 : okA l k) : ∀ i, i < k + 1 → okA l i := fun i hi => by
  by_cases e : i = k
  · subst e; exact h2
  · exact h i (by omega)
theorem calls_same {P : Program} {f : FuncId} {args : Array Value} {W : World} {s : Cls (Bey W)} {v : Value} (h : Calls P f args s.w fun e w' => e = .returned v ∧ w' = s.w) : Calls P f args s.w fun e w'' => e = .returned v ∧ ∃ t : Cls (Bey W), w'' = t.w :=
  calls_cls h fun w' hb => by rw [hb]; exact s.h
set_option maxHeartbeats 2000000 in
theorem right_yes1 (x : Ev) (w : World) (h0 : 0 ≤ x.go) (h1 : x.go < 6) (h2 : 1 ≤ x.n) (h3 : x.n ≤ 6) (R : Bool) (hR : Hid (R = true ↔ rightP x)) : Calls Try.prog 53 #[x.val] w fun e w' => e = .returned (.bool R) ∧ Below w.heap.size w w' := by
  obtain ⟨N, hN⟩ : ∃ N, N = tN x.n := ⟨_, rfl⟩
  have hNI : ((N : Nat) : Int) = x.n := by rw [hN]; exact tN_eq h2 h3
  have hb := boxed w (objE x)
  have bx := boxE_new w x
  have hll : x.list.length = 6 := rfl
  obtain ⟨sl1, ra, sl2, hra⟩ := slice_two w.heap.size N (by omega) (by omega)
  rw [hNI] at sl1 sl2
  have hN1 : Hid (1 ≤ N ∧ N ≤ 6) := ⟨by omega, by omega⟩
  have hofl : Hid (x.of = x.list.take N) := by show _ = _; rw [hN]; rfl
  have hRH : Hid (R = true ↔ (∀ i, i < N → okA x.list i) ∧ (∀ a ∈ x.list.drop N, a = acc0) ∧ (⟨5, x.go, true⟩ : Acc) ∈ x.list.take N) := by
    show _ ↔ _
    rw [hR.out]
    unfold rightP
    rw [← hN, hofl.out]
    exact ⟨fun q => q.2, fun q => ⟨⟨h0, h1, h2, h3⟩, q⟩⟩
  clear hR
  have hNH : Hid (N = tN x.n) := hN
  have hNIH : Hid (((N : Nat) : Int) = x.n) := hNI
  clear hN hNI
  have h0' : ¬ x.go < 0 := by omega
  have h2' : ¬ x.n < 1 := by omega
  go_enter Try.func53, Try.ntmps53
  go_upto_region 3 with fail
  generalize w.alloc (objE x) = W at *
  have hbH : Hid (Below w.heap.size w W) := hb
  have bxH : Hid (BoxE W w.heap.size x) := bx
  have c25 : W.cell? ⟨w.heap.size, 25, none⟩ = some (.int .i64 x.n) := bx.at 25 _ rfl
  have raH : Hid (N < 6 → ra = ⟨w.heap.size, 7 + N * 3, none⟩) := hra
  clear hb bx hra
  refine wp_region_quiet_lit (by kernel_rfl) (by kernel_rfl) ?_
  repeat (go_big_quiet_step (fail))
  refine wpQuiet_nil ?_
  intro _ hw'
  obtain ⟨nq, hw''⟩ := hw'
  subst hw''
  --LOOP
  obtain ⟨L, hL⟩ : ∃ L, L = x.list.take N := ⟨_, rfl⟩
  have hLl : L.length = N := by rw [hL, List.length_take, hll]; exact Nat.min_eq_left hN1.out.2
  have hLr : Hid (Rows W 3 (some ⟨w.heap.size, 7, none⟩) 6 (L.map Acc.cells)) := by rw [hL, ← hofl.out]; exact rowsE bxH.out
  have hLat : Hid (∀ i, i < N → L[i]? = x.list[i]?) := fun i hi => by rw [hL, List.getElem?_take, if_pos hi]
  have hLH : Hid (L = x.list.take N) := hL
  clear hL
  have hN6 : (N : Int) ≤ 6 := by have := hN1.out.2; omega
  have hN1' : (1 : Int) ≤ N := by have := hN1.out.1; omega
  have hM6 : ((6 - N : Nat) : Int) = 6 - N := by omega
  clear c25 sl1 sl2
  go_wp2
  go_loopw [37] (fun u wr => ∃ k : Nat, k ≤ N ∧ u = .int .i64 k ∧ Below W.heap.size W wr ∧ Hid (∀ i, i < k → okA x.list i)) (fun u _ => N - (intOf u).toNat)
  case atStart => exact ⟨0, Nat.zero_le _, rfl, below_drewN (Below.refl _ _) nq, fun i hi => by omega⟩
  case round =>
    obtain ⟨k, hk, rfl, hb2, hok⟩ := hrel
    by_cases hlt : k < N
    · obtain ⟨a, ha, ham⟩ := get_lt L k (by omega)
      obtain ⟨b0, o0, hix, hbl, k0, k1, k2⟩ := acc_ix (hLr.out.later hb2) k a ha
      rw [hLl] at hix
      have hax : Hid (x.list[k]? = some a) := (hLat.out k hlt).symm.trans ha
      have hkI : (k : Int) < N := by omega
      have hgood0 : Hid (k = 0 → 0 ≤ a.num → a.num < manyP a.kind → okA x.list k) := fun e p q a' ha' => by
        rw [hax.out] at ha'
        cases ha'
        exact ⟨⟨p, q⟩, fun h => by omega⟩
      have hgood1 : Hid (∀ b, x.list[k - 1]? = some b → 0 ≤ a.num → a.num < manyP a.kind → bef b a = true → okA x.list k) := fun b hb p q r a' ha' => by
        rw [hax.out] at ha'
        cases ha'
        exact ⟨⟨p, q⟩, fun h b' hb' => by rw [hb] at hb'; cases hb'; exact r⟩
      have hbad0 : Hid (¬ (0 ≤ a.num ∧ a.num < manyP a.kind) → ¬ okA x.list k) := fun q r => q (r a hax.out).1
      have hbad1 : Hid (∀ b, x.list[k - 1]? = some b → 0 < k → bef b a = false → ¬ okA x.list k) := fun b hb p q r => by
        have := (r a hax.out).2 p b hb
        rw [q] at this
        cases this
      have cM : ∀ m wx, Calls Try.prog 68 #[.int .i64 m] wx _ := fun m wx => many_any m wx
      have cC : ∀ (p q : Int) (r : Bool) (u v : Int) (t : Bool) wx, Calls Try.prog 69 #[.agg #[.int .i64 p, .int .i64 q, .bool r], .agg #[.int .i64 u, .int .i64 v, .bool t]] wx _ := fun p q r u v t wx => compare_any ⟨p, q, r⟩ ⟨u, v, t⟩ wx
      have hprev : 0 < k → ∃ (b : Acc) (b1 o1 : Nat), Hid (x.list[k - 1]? = some b) ∧ (∀ wx, (Instr.indexAt 129 (.slice (some ⟨w.heap.size, 7, none⟩) N 6) (.int .i64 ((k : Int) - 1))).run Try.prog wx = .ok (.pointer (some ⟨b1, o1, none⟩)) wx) ∧ wr.cell? ⟨b1, o1, none⟩ = some (.int .i64 b.kind) ∧ wr.cell? ⟨b1, o1 + 1, none⟩ = some (.int .i64 b.num) ∧ wr.cell? ⟨b1, o1 + 2, none⟩ = some (.bool b.wr) := fun hp => by
        obtain ⟨b, hb', _⟩ := get_lt L (k - 1) (by omega)
        obtain ⟨b1, o1, hix1, _, m0, m1, m2⟩ := acc_ix (hLr.out.later hb2) (k - 1) b hb'
        rw [hLl, show ((k - 1 : Nat) : Int) = (k : Int) - 1 by omega] at hix1
        exact ⟨b, b1, o1, (hLat.out (k - 1) (by omega)).symm.trans hb', hix1, m0, m1, m2⟩
      go_wp2_with fail
      generalize hWW : wr.alloc (objA a) = W2 at *
      have hW2 : Hid (Below W.heap.size W W2) := by rw [← hWW]; exact bthen hb2 (boxed _ _)
      have hWr : Hid (Below wr.heap.size wr W2) := by rw [← hWW]; exact boxed _ _
      have bA : BoxA W2 wr.heap.size a := by rw [← hWW]; exact boxA_new wr a
      clear hWW k0 k1 k2 hbl
      have d0 := bey_cell bA.1
      have d1 := bey_cell bA.2.1
      have d2 := bey_cell bA.2.2
      have hne := bey_some W2
      clear bA
      by_cases hA : a.num < 0
      · have hbad : Hid (¬ okA x.list k) := hbad0.out (by omega)
        clear hprev
        refine wp_region_cls (Bey W2) (by kernel_rfl) (by kernel_rfl) (bey_drew W2) ?_
        repeat (go_big_quiet_step ((first | (go_at_call 68; exact calls_same (cM _ _)) | (go_at_call 69; exact calls_bey (cC _ _ _ _ _ _ _)))))
        refine wpQuiet_nil ?_
        intro _ hw'
        obtain ⟨sq, hw''⟩ := hw'
        subst hw''
        have hBq : Hid (Below W.heap.size W sq.w) := bthen hW2.out sq.h
        go_wp2
        go_ret
        exact ⟨ret_b (by rw [eq_comm, Bool.eq_false_iff]; exact fun q => hbad.out ((hRH.out.mp q).1 k hlt)), bthen hbH.out hBq.out⟩
      · by_cases hB : manyP a.kind ≤ a.num
        · have hbad : Hid (¬ okA x.list k) := hbad0.out (by omega)
          clear hprev
          refine wp_region_cls (Bey W2) (by kernel_rfl) (by kernel_rfl) (bey_drew W2) ?_
          repeat (go_big_quiet_step ((first | (go_at_call 68; exact calls_same (cM _ _)) | (go_at_call 69; exact calls_bey (cC _ _ _ _ _ _ _)))))
          refine wpQuiet_nil ?_
          intro _ hw'
          obtain ⟨sq, hw''⟩ := hw'
          subst hw''
          have hBq : Hid (Below W.heap.size W sq.w) := bthen hW2.out sq.h
          go_wp2
          go_ret
          exact ⟨ret_b (by rw [eq_comm, Bool.eq_false_iff]; exact fun q => hbad.out ((hRH.out.mp q).1 k hlt)), bthen hbH.out hBq.out⟩
        · by_cases hp : 0 < k
          · obtain ⟨b, b1, o1, hbx, hix1, m0, m1, m2⟩ := hprev hp
            have f0 := bey_cell (cell_later hWr.out m0)
            have f1 := bey_cell (cell_later hWr.out m1)
            have f2 := bey_cell (cell_later hWr.out m2)
            have hpI : (0 : Int) < k := by omega
            have hcb := cmpA_bef b a
            have hcb2 : Hid (0 ≤ cmpA b a ↔ bef b a = false) := hcb
            have hcm : cmpA b a = cmpA ⟨b.kind, b.num, b.wr⟩ ⟨a.kind, a.num, a.wr⟩ := rfl
            clear m0 m1 m2 hprev hcb hcm
            by_cases hC : 0 ≤ cmpA b a
            · have hbad : Hid (¬ okA x.list k) := hbad1.out b hbx.out hp (hcb2.out.mp hC)
              refine wp_region_cls (Bey W2) (by kernel_rfl) (by kernel_rfl) (bey_drew W2) ?_
              repeat (go_big_quiet_step ((first | (go_at_call 68; exact calls_same (cM _ _)) | (go_at_call 69; exact calls_bey (cC _ _ _ _ _ _ _)))))
              refine wpQuiet_nil ?_
              intro _ hw'
              obtain ⟨sq, hw''⟩ := hw'
              subst hw''
              have hBq : Hid (Below W.heap.size W sq.w) := bthen hW2.out sq.h
              go_wp2
              go_ret
              exact ⟨ret_b (by rw [eq_comm, Bool.eq_false_iff]; exact fun q => hbad.out ((hRH.out.mp q).1 k hlt)), bthen hbH.out hBq.out⟩
            · have hgood : Hid (okA x.list k) := hgood1.out b hbx.out (by omega) (by omega) (by
                cases hq : bef b a with
                | true => rfl
                | false => exact absurd (hcb2.out.mpr hq) hC)
              refine wp_region_cls (Bey W2) (by kernel_rfl) (by kernel_rfl) (bey_drew W2) ?_
              repeat (go_big_quiet_step ((first | (go_at_call 68; exact calls_same (cM _ _)) | (go_at_call 69; exact calls_bey (cC _ _ _ _ _ _ _)))))
              refine wpQuiet_nil ?_
              intro _ hw'
              obtain ⟨sq, hw''⟩ := hw'
              subst hw''
              have hBq : Hid (Below W.heap.size W sq.w) := bthen hW2.out sq.h
              go_wp2
              go_roundw
              case rel => exact ⟨k + 1, by omega, by go_num, hBq.out, ok_more hok.out hgood.out⟩
              case measure => simp [intOf]; omega
          · have hpI : ¬ (0 : Int) < k := by omega
            have hgood : Hid (okA x.list k) := hgood0.out (by omega) (by omega) (by omega)
            clear hprev
            refine wp_region_cls (Bey W2) (by kernel_rfl) (by kernel_rfl) (bey_drew W2) ?_
            repeat (go_big_quiet_step ((first | (go_at_call 68; exact calls_same (cM _ _)) | (go_at_call 69; exact calls_bey (cC _ _ _ _ _ _ _)))))
            refine wpQuiet_nil ?_
            intro _ hw'
            obtain ⟨sq, hw''⟩ := hw'
            subst hw''
            have hBq : Hid (Below W.heap.size W sq.w) := bthen hW2.out sq.h
            go_wp2
            go_roundw
            case rel => exact ⟨k + 1, by omega, by go_num, hBq.out, ok_more hok.out hgood.out⟩
            case measure => simp [intOf]; omega
    · have hk2 : k = N := by omega
      subst hk2
      obtain ⟨D, hD⟩ : ∃ D, D = x.list.drop k := ⟨_, rfl⟩
      have hDl : D.length = 6 - k := by rw [hD, List.length_drop, hll]
      have hDr : Hid (Rows W 3 (some ra) (6 - k) (D.map Acc.cells)) := by rw [hD]; exact rows_rest bxH.out hN1.out.2 raH.out
      have hR2 : Hid (R = true ↔ (∀ a ∈ D, a = acc0) ∧ (⟨5, x.go, true⟩ : Acc) ∈ L) := by
        show _ ↔ _
        rw [hRH.out, hD, hLH.out]
        exact ⟨fun q => q.2, fun q => ⟨hok.out, q⟩⟩
      clear hD hRH
      go_wp2
      go_loopw [70] (fun u wq => ∃ m : Nat, m ≤ 6 - k ∧ u = .int .i64 m ∧ Below W.heap.size W wq ∧ Hid (∀ a ∈ D.take m, a = acc0)) (fun u _ => 6 - k - (intOf u).toNat)
      case atStart => exact ⟨0, Nat.zero_le _, rfl, hb2, fun a ha => by simp at ha⟩
      case round =>
        rename World => wq
        obtain ⟨m, hm, rfl, hb3, hz⟩ := hrel
        by_cases hlt2 : m < 6 - k
        · obtain ⟨a, ha, ham⟩ := get_lt D m (by omega)
          obtain ⟨b0, o0, hix, hbl, k0, k1, k2⟩ := acc_ix (hDr.out.later hb3) m a ha
          rw [hDl] at hix
          have hmI : (m : Int) < 6 - k := by omega
          have heq := fun wx => run_neA a acc0 wx
          by_cases e : a = acc0
          · rw [(eqA_iff a acc0).mpr e] at heq
            have eH : Hid (∀ a ∈ D.take (m + 1), a = acc0) := fun z hz2 => by
              rw [take_one D m a ha, List.mem_append, List.mem_singleton] at hz2
              rcases hz2 with hz2 | rfl
              · exact hz.out z hz2
              · exact e
            clear e
            go_wp2
            go_roundw
            case rel => exact ⟨m + 1, by omega, by go_num, bthen hb3 (boxed _ _), eH⟩
            case measure => simp [intOf]; omega
          · rw [Bool.eq_false_iff.mpr fun q => e ((eqA_iff a acc0).mp q)] at heq
            have hbad : Hid (¬ ∀ a ∈ D, a = acc0) := fun q => e (q a ham)
            clear e
            go_wp2
            go_ret
            exact ⟨ret_b (by rw [eq_comm, Bool.eq_false_iff]; exact fun q => hbad.out (hR2.out.mp q).1), bthen hbH.out (bthen hb3 (boxed _ _))⟩
        · have hm2 : m = 6 - k := by omega
          subst hm2
          rw [← hDl, List.take_length] at hz
          have c0 : wq.cell? ⟨w.heap.size, 0, none⟩ = some (.int .i64 x.go) := (bxH.out.later hb3).at 0 _ rfl
          have cK : Calls Try.prog 70 #[.slice (some ⟨w.heap.size, 7, none⟩) k 6, .agg #[.int .i64 5, .int .i64 x.go, .bool true]] wq (fun e w' => e = .returned (.bool R) ∧ Below wq.heap.size wq w') := by
            have := contains_any L (some ⟨w.heap.size, 7, none⟩) 6 ⟨5, x.go, true⟩ wq (hLr.out.later hb3) R (hR2.out.trans ⟨fun q => q.2, fun q => ⟨hz.out, q⟩⟩)
            rw [hLl] at this
            exact this
          go_wp2_with (go_at_call 70; (with_reducible refine cK.mono ?_); rintro e w5 ⟨rfl, hb5⟩)
          go_ret
          exact ⟨rfl, bthen hbH.out (bthen hb3 hb5)⟩
theorem right_any (x : Ev) (w : World) (R : Bool) (hR : Hid (R = true ↔ rightP x)) : Calls Try.prog 53 #[x.val] w fun e w' => e = .returned (.bool R) ∧ Below w.heap.size w w' := by
  by_cases h : 0 ≤ x.go ∧ x.go < 6 ∧ 1 ≤ x.n ∧ x.n ≤ 6
  · exact right_yes1 x w h.1 h.2.1 h.2.2.1 h.2.2.2 R hR
  · have : R = false := by
      rw [Bool.eq_false_iff]
      exact fun q => h (hR.out.mp q).1
    rw [this]
    exact right_no1 x w (by omega)
end Go.Proofs.Ytklpifammbnldaa.pg
