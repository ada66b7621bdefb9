/- When an event may stand in a trace, by package depend. -/
import Derived.Test.YtdfnmlcpimiboaaM7
import Derived.Deep.DeepCutAuto
namespace Go.Proofs.Ytdfnmlcpimiboaa.pg
open Go.ChangeShapes Go.WideShapes Go.ChangeAt Go.RowKit
set_option linter.unusedVariables false
set_option linter.unusedSimpArgs false
set_option maxRecDepth 100000
attribute [local go_sem ↓] Go.wp_at_zero Go.wp_at_succ
abbrev acc0 : Acc := ⟨0, 0, false⟩
/-- An access that there may be, behind the one ahead of it. -/
def okA (l : List Acc) (i : Nat) : Prop := ∀ a, l[i]? = some a → (0 ≤ a.num ∧ a.num < manyP a.kind) ∧ (0 < i → ∀ b, l[i - 1]? = some b → bef b a = true)
/-- An event may stand in a trace. -/
def rightP (x : Ev) : Prop := (0 ≤ x.go ∧ x.go < 6 ∧ 1 ≤ x.n ∧ x.n ≤ 6) ∧ (∀ i, i < tN x.n → okA x.list i) ∧ (∀ a ∈ x.list.drop (tN x.n), a = acc0) ∧ (⟨5, x.go, true⟩ : Acc) ∈ x.of
theorem tN_eq {n : Int} (h1 : 1 ≤ n) (h2 : n ≤ 6) : ((tN n : Nat) : Int) = n := by rw [tN_int, Int.max_def, Int.min_def]; split <;> split <;> omega
theorem of_at {x : Ev} {i : Nat} (h : i < tN x.n) : x.of[i]? = x.list[i]? := by unfold Ev.of; rw [List.getElem?_take, if_pos h]
theorem right_no1 (x : Ev) (w : World) (hno : x.go < 0 ∨ 6 ≤ x.go ∨ x.n < 1 ∨ 6 < x.n) : Calls Try.prog 44 #[x.val] w fun e w' => e = .returned (.bool false) ∧ Below w.heap.size w w' := by
  by_cases h0 : x.go < 0
  · clear hno
    go_enter Try.func44, Try.ntmps44
    go_wp2
    go_ret
    exact ⟨rfl, boxed _ _⟩
  · by_cases h1 : 6 ≤ x.go
    · clear hno
      go_enter Try.func44, Try.ntmps44
      go_wp2
      go_ret
      exact ⟨rfl, boxed _ _⟩
    · by_cases h2 : x.n < 1
      · clear hno
        go_enter Try.func44, Try.ntmps44
        go_wp2
        go_ret
        exact ⟨rfl, boxed _ _⟩
      · have h3 : 6 < x.n := by omega
        clear hno
        go_enter Try.func44, Try.ntmps44
        go_wp2
        go_ret
        exact ⟨rfl, boxed _ _⟩
/-- The slices of an event's accesses. -/
theorem slice_two (B N : Nat) (h1 : 1 ≤ N) (h2 : N ≤ 6) : (∀ wx, (Instr.sliceAt 53 (.pointer (some ⟨B, 7, none⟩)) none (some (.int .i64 (N : Int))) none).run Try.prog wx = .ok (.slice (some ⟨B, 7, none⟩) N 6) wx) ∧
    ∃ ra, (∀ wx, (Instr.sliceAt 53 (.pointer (some ⟨B, 7, none⟩)) (some (.int .i64 (N : Int))) none none).run Try.prog wx = .ok (.slice (some ra) (6 - N) (6 - N)) wx) ∧ (N < 6 → ra = ⟨B, 7 + N * 3, none⟩) := by
  have u := Try.underlying53
  have z := Try.sizeOf52
  have h6 : N = 1 ∨ N = 2 ∨ N = 3 ∨ N = 4 ∨ N = 5 ∨ N = 6 := by omega
  rcases h6 with rfl | rfl | rfl | rfl | rfl | rfl
  case inr.inr.inr.inr.inr => exact ⟨fun wx => by simp [Instr.sliceAt, run_underlying u, asIntOf, go_sem, z], ⟨B, 7, none⟩, fun wx => by simp [Instr.sliceAt, run_underlying u, asIntOf, go_sem, z], fun h => by omega⟩
  all_goals exact ⟨fun wx => by simp [Instr.sliceAt, run_underlying u, asIntOf, go_sem, z], _, fun wx => by simp [Instr.sliceAt, run_underlying u, asIntOf, go_sem, z], fun _ => rfl⟩
theorem rows_rest {w : World} {B N : Nat} {x : Ev} {ra : Addr} (h : BoxE w B x) (h2 : N ≤ 6) (hra : N < 6 → ra = ⟨B, 7 + N * 3, none⟩) : Rows w 3 (some ra) (6 - N) ((x.list.drop N).map Acc.cells) := by
  have hl : x.list.length = 6 := rfl
  refine ⟨by rw [List.length_map, List.length_drop, hl]; exact Nat.le_refl _, by omega, by simp, ?_⟩
  by_cases e : N = 6
  · left; subst e; rfl
  · right
    refine ⟨B, 7 + N * 3, by rw [hra (by omega)], World.block_lt_of_cell? _ _ h.1, fun i row hi => ?_⟩
    rw [List.getElem?_map, Option.map_eq_some_iff] at hi
    obtain ⟨a, ha, rfl⟩ := hi
    rw [List.getElem?_drop] at ha
    refine ⟨rfl, fun j u hj => ?_⟩
    have := x.list_at h (N + i) a ha j u hj
    rw [show 7 + N * 3 + (i * 3 + j) = 7 + ((N + i) * 3 + j) by omega]
    exact this
end Go.Proofs.Ytdfnmlcpimiboaa.pg
/- The locks that are held in a trace, and the edges: plain. -/
namespace Go.Proofs.Ytdfnmlcpimiboaa.pg
open Go.RowKit
set_option linter.unusedVariables false
/-- The first lock that an event touches. -/
def lkO (x : Ev) : Option Acc := x.of.find? fun a => a.kind == 2
def lkN (x : Ev) : Int := match lkO x with | some a => a.num | none => -1
theorem lkO_some {x : Ev} {a : Acc} (h : lkO x = some a) : a ∈ x.of ∧ a.kind = 2 := ⟨List.mem_of_find?_eq_some h, by have := List.find?_some h; simpa using this⟩
theorem lkO_none {x : Ev} (h : lkO x = none) : ∀ a ∈ x.of, a.kind ≠ 2 := fun a ha e => by
  have := List.find?_eq_none.mp h a ha
  rw [e] at this
  exact this rfl
theorem find_at {l : List Acc} {k : Nat} {a : Acc} (h0 : ∀ b ∈ l.take k, b.kind ≠ 2) (ha : l[k]? = some a) (h2 : a.kind = 2) : l.find? (fun a => a.kind == 2) = some a := by
  have hl := (List.getElem?_eq_some_iff.mp ha).1
  rw [← List.take_append_drop k l, List.find?_append, List.find?_eq_none.mpr (fun b hb => by rw [beq_iff_eq]; exact h0 b hb), Option.none_or]
  rw [List.drop_eq_getElem_cons hl, List.find?_cons]
  have e : l[k] = a := (List.getElem?_eq_some_iff.mp ha).2
  rw [e, h2]
  rfl
theorem find_not {l : List Acc} (h0 : ∀ b ∈ l, b.kind ≠ 2) : l.find? (fun a => a.kind == 2) = none := List.find?_eq_none.mpr fun b hb => by rw [beq_iff_eq]; exact h0 b hb
/-- A right event's lock is one of four. -/
theorem lk_right {x : Ev} (hr : rightP x) : lkN x = -1 ∨ (0 ≤ lkN x ∧ lkN x < 4) := by
  unfold lkN
  cases h : lkO x with
  | none => exact .inl rfl
  | some a =>
    obtain ⟨h1, h2⟩ := lkO_some h
    obtain ⟨i, hi⟩ := List.getElem?_of_mem h1
    have hlt : i < tN x.n := by
      have := (List.getElem?_eq_some_iff.mp hi).1
      unfold Ev.of at this
      rw [List.length_take] at this
      omega
    rw [of_at hlt] at hi
    have := (hr.2.1 i hlt a hi).1
    rw [h2] at this
    exact .inr ⟨this.1, by have q := this.2; unfold manyP at q; simpa using q⟩
/-- Does an event take a lock? -/
def tksB (x : Ev) : Bool := x.op == 55 || (x.op == 57 && x.vl == 1)
/-- What a goroutine holds behind an event of its own. -/
def updH (f : Nat → Bool) (x : Ev) : Nat → Bool := fun k => if lkN x = (k : Int) then (if tksB x then true else if x.op = 56 then false else f k) else f k
def evA (l : List Ev) (i : Nat) : Ev := l.getD i ev0
/-- What a goroutine holds ahead of place i. -/
def hldF (l : List Ev) (g : Int) : Nat → Nat → Bool
  | 0 => fun _ => false
  | i + 1 => if (evA l i).go = g then updH (hldF l g i) (evA l i) else hldF l g i
theorem evA_at {l : List Ev} {i : Nat} {x : Ev} (h : l[i]? = some x) : evA l i = x := by
  unfold evA
  rw [List.getD_eq_getElem?_getD, h]; rfl
/-- An edge. -/
structure Ed where
  fr : Int
  tw : Int
  go : Int
  ev : Int
abbrev Ed.cells (e : Ed) : List Value := [.int .i64 e.fr, .int .i64 e.tw, .int .i64 e.go, .int .i64 e.ev]
/-- What is held, as a list of locks. -/
def setL (f : Nat → Bool) : List Nat := (List.range 4).filter f
def edgeAt (l : List Ev) (i : Nat) : List Ed := if (evA l i).op = 55 ∧ 0 ≤ lkN (evA l i) then ((setL (hldF l (evA l i).go i)).filter fun (f : Nat) => ((f : Int) != lkN (evA l i))).map fun (f : Nat) => ⟨(f : Int), lkN (evA l i), (evA l i).go, (i : Int)⟩ else []
def edgesL (l : List Ev) (n : Nat) : List Ed := (List.range n).flatMap (edgeAt l)
theorem edgesL_step (l : List Ev) (n : Nat) : edgesL l (n + 1) = edgesL l n ++ edgeAt l n := by
  unfold edgesL
  rw [List.range_succ, List.flatMap_append]
  simp
theorem setL_len (f : Nat → Bool) : (setL f).length ≤ 4 := by
  unfold setL
  exact Nat.le_trans (List.length_filter_le _ _) (by simp)
theorem edgeAt_len (l : List Ev) (i : Nat) : (edgeAt l i).length ≤ 4 := by
  unfold edgeAt
  split
  · rw [List.length_map]
    exact Nat.le_trans (List.length_filter_le _ _) (setL_len _)
  · exact Nat.zero_le _
theorem edgesL_len (l : List Ev) : ∀ n, (edgesL l n).length ≤ 4 * n
  | 0 => Nat.le_refl _
  | n + 1 => by
    rw [edgesL_step, List.length_append]
    have := edgesL_len l n
    have := edgeAt_len l n
    omega
theorem hldF_step {l : List Ev} {g : Int} {i : Nat} {x : Ev} (h : l[i]? = some x) : hldF l g (i + 1) = if x.go = g then updH (hldF l g i) x else hldF l g i := by
  rw [hldF, evA_at h]
end Go.Proofs.Ytdfnmlcpimiboaa.pg
/- Whether an event may stand in a trace: the contract of package depend's right. -/
namespace Go.Proofs.Ytdfnmlcpimiboaa.pg
open Go.ChangeShapes Go.WideShapes Go.ChangeAt Go.RowKit
set_option linter.unusedVariables false
set_option linter.unusedSimpArgs false
set_option maxRecDepth 100000
attribute [local go_sem ↓] Go.wp_at_zero Go.wp_at_succ
theorem ok_more {l : List Acc} {k : Nat} (h : ∀ i, i < k → okA l i) (h2 : okA l k) : ∀ i, i < k + 1 → okA l i := fun i hi => by
  by_cases e : i = k
  · subst e; exact h2
  · exact h i (by omega)
theorem calls_same {P : Program} {f : FuncId} {args : Array Value} {W : World} {s : Cls (Bey W)} {v : Value} (h : Calls P f args s.w fun e w' => e = .returned v ∧ w' = s.w) : Calls P f args s.w fun e w'' => e = .returned v ∧ ∃ t : Cls (Bey W), w'' = t.w :=
  calls_cls h fun w' hb => by rw [hb]; exact s.h
set_option maxHeartbeats 2000000 in
theorem right_yes1 (x : Ev) (w : World) (h0 : 0 ≤ x.go) (h1 : x.go < 6) (h2 : 1 ≤ x.n) (h3 : x.n ≤ 6) (R : Bool) (hR : Hid (R = true ↔ rightP x)) : Calls Try.prog 44 #[x.val] w fun e w' => e = .returned (.bool R) ∧ Below w.heap.size w w' := by
  obtain ⟨N, hN⟩ : ∃ N, N = tN x.n := ⟨_, rfl⟩
  have hNI : ((N : Nat) : Int) = x.n := by rw [hN]; exact tN_eq h2 h3
  have hb := boxed w (objE x)
  have bx := boxE_new w x
  have hll : x.list.length = 6 := rfl
  obtain ⟨sl1, ra, sl2, hra⟩ := slice_two w.heap.size N (by omega) (by omega)
  rw [hNI] at sl1 sl2
  have hN1 : Hid (1 ≤ N ∧ N ≤ 6) := ⟨by omega, by omega⟩
  have hofl : Hid (x.of = x.list.take N) := by show _ = _; rw [hN]; rfl
  have hRH : Hid (R = true ↔ (∀ i, i < N → okA x.list i) ∧ (∀ a ∈ x.list.drop N, a = acc0) ∧ (⟨5, x.go, true⟩ : Acc) ∈ x.list.take N) := by
    show _ ↔ _
    rw [hR.out]
    unfold rightP
    rw [← hN, hofl.out]
    exact ⟨fun q => q.2, fun q => ⟨⟨h0, h1, h2, h3⟩, q⟩⟩
  clear hR
  have hNH : Hid (N = tN x.n) := hN
  have hNIH : Hid (((N : Nat) : Int) = x.n) := hNI
  clear hN hNI
  have h0' : ¬ x.go < 0 := by omega
  have h2' : ¬ x.n < 1 := by omega
  go_enter Try.func44, Try.ntmps44
  go_upto_region 3 with fail
  generalize w.alloc (objE x) = W at *
  have hbH : Hid (Below w.heap.size w W) := hb
  have bxH : Hid (BoxE W w.heap.size x) := bx
  have c25 : W.cell? ⟨w.heap.size, 25, none⟩ = some (.int .i64 x.n) := bx.at 25 _ rfl
  have raH : Hid (N < 6 → ra = ⟨w.heap.size, 7 + N * 3, none⟩) := hra
  clear hb bx hra
  refine wp_region_quiet_lit (by kernel_rfl) (by kernel_rfl) ?_
  repeat (go_big_quiet_step (fail))
  refine wpQuiet_nil ?_
  intro _ hw'
  obtain ⟨nq, hw''⟩ := hw'
  subst hw''
  --LOOP
  obtain ⟨L, hL⟩ : ∃ L, L = x.list.take N := ⟨_, rfl⟩
  have hLl : L.length = N := by rw [hL, List.length_take, hll]; exact Nat.min_eq_left hN1.out.2
  have hLr : Hid (Rows W 3 (some ⟨w.heap.size, 7, none⟩) 6 (L.map Acc.cells)) := by rw [hL, ← hofl.out]; exact rowsE bxH.out
  have hLat : Hid (∀ i, i < N → L[i]? = x.list[i]?) := fun i hi => by rw [hL, List.getElem?_take, if_pos hi]
  have hLH : Hid (L = x.list.take N) := hL
  clear hL
  have hN6 : (N : Int) ≤ 6 := by have := hN1.out.2; omega
  have hN1' : (1 : Int) ≤ N := by have := hN1.out.1; omega
  have hM6 : ((6 - N : Nat) : Int) = 6 - N := by omega
  clear c25 sl1 sl2
  go_wp2
  go_loopw [37] (fun u wr => ∃ k : Nat, k ≤ N ∧ u = .int .i64 k ∧ Below W.heap.size W wr ∧ Hid (∀ i, i < k → okA x.list i)) (fun u _ => N - (intOf u).toNat)
  case atStart => exact ⟨0, Nat.zero_le _, rfl, below_drewN (Below.refl _ _) nq, fun i hi => by omega⟩
  case round =>
    obtain ⟨k, hk, rfl, hb2, hok⟩ := hrel
    by_cases hlt : k < N
    · obtain ⟨a, ha, ham⟩ := get_lt L k (by omega)
      obtain ⟨b0, o0, hix, hbl, k0, k1, k2⟩ := acc_ix (hLr.out.later hb2) k a ha
      rw [hLl] at hix
      have hax : Hid (x.list[k]? = some a) := (hLat.out k hlt).symm.trans ha
      have hkI : (k : Int) < N := by omega
      have hgood0 : Hid (k = 0 → 0 ≤ a.num → a.num < manyP a.kind → okA x.list k) := fun e p q a' ha' => by
        rw [hax.out] at ha'
        cases ha'
        exact ⟨⟨p, q⟩, fun h => by omega⟩
      have hgood1 : Hid (∀ b, x.list[k - 1]? = some b → 0 ≤ a.num → a.num < manyP a.kind → bef b a = true → okA x.list k) := fun b hb p q r a' ha' => by
        rw [hax.out] at ha'
        cases ha'
        exact ⟨⟨p, q⟩, fun h b' hb' => by rw [hb] at hb'; cases hb'; exact r⟩
      have hbad0 : Hid (¬ (0 ≤ a.num ∧ a.num < manyP a.kind) → ¬ okA x.list k) := fun q r => q (r a hax.out).1
      have hbad1 : Hid (∀ b, x.list[k - 1]? = some b → 0 < k → bef b a = false → ¬ okA x.list k) := fun b hb p q r => by
        have := (r a hax.out).2 p b hb
        rw [q] at this
        cases this
      have cM : ∀ m wx, Calls Try.prog 58 #[.int .i64 m] wx _ := fun m wx => many_any m wx
      have cC : ∀ (p q : Int) (r : Bool) (u v : Int) (t : Bool) wx, Calls Try.prog 59 #[.agg #[.int .i64 p, .int .i64 q, .bool r], .agg #[.int .i64 u, .int .i64 v, .bool t]] wx _ := fun p q r u v t wx => compare_any ⟨p, q, r⟩ ⟨u, v, t⟩ wx
      have hprev : 0 < k → ∃ (b : Acc) (b1 o1 : Nat), Hid (x.list[k - 1]? = some b) ∧ (∀ wx, (Instr.indexAt 86 (.slice (some ⟨w.heap.size, 7, none⟩) N 6) (.int .i64 ((k : Int) - 1))).run Try.prog wx = .ok (.pointer (some ⟨b1, o1, none⟩)) wx) ∧ wr.cell? ⟨b1, o1, none⟩ = some (.int .i64 b.kind) ∧ wr.cell? ⟨b1, o1 + 1, none⟩ = some (.int .i64 b.num) ∧ wr.cell? ⟨b1, o1 + 2, none⟩ = some (.bool b.wr) := fun hp => by
        obtain ⟨b, hb', _⟩ := get_lt L (k - 1) (by omega)
        obtain ⟨b1, o1, hix1, _, m0, m1, m2⟩ := acc_ix (hLr.out.later hb2) (k - 1) b hb'
        rw [hLl, show ((k - 1 : Nat) : Int) = (k : Int) - 1 by omega] at hix1
        exact ⟨b, b1, o1, (hLat.out (k - 1) (by omega)).symm.trans hb', hix1, m0, m1, m2⟩
      go_wp2_with fail
      generalize hWW : wr.alloc (objA a) = W2 at *
      have hW2 : Hid (Below W.heap.size W W2) := by rw [← hWW]; exact bthen hb2 (boxed _ _)
      have hWr : Hid (Below wr.heap.size wr W2) := by rw [← hWW]; exact boxed _ _
      have bA : BoxA W2 wr.heap.size a := by rw [← hWW]; exact boxA_new wr a
      clear hWW k0 k1 k2 hbl
      have d0 := bey_cell bA.1
      have d1 := bey_cell bA.2.1
      have d2 := bey_cell bA.2.2
      have hne := bey_some W2
      clear bA
      by_cases hA : a.num < 0
      · have hbad : Hid (¬ okA x.list k) := hbad0.out (by omega)
        clear hprev
        refine wp_region_cls (Bey W2) (by kernel_rfl) (by kernel_rfl) (bey_drew W2) ?_
        repeat (go_big_quiet_step ((first | (go_at_call 58; exact calls_same (cM _ _)) | (go_at_call 59; exact calls_bey (cC _ _ _ _ _ _ _)))))
        refine wpQuiet_nil ?_
        intro _ hw'
        obtain ⟨sq, hw''⟩ := hw'
        subst hw''
        have hBq : Hid (Below W.heap.size W sq.w) := bthen hW2.out sq.h
        go_wp2
        go_ret
        exact ⟨ret_b (by rw [eq_comm, Bool.eq_false_iff]; exact fun q => hbad.out ((hRH.out.mp q).1 k hlt)), bthen hbH.out hBq.out⟩
      · by_cases hB : manyP a.kind ≤ a.num
        · have hbad : Hid (¬ okA x.list k) := hbad0.out (by omega)
          clear hprev
          refine wp_region_cls (Bey W2) (by kernel_rfl) (by kernel_rfl) (bey_drew W2) ?_
          repeat (go_big_quiet_step ((first | (go_at_call 58; exact calls_same (cM _ _)) | (go_at_call 59; exact calls_bey (cC _ _ _ _ _ _ _)))))
          refine wpQuiet_nil ?_
          intro _ hw'
          obtain ⟨sq, hw''⟩ := hw'
          subst hw''
          have hBq : Hid (Below W.heap.size W sq.w) := bthen hW2.out sq.h
          go_wp2
          go_ret
          exact ⟨ret_b (by rw [eq_comm, Bool.eq_false_iff]; exact fun q => hbad.out ((hRH.out.mp q).1 k hlt)), bthen hbH.out hBq.out⟩
        · by_cases hp : 0 < k
          · obtain ⟨b, b1, o1, hbx, hix1, m0, m1, m2⟩ := hprev hp
            have f0 := bey_cell (cell_later hWr.out m0)
            have f1 := bey_cell (cell_later hWr.out m1)
            have f2 := bey_cell (cell_later hWr.out m2)
            have hpI : (0 : Int) < k := by omega
            have hcb := cmpA_bef b a
            have hcb2 : Hid (0 ≤ cmpA b a ↔ bef b a = false) := hcb
            have hcm : cmpA b a = cmpA ⟨b.kind, b.num, b.wr⟩ ⟨a.kind, a.num, a.wr⟩ := rfl
            clear m0 m1 m2 hprev hcb hcm
            by_cases hC : 0 ≤ cmpA b a
            · have hbad : Hid (¬ okA x.list k) := hbad1.out b hbx.out hp (hcb2.out.mp hC)
              refine wp_region_cls (Bey W2) (by kernel_rfl) (by kernel_rfl) (bey_drew W2) ?_
              repeat (go_big_quiet_step ((first | (go_at_call 58; exact calls_same (cM _ _)) | (go_at_call 59; exact calls_bey (cC _ _ _ _ _ _ _)))))
              refine wpQuiet_nil ?_
              intro _ hw'
              obtain ⟨sq, hw''⟩ := hw'
              subst hw''
              have hBq : Hid (Below W.heap.size W sq.w) := bthen hW2.out sq.h
              go_wp2
              go_ret
              exact ⟨ret_b (by rw [eq_comm, Bool.eq_false_iff]; exact fun q => hbad.out ((hRH.out.mp q).1 k hlt)), bthen hbH.out hBq.out⟩
            · have hgood : Hid (okA x.list k) := hgood1.out b hbx.out (by omega) (by omega) (by
                cases hq : bef b a with
                | true => rfl
                | false => exact absurd (hcb2.out.mpr hq) hC)
              refine wp_region_cls (Bey W2) (by kernel_rfl) (by kernel_rfl) (bey_drew W2) ?_
              repeat (go_big_quiet_step ((first | (go_at_call 58; exact calls_same (cM _ _)) | (go_at_call 59; exact calls_bey (cC _ _ _ _ _ _ _)))))
              refine wpQuiet_nil ?_
              intro _ hw'
              obtain ⟨sq, hw''⟩ := hw'
              subst hw''
              have hBq : Hid (Below W.heap.size W sq.w) := bthen hW2.out sq.h
              go_wp2
              go_roundw
              case rel => exact ⟨k + 1, by omega, by go_num, hBq.out, ok_more hok.out hgood.out⟩
              case measure => simp [intOf]; omega
          · have hpI : ¬ (0 : Int) < k := by omega
            have hgood : Hid (okA x.list k) := hgood0.out (by omega) (by omega) (by omega)
            clear hprev
            refine wp_region_cls (Bey W2) (by kernel_rfl) (by kernel_rfl) (bey_drew W2) ?_
            repeat (go_big_quiet_step ((first | (go_at_call 58; exact calls_same (cM _ _)) | (go_at_call 59; exact calls_bey (cC _ _ _ _ _ _ _)))))
            refine wpQuiet_nil ?_
            intro _ hw'
            obtain ⟨sq, hw''⟩ := hw'
            subst hw''
            have hBq : Hid (Below W.heap.size W sq.w) := bthen hW2.out sq.h
            go_wp2
            go_roundw
            case rel => exact ⟨k + 1, by omega, by go_num, hBq.out, ok_more hok.out hgood.out⟩
            case measure => simp [intOf]; omega
    · have hk2 : k = N := by omega
      subst hk2
      obtain ⟨D, hD⟩ : ∃ D, D = x.list.drop k := ⟨_, rfl⟩
      have hDl : D.length = 6 - k := by rw [hD, List.length_drop, hll]
      have hDr : Hid (Rows W 3 (some ra) (6 - k) (D.map Acc.cells)) := by rw [hD]; exact rows_rest bxH.out hN1.out.2 raH.out
      have hR2 : Hid (R = true ↔ (∀ a ∈ D, a = acc0) ∧ (⟨5, x.go, true⟩ : Acc) ∈ L) := by
        show _ ↔ _
        rw [hRH.out, hD, hLH.out]
        exact ⟨fun q => q.2, fun q => ⟨hok.out, q⟩⟩
      clear hD hRH
      go_wp2
      go_loopw [70] (fun u wq => ∃ m : Nat, m ≤ 6 - k ∧ u = .int .i64 m ∧ Below W.heap.size W wq ∧ Hid (∀ a ∈ D.take m, a = acc0)) (fun u _ => 6 - k - (intOf u).toNat)
      case atStart => exact ⟨0, Nat.zero_le _, rfl, hb2, fun a ha => by simp at ha⟩
      case round =>
        rename World => wq
        obtain ⟨m, hm, rfl, hb3, hz⟩ := hrel
        by_cases hlt2 : m < 6 - k
        · obtain ⟨a, ha, ham⟩ := get_lt D m (by omega)
          obtain ⟨b0, o0, hix, hbl, k0, k1, k2⟩ := acc_ix (hDr.out.later hb3) m a ha
          rw [hDl] at hix
          have hmI : (m : Int) < 6 - k := by omega
          have heq := fun wx => run_neA a acc0 wx
          by_cases e : a = acc0
          · rw [(eqA_iff a acc0).mpr e] at heq
            have eH : Hid (∀ a ∈ D.take (m + 1), a = acc0) := fun z hz2 => by
              rw [take_one D m a ha, List.mem_append, List.mem_singleton] at hz2
              rcases hz2 with hz2 | rfl
              · exact hz.out z hz2
              · exact e
            clear e
            go_wp2
            go_roundw
            case rel => exact ⟨m + 1, by omega, by go_num, bthen hb3 (boxed _ _), eH⟩
            case measure => simp [intOf]; omega
          · rw [Bool.eq_false_iff.mpr fun q => e ((eqA_iff a acc0).mp q)] at heq
            have hbad : Hid (¬ ∀ a ∈ D, a = acc0) := fun q => e (q a ham)
            clear e
            go_wp2
            go_ret
            exact ⟨ret_b (by rw [eq_comm, Bool.eq_false_iff]; exact fun q => hbad.out (hR2.out.mp q).1), bthen hbH.out (bthen hb3 (boxed _ _))⟩
        · have hm2 : m = 6 - k := by omega
          subst hm2
          rw [← hDl, List.take_length] at hz
          have c0 : wq.cell? ⟨w.heap.size, 0, none⟩ = some (.int .i64 x.go) := (bxH.out.later hb3).at 0 _ rfl
          have cK : Calls Try.prog 60 #[.slice (some ⟨w.heap.size, 7, none⟩) k 6, .agg #[.int .i64 5, .int .i64 x.go, .bool true]] wq (fun e w' => e = .returned (.bool R) ∧ Below wq.heap.size wq w') := by
            have := contains_any L (some ⟨w.heap.size, 7, none⟩) 6 ⟨5, x.go, true⟩ wq (hLr.out.later hb3) R (hR2.out.trans ⟨fun q => q.2, fun q => ⟨hz.out, q⟩⟩)
            rw [hLl] at this
            exact this
          go_wp2_with (go_at_call 60; (with_reducible refine cK.mono ?_); rintro e w5 ⟨rfl, hb5⟩)
          go_ret
          exact ⟨rfl, bthen hbH.out (bthen hb3 hb5)⟩
theorem right_any (x : Ev) (w : World) (R : Bool) (hR : Hid (R = true ↔ rightP x)) : Calls Try.prog 44 #[x.val] w fun e w' => e = .returned (.bool R) ∧ Below w.heap.size w w' := by
  by_cases h : 0 ≤ x.go ∧ x.go < 6 ∧ 1 ≤ x.n ∧ x.n ≤ 6
  · exact right_yes1 x w h.1 h.2.1 h.2.2.1 h.2.2.2 R hR
  · have : R = false := by
      rw [Bool.eq_false_iff]
      exact fun q => h (hR.out.mp q).1
    rw [this]
    exact right_no1 x w (by omega)
end Go.Proofs.Ytdfnmlcpimiboaa.pg
