/- Whether two events depend on each other, by package depend and by the document's own. -/
import Derived.Test.YtkadlopcomjonaaM7
import Derived.Test.YtkadlopcomjonaaM6
import Derived.Deep.MidRow
import Derived.Test.YtkadlopcomjonaaM3
namespace Go.Proofs.Ytkadlopcomjonaa.pg
open Go.ChangeShapes Go.WideShapes Go.ChangeAt Go.RowKit
set_option linter.unusedVariables false
set_option linter.unusedSimpArgs false
set_option maxRecDepth 100000
attribute [local go_sem ↓] Go.wp_at_zero Go.wp_at_succ
theorem quiet_ev {W : World} {B : Nat} {x : Ev} (hB : ∀ s : Cls (Bey W), BoxE s.w B x) {K : Act → Prop} {o : Oper} {a : Act} (y : Operand) (ho : o.op = .load 70 y) (hx : a.eval y = .pointer (some ⟨B, 0, none⟩)) (hk : K (a.put o.dst x.val)) : o.quiet Try.prog a (fun w' => ∃ s : Cls (Bey W), w' = s.w) K :=
  quiet_load_mid 70 y ho B 0 hx x.cells _ (fun s j v hv => by rw [Nat.zero_add]; exact (hB s).at j v hv) Try.underlying70 rfl (by kernel_rfl) hk
set_option maxHeartbeats 400000 in
theorem dependent_any (a b : Ev) (w : World) (R : Bool) (hR : Hid (R = clash a.of b.of)) :
    Calls Try.prog 33 #[a.val, b.val] w fun e w' => e = .returned (.bool R) ∧ Below w.heap.size w w' := by
  have hb := boxed2 w (objE a) (objE b)
  have bA := (boxE_new w a).later (boxed (w.alloc (objE a)) (objE b))
  have bB := boxE_new (w.alloc (objE a)) b
  rw [World.size_alloc] at bB
  have cT : ∀ (x : Ev) wx, Calls Try.prog 64 #[x.val] wx _ := fun x wx => touches_any x wx
  have la := tN_le a.n
  have lb := tN_le b.n
  go_enter Try.func33, Try.ntmps33
  go_wp2_with fail
  generalize (w.alloc (objE a)).alloc (objE b) = W at *
  generalize w.heap.size + 1 = B0 at *
  have hbH : Hid (Below w.heap.size w W) := hb
  clear hb
  have hrA : ∀ s : Cls (Bey W), Rows s.w 3 (some ⟨w.heap.size, 7, none⟩) 6 (a.of.map Acc.cells) := fun s => rowsE (bA.later s.h)
  have hrB : ∀ s : Cls (Bey W), Rows s.w 3 (some ⟨B0, 7, none⟩) 6 (b.of.map Acc.cells) := fun s => rowsE (bB.later s.h)
  have cC : ∀ s : Cls (Bey W), Calls Try.prog 39 #[.slice (some ⟨w.heap.size, 7, none⟩) (tN a.n) 6, .slice (some ⟨B0, 7, none⟩) (tN b.n) 6] s.w _ := fun s => by
    have := clash_short a.of b.of _ _ _ _ s.w (hrA s) (hrB s) (.inl (by rw [Ev.of_len]; omega)) R hR
    rw [Ev.of_len, Ev.of_len] at this
    exact this
  have hqA : ∀ s : Cls (Bey W), BoxE s.w w.heap.size a := fun s => bA.later s.h
  have hqB : ∀ s : Cls (Bey W), BoxE s.w B0 b := fun s => bB.later s.h
  clear bA bB hrA hrB
  have hne := bey_some W
  have la0 : (0 : Int) ≤ (tN a.n : Int) := by omega
  have lb0 : (0 : Int) ≤ (tN b.n : Int) := by omega
  have la6 : (tN a.n : Int) ≤ 6 := by omega
  have lb6 : (tN b.n : Int) ≤ 6 := by omega
  refine wp_region_cls (Bey W) (by kernel_rfl) (by kernel_rfl) (bey_drew W) ?_
  repeat (first
    | (go_big_quiet_want; (first | refine quiet_ev hqA _ rfl rfl ?_ | refine quiet_ev hqB _ rfl rfl ?_); (simp only [Act.put, List.setIfInBounds_toArray, List.set_cons_zero, List.set_cons_succ]); go_big_quiet_on)
    | go_big_quiet_step ((first | (go_at_call 64; exact calls_bey (cT _ _)) | (go_at_call 39; exact calls_bey (cC _)))))
  refine wpQuiet_nil ?_
  intro _ hw'
  obtain ⟨sq, hw''⟩ := hw'
  subst hw''
  go_wp2
  go_ret
  exact ⟨rfl, bthen hbH.out sq.h⟩
end Go.Proofs.Ytkadlopcomjonaa.pg
/- What the document's own package says an event touches. -/
namespace Go.Proofs.Ytkadlopcomjonaa.pg
open Go.ChangeShapes Go.WideShapes Go.ChangeAt Go.RowKit
set_option linter.unusedVariables false
set_option linter.unusedSimpArgs false
set_option maxRecDepth 100000
attribute [local go_sem ↓] Go.wp_at_zero Go.wp_at_succ
theorem infoA : (Try.prog.info? 67).map (fun i => (i.zero, i.size, i.bytes)) = some (some (.agg #[.int .i64 0, .int .i64 0, .bool false]), 3, 24) := by kernel_rfl
/-- An access of an event in its box, by its place. -/
theorem ev_ix {w : World} {B : Nat} {x : Ev} (h : BoxE w B x) (i : Nat) (a : Acc) (hi : x.list[i]? = some a) :
    (∀ wx, (Instr.indexAt 68 (.pointer (some ⟨B, 7, none⟩)) (.int .i64 (i : Int))).run Try.prog wx = .ok (.pointer (some ⟨B, 7 + i * 3, none⟩)) wx) ∧ w.cell? ⟨B, 7 + i * 3, none⟩ = some (.int .i64 a.kind) ∧ w.cell? ⟨B, 7 + i * 3 + 1, none⟩ = some (.int .i64 a.num) ∧ w.cell? ⟨B, 7 + i * 3 + 2, none⟩ = some (.bool a.wr) := by
  have hl : i < 6 := by have := (List.getElem?_eq_some_iff.mp hi).1; simpa [Ev.list] using this
  refine ⟨fun wx => ?_, ?_, ?_, ?_⟩
  · have h6 : i = 0 ∨ i = 1 ∨ i = 2 ∨ i = 3 ∨ i = 4 ∨ i = 5 := by omega
    have u := Try.underlying68
    have z := Try.sizeOf67
    rcases h6 with rfl | rfl | rfl | rfl | rfl | rfl
    all_goals simp [Instr.indexAt, run_underlying u, asIntOf, go_sem, z]
  · have := x.list_at h i a hi 0 _ rfl; simpa using this
  · have := x.list_at h i a hi 1 _ rfl; rw [Nat.add_assoc]; exact this
  · have := x.list_at h i a hi 2 _ rfl; rw [Nat.add_assoc]; exact this
/-- How far Of has come. -/
structure OfSt (x : Ev) (W : World) (k : Nat) (va : Option Addr) (vc : Nat) (wr : World) : Prop where
  be : Below W.heap.size W wr
  ow : OwnL wr W.heap.size 67 3 va vc ((x.list.take k).map Acc.cells)
theorem tN_lt {n : Int} {k : Nat} (h : k < tN n) : (k : Int) < 6 ∧ (k : Int) < n := by
  have h1 := tN_int n
  rw [Int.max_def, Int.min_def] at h1
  split at h1 <;> split at h1 <;> omega
theorem tN_ge {n : Int} {k : Nat} (h : k ≤ tN n) (h2 : ¬ k < tN n) : ¬ (k : Int) < 6 ∨ (k : Int) < 6 ∧ ¬ (k : Int) < n := by
  have h1 := tN_int n
  rw [Int.max_def, Int.min_def] at h1
  split at h1 <;> split at h1 <;> omega
set_option maxHeartbeats 1000000 in
theorem of_any (x : Ev) (w : World) :
    Calls Try.prog 43 #[x.val] w fun e w' => ∃ va vc, e = .returned (.slice va x.of.length vc) ∧ OwnL w' w.heap.size 67 3 va vc (x.of.map Acc.cells) ∧ Below w.heap.size w w' := by
  obtain ⟨iA, hiA, hzA, hsA, hbA⟩ := info_q infoA
  have hb := boxed w (objE x)
  have bxH : Hid (BoxE (w.alloc (objE x)) w.heap.size x) := boxE_new w x
  have hll : x.list.length = 6 := rfl
  have hT := tN_le x.n
  go_enter Try.func43, Try.ntmps43
  go_wp2_with fail
  generalize w.alloc (objE x) = W at *
  have hbH : Hid (Below w.heap.size w W) := hb
  have hws : w.heap.size ≤ W.heap.size := hb.size
  clear hb
  go_loopw [3, 4] (fun l i wr => ∃ (k : Nat) (va : Option Addr) (vc : Nat), k ≤ tN x.n ∧ i = .int .i64 k ∧ l = .slice va k vc ∧ OfSt x W k va vc wr) (fun _ i _ => 6 - (intOf i).toNat)
  case atStart => exact ⟨0, none, 0, Nat.zero_le _, rfl, rfl, Below.refl _ _, own_nil_q _ _ _ _⟩
  case round =>
    obtain ⟨k, va, vc, hk, rfl, rfl, st⟩ := hrel
    have bx2 := bxH.out.later st.be
    have c25 : wr.cell? ⟨w.heap.size, 25, none⟩ = some (.int .i64 x.n) := bx2.at 25 _ rfl
    by_cases hlt : k < tN x.n
    · obtain ⟨a, ha, _⟩ := get_lt x.list k (by omega)
      obtain ⟨h6, hn⟩ := tN_lt hlt
      obtain ⟨hix, k0, k1, k2⟩ := ev_ix bx2 k a ha
      have hlen : (List.map Acc.cells (x.list.take k)).length = k := by rw [List.length_map, List.length_take]; omega
      have haH : Hid (x.list[k]? = some a) := ha
      have stH : Hid (OfSt x W k va vc wr) := st
      have hbs : Hid (W.heap.size ≤ wr.heap.size) := st.be.size
      have howH : Hid (OwnL wr W.heap.size 67 3 va vc ((x.list.take k).map Acc.cells)) := st.ow
      clear st bx2 ha
      go_wp2_with (first
        | (at_builtin; (refine wpList_app1 rfl (.tmp 15) (.tmp 20) 28 rfl W.heap.size 67 iA _ 3 24 Try.underlying28 hiA hzA hsA hbA rfl (by decide) va vc ((x.list.take k).map Acc.cells) (by rw [hlen]; rfl) howH.out a.cells rfl rfl (one3a [a] _ (by simp)) (by unfold maxLen; omega) (by omega) hbs.out ?_); intro va' vc' w2 hg; rw [hlen]))
      go_roundw
      case rel => exact ⟨k + 1, va', vc', by omega, by go_num, rfl, below_min stH.out.be hbs.out hg.be, by rw [take_one x.list k a haH.out, List.map_append]; exact hg.ow⟩
      case measure => simp [intOf]; omega
    · have hk2 : k = tN x.n := by omega
      have stH : Hid (OfSt x W k va vc wr) := st
      clear st bx2
      rcases tN_ge hk hlt with q | ⟨q, q2⟩
      all_goals
        go_wp2
        go_ret
        exact ⟨va, vc, by rw [Ev.of_len, ← hk2]; rfl, own_mono_q (by unfold Ev.of; rw [← hk2]; exact stH.out.ow) hws, bthen hbH.out stH.out.be⟩
end Go.Proofs.Ytkadlopcomjonaa.pg
/- Whether two events depend on each other, by the document's own. -/
namespace Go.Proofs.Ytkadlopcomjonaa.pg
open Go.ChangeShapes Go.WideShapes Go.ChangeAt Go.RowKit
set_option linter.unusedVariables false
set_option linter.unusedSimpArgs false
set_option maxRecDepth 100000
attribute [local go_sem ↓] Go.wp_at_zero Go.wp_at_succ
theorem BoxE.range {w : World} {B : Nat} {x : Ev} (h : BoxE w B x) : w.rangeAt B 0 x.cells := fun j v hv => by rw [Nat.zero_add]; exact h.at j v hv
theorem keepE2 {W w' : World} {A B : Nat} {x y : Ev} (h1 : BoxE W A x) (h2 : BoxE W B y) (hb : Below W.heap.size W w') : w'.rangeAt A 0 x.cells ∧ w'.rangeAt B 0 y.cells ∧ Below W.heap.size W w' :=
  ⟨(h1.later hb).range, (h2.later hb).range, hb⟩
set_option maxHeartbeats 1000000 in
theorem rdependent_any (a b : Ev) (w : World) (R : Bool) (hR : Hid (R = clash a.of b.of)) :
    Calls Try.prog 40 #[a.val, b.val] w fun e w' => e = .returned (.bool R) ∧ Below w.heap.size w w' := by
  have hb := boxed2 w (objE a) (objE b)
  have bA := (boxE_new w a).later (boxed (w.alloc (objE a)) (objE b))
  have bB := boxE_new (w.alloc (objE a)) b
  rw [World.size_alloc] at bB
  have cO : ∀ (x : Ev) wx, Calls Try.prog 43 #[.agg x.cells.toArray] wx _ := fun x wx => of_any x wx
  have cC : ∀ va vc ua uc wx, Rows wx 3 va vc (a.of.map Acc.cells) → Rows wx 3 ua uc (b.of.map Acc.cells) → Calls Try.prog 72 #[.slice va a.of.length vc, .slice ua b.of.length uc] wx _ := fun va vc ua uc wx h1 h2 => rclash_any a.of b.of _ _ _ _ wx h1 h2 R hR
  have hu := Try.underlying70
  have hi : (Try.prog.info? 70).map (·.size) = some a.cells.length := by kernel_rfl
  have hi2 : (Try.prog.info? 70).map (·.size) = some b.cells.length := by kernel_rfl
  go_enter Try.func40, Try.ntmps40
  go_wp2_with fail
  generalize (w.alloc (objE a)).alloc (objE b) = W at *
  generalize w.heap.size + 1 = B0 at *
  have hbH : Hid (Below w.heap.size w W) := hb
  have KH : Hid (∀ w', Below W.heap.size W w' → _) := fun w' h' => keepE2 bA bB h'
  clear hb bA bB
  refine wp_region_held_drew (S := fun w' => Below W.heap.size W w') (by kernel_rfl) (bey_drew W) (fun hH => ?_)
  refine reg_load (i := 0) rfl (by kernel_rfl) (by kernel_rfl) (by kernel_rfl) (fun _ _ _ _ h => h) rfl 70 _ rfl w.heap.size 0 rfl a.cells _ (fun w' h' => (KH.out w' h').1) hu rfl hi hH ?_
  simp only [Act.put, List.getElem_toArray, List.getElem_cons_succ, List.getElem_cons_zero, List.setIfInBounds_toArray, List.set_cons_zero, List.set_cons_succ]
  refine reg_load (i := 2) rfl (by kernel_rfl) (by kernel_rfl) (by kernel_rfl) (fun _ _ _ _ h => h) rfl 70 _ rfl B0 0 rfl b.cells _ (fun w' h' => (KH.out w' h').2.1) hu rfl hi2 hH ?_
  simp only [Act.put, List.getElem_toArray, List.getElem_cons_succ, List.getElem_cons_zero, List.setIfInBounds_toArray, List.set_cons_zero, List.set_cons_succ]
  refine reg_call1 (i := 1) (by kernel_rfl) rfl rfl 43 _ _ rfl (.agg a.cells.toArray) rfl (cf_fn Try.func43 (by kernel_rfl) (by kernel_rfl) _ _) _ (cO a _) ?_
  rintro e w1 ⟨va, vc, rfl, ho1, hb1⟩
  refine ⟨_, rfl, bthen hH hb1, fun hH1 => ?_⟩
  have hr1 : Rows w1 3 va vc (a.of.map Acc.cells) := own_rows ho1 (len3a _)
  simp only [Act.put, List.getElem_toArray, List.getElem_cons_succ, List.getElem_cons_zero, List.setIfInBounds_toArray, List.set_cons_zero, List.set_cons_succ]
  refine reg_call1 (i := 3) (by kernel_rfl) rfl rfl 43 _ _ rfl (.agg b.cells.toArray) rfl (cf_fn Try.func43 (by kernel_rfl) (by kernel_rfl) _ _) _ (cO b _) ?_
  rintro e w2 ⟨ua, uc, rfl, ho2, hb2⟩
  refine ⟨_, rfl, bthen hH1 hb2, fun hH2 => ?_⟩
  have hr2 : Rows w2 3 ua uc (b.of.map Acc.cells) := own_rows ho2 (len3a _)
  have hr3 : Rows w2 3 va vc (a.of.map Acc.cells) := hr1.later hb2
  simp only [Act.put, List.getElem_toArray, List.getElem_cons_succ, List.getElem_cons_zero, List.setIfInBounds_toArray, List.set_cons_zero, List.set_cons_succ]
  refine reg_call2 (i := 4) (by kernel_rfl) rfl rfl 72 _ _ _ _ rfl (.slice va a.of.length vc) (.slice ua b.of.length uc) rfl rfl (cf_fn Try.func72 (by kernel_rfl) (by kernel_rfl) _ _) _ (cC _ _ _ _ _ hr3 hr2) ?_
  rintro e w3 ⟨rfl, n3, rfl⟩
  refine ⟨_, rfl, below_drewN hH2 n3, fun hH3 => ?_⟩
  simp only [Act.put, List.getElem_toArray, List.getElem_cons_succ, List.getElem_cons_zero, List.setIfInBounds_toArray, List.set_cons_zero, List.set_cons_succ]
  refine reg_move (i := 5) rfl (by kernel_rfl) (by kernel_rfl) (by kernel_rfl) (fun _ _ _ _ h => h) rfl _ (fun _ => rfl) hH3 ?_
  simp only [Act.put, List.getElem_toArray, List.getElem_cons_succ, List.getElem_cons_zero, List.setIfInBounds_toArray, List.set_cons_zero, List.set_cons_succ]
  refine wpAnyH_done (by kernel_rfl) ?_ _
  go_wp2
  go_ret
  exact ⟨rfl, bthen hbH.out hH3⟩
end Go.Proofs.Ytkadlopcomjonaa.pg
