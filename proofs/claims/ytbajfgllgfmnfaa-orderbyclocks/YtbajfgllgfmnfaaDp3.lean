/- Whether two events depend on each other, by package depend and by the document's own. -/
import Derived.Test.YtbajfgllgfmnfaaEv
import Derived.Test.YtbajfgllgfmnfaaCp0
import Derived.Deep.MidRow
namespace Go.Proofs.Ytbajfgllgfmnfaa.pg
open Go.ChangeShapes Go.WideShapes Go.ChangeAt Go.RowKit
set_option linter.unusedVariables false
set_option linter.unusedSimpArgs false
set_option maxRecDepth 100000
attribute [local go_sem ↓] Go.wp_at_zero Go.wp_at_succ
theorem quiet_ev {W : World} {B : Nat} {x : Ev} (hB : ∀ s : Cls (Bey W), BoxE s.w B x) {K : Act → Prop} {o : Oper} {a : Act} (y : Operand) (ho : o.op = .load 66 y) (hx : a.eval y = .pointer (some ⟨B, 0, none⟩)) (hk : K (a.put o.dst x.val)) : o.quiet Try.prog a (fun w' => ∃ s : Cls (Bey W), w' = s.w) K :=
  quiet_load_mid 66 y ho B 0 hx x.cells _ (fun s j v hv => by rw [Nat.zero_add]; exact (hB s).at j v hv) Try.underlying66 rfl (by kernel_rfl) hk
set_option maxHeartbeats 400000 in
theorem dependent_any (a b : Ev) (w : World) (R : Bool) (hR : Hid (R = clash a.of b.of)) :
    Calls Try.prog 57 #[a.val, b.val] w fun e w' => e = .returned (.bool R) ∧ Below w.heap.size w w' := by
  have hb := boxed2 w (objE a) (objE b)
  have bA := (boxE_new w a).later (boxed (w.alloc (objE a)) (objE b))
  have bB := boxE_new (w.alloc (objE a)) b
  rw [World.size_alloc] at bB
  have cT : ∀ (x : Ev) wx, Calls Try.prog 77 #[x.val] wx _ := fun x wx => touches_any x wx
  have la := tN_le a.n
  have lb := tN_le b.n
  go_enter Try.func57, Try.ntmps57
  go_wp2_with fail
  generalize (w.alloc (objE a)).alloc (objE b) = W at *
  generalize w.heap.size + 1 = B0 at *
  have hbH : Hid (Below w.heap.size w W) := hb
  clear hb
  have hrA : ∀ s : Cls (Bey W), Rows s.w 3 (some ⟨w.heap.size, 7, none⟩) 6 (a.of.map Acc.cells) := fun s => rowsE (bA.later s.h)
  have hrB : ∀ s : Cls (Bey W), Rows s.w 3 (some ⟨B0, 7, none⟩) 6 (b.of.map Acc.cells) := fun s => rowsE (bB.later s.h)
  have cC : ∀ s : Cls (Bey W), Calls Try.prog 76 #[.slice (some ⟨w.heap.size, 7, none⟩) (tN a.n) 6, .slice (some ⟨B0, 7, none⟩) (tN b.n) 6] s.w _ := fun s => by
    have := clash_short a.of b.of _ _ _ _ s.w (hrA s) (hrB s) (.inl (by rw [Ev.of_len]; omega)) R hR
    rw [Ev.of_len, Ev.of_len] at this
    exact this
  have hqA : ∀ s : Cls (Bey W), BoxE s.w w.heap.size a := fun s => bA.later s.h
  have hqB : ∀ s : Cls (Bey W), BoxE s.w B0 b := fun s => bB.later s.h
  clear bA bB hrA hrB
  have hne := bey_some W
  have la0 : (0 : Int) ≤ (tN a.n : Int) := by omega
  have lb0 : (0 : Int) ≤ (tN b.n : Int) := by omega
  have la6 : (tN a.n : Int) ≤ 6 := by omega
  have lb6 : (tN b.n : Int) ≤ 6 := by omega
  refine wp_region_cls (Bey W) (by kernel_rfl) (by kernel_rfl) (bey_drew W) ?_
  repeat (first
    | (go_big_quiet_want; (first | refine quiet_ev hqA _ rfl rfl ?_ | refine quiet_ev hqB _ rfl rfl ?_); (simp only [Act.put, List.setIfInBounds_toArray, List.set_cons_zero, List.set_cons_succ]); go_big_quiet_on)
    | go_big_quiet_step ((first | (go_at_call 77; exact calls_bey (cT _ _)) | (go_at_call 76; exact calls_bey (cC _)))))
  refine wpQuiet_nil ?_
  intro _ hw'
  obtain ⟨sq, hw''⟩ := hw'
  subst hw''
  go_wp2
  go_ret
  exact ⟨rfl, bthen hbH.out sq.h⟩
end Go.Proofs.Ytbajfgllgfmnfaa.pg
