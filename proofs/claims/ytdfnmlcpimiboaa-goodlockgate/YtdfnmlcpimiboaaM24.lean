/- choose of package goodlock. -/
import Derived.Test.YtdfnmlcpimiboaaM23
namespace Go.Proofs.Ytdfnmlcpimiboaa.pg
open Go.ChangeShapes Go.WideShapes Go.ChangeAt Go.RowKit
set_option linter.unusedVariables false
set_option linter.unusedSimpArgs false
set_option maxRecDepth 100000
attribute [local go_sem ↓] Go.wp_at_zero Go.wp_at_succ
theorem run_lenGi {o : Oper} {ρ : Operand → Value} (x : Operand) (ho : o.op = .call { callee := .builtin .len, args := #[x], argTypes := #[29] }) (g : Option Addr) (n c : Nat) (hx : ρ x = .slice g n c) (w : World) : (execOp ρ o).run Try.prog w = .ok (.value (.int .i64 (n : Int))) w := by
  have u := Try.underlying29
  simp [execOp, ho, resolve, invoke, builtin, hx, Builtin.len_, run_underlying u, go_sem]
theorem run_lenGt {o : Oper} {ρ : Operand → Value} (x : Operand) (ho : o.op = .call { callee := .builtin .len, args := #[x], argTypes := #[91] }) (g : Option Addr) (n c : Nat) (hx : ρ x = .slice g n c) (w : World) : (execOp ρ o).run Try.prog w = .ok (.value (.int .i64 (n : Int))) w := by
  have u := Try.underlying91
  simp [execOp, ho, resolve, invoke, builtin, hx, Builtin.len_, run_underlying u, go_sem]
def stpB (Y : Tk → Tk → Bool) (F : Nat → List Tk) (r : List Nat) (m : Nat) (ch : List Tk) (x : Tk) : Bool := !(ch.any fun y => !Y x y) && choB Y F r m (ch ++ [x])
theorem choB_step (Y : Tk → Tk → Bool) (F : Nat → List Tk) (r : List Nat) (m : Nat) (ch : List Tk) : choB Y F r (m + 1) ch = (F (rgS r ch.length)).any (stpB Y F r m ch) := rfl
theorem ix16T (B k : Nat) (hk : k < 4) : ∀ wx, (Instr.indexAt TKS (.pointer (some ⟨B, 0, none⟩)) (.int .i64 (k : Int))).run Try.prog wx = .ok (.pointer (some ⟨B, k * 4, none⟩)) wx := ix16A B k hk
set_option maxHeartbeats 8000000 in
theorem choose_any {yf : Nat} {Y : Tk → Tk → Bool} (hY : YesF yf Y) {lo K rc : Nat} {S : Nat → Slot} {ra : Option Addr} {r : List Nat} (hr4 : r.length ≤ 4) (hri : ∀ i ∈ r, i < 4) : ∀ (m : Nat) (ch : List Tk) (ca : Option Addr) (cc : Nat) (w : World), ch.length + m = r.length → ChP lo w K S ra rc r ca cc ch →
    Calls Try.prog 37 #[.pointer (some ⟨K, 0, none⟩), .slice ra r.length rc, .slice ca ch.length cc, fvG yf] w fun e w' => e = .returned (.bool (choB Y (fun k => (S k).2.1) r m ch)) ∧ ChF lo ca w w' ∧ OwnL w' lo 97 5 ca cc (ch.map Tk.cells) := by
  intro m
  induction m with
  | zero =>
    intro ch ca cc w hm hP
    have heq : ((ch.length : Int) == (r.length : Int)) = true := by rw [beq_iff_eq]; omega
    have hPH : Hid (ChP lo (w.alloc (objYf yf)) K S ra rc r ca cc ch ∧ ChF lo ca w (w.alloc (objYf yf))) := ⟨hP.later (boxed _ _), ChF.of (boxed _ _) hP.l⟩
    have hrI := rows_len hP.r
    rw [show (asZ r).length = r.length by simp [asZ]] at hrI
    clear hP hY hri
    go_enter Try.func37, Try.ntmps37
    go_upto_region 1 with fail
    change Code.wp _ _ _ _ (w.alloc (objYf yf))
    generalize w.alloc (objYf yf) = W at *
    go_wp2
    go_ret
    exact ⟨rfl, hPH.out.2, hPH.out.1.c⟩
  | succ m ih =>
    intro ch ca cc w hm hP
    have hnl : ch.length < r.length := by omega
    have heq : ((ch.length : Int) == (r.length : Int)) = false := by rw [beq_eq_false_iff_ne]; omega
    have hwr : wrap64 ((ch.length : Int) + 1) = (ch.length : Int) + 1 := by simp only [wrap64]; omega
    obtain ⟨m2, hm2⟩ : ∃ m2, (ch.length + 1) % r.length = m2 := ⟨_, rfl⟩
    have hm2l : m2 < r.length := by rw [← hm2]; exact Nat.mod_lt _ (by omega)
    have hrem : ∀ p q wx, ((do
        eqGuard .rem 3 p q (.int .i64 ((ch.length : Int) + 1)) (.int .i64 (r.length : Int))
        binOp .rem 3 (.int .i64 ((ch.length : Int) + 1)) (.int .i64 (r.length : Int))) : Sem Value).run Try.prog wx = .ok (.int .i64 (m2 : Int)) wx := fun p q wx => by
      have := rem_G (ch.length + 1) r.length (by omega) (by omega) hr4 p q wx
      rw [hm2] at this
      exact this
    obtain ⟨p, hp⟩ : ∃ p, r[ch.length]? = some p := ⟨_, List.getElem?_eq_getElem hnl⟩
    obtain ⟨q, hq⟩ : ∃ q, r[m2]? = some q := ⟨_, List.getElem?_eq_getElem hm2l⟩
    have hp4 : p < 4 := hri p (List.mem_of_getElem? hp)
    have hq4 : q < 4 := hri q (List.mem_of_getElem? hq)
    have hpl : p * 4 + q < 16 := by omega
    have hrg : Hid (rgS r ch.length = p * 4 + q) := by
      show _ = _
      unfold rgS
      rw [hm2, List.getD_eq_getElem?_getD, List.getD_eq_getElem?_getD, hp, hq]
      rfl
    obtain ⟨b1, o1, x1, hb1, c1⟩ := int_ixG hP.r ch.length p hp
    obtain ⟨b2, o2, x2, hb2, c2⟩ := int_ixG hP.r m2 q hq
    obtain ⟨s, hs⟩ : ∃ s, S (p * 4 + q) = s := ⟨_, rfl⟩
    have hsH : Hid (S (p * 4 + q) = s) := hs
    have hc0 : Hid (w.cell? ⟨b1, o1, none⟩ = some (.int .i64 (p : Int)) ∧ w.cell? ⟨b2, o2, none⟩ = some (.int .i64 (q : Int)) ∧ w.cell? ⟨K, p * 4 + q, none⟩ = some (slV s)) := ⟨c1, c2, by (rw [← hs]; exact cell_lcG hP.k (rowT_at hpl))⟩
    have hsI : (s.2.1.length : Int) ≤ 9223372036854775807 := by
      have := rows_len (hP.o _ hpl)
      rw [hs] at this
      exact this
    have hP0 : Hid (ChP lo w K S ra rc r ca cc ch) := hP
    have hYH : Hid (YesF yf Y) := hY
    have hrH : Hid (r.length ≤ 4) := hr4
    have hrI : (r.length : Int) ≤ 4 := by omega
    have huT : Hid (Try.prog.underlying 97 = _) := Try.underlying97
    obtain ⟨iT, hiT', hzT', hsT', hbT'⟩ := info_q infoTkG
    have hiT : Hid (Try.prog.info? 97 = some iT) := hiT'
    have hzT : Hid _ := hzT'
    have hsT : Hid _ := hsT'
    have hbT : Hid _ := hbT'
    have hch4 : Hid (ch.length ≤ 4 ∧ ch.length + (m + 1) = r.length) := ⟨by omega, hm⟩
    clear hiT' hzT' hsT' hbT'
    have hM : Hid (w.heap.size ∉ blk ca) := fun q => by have := (blk_lt hP.c _ q).2; omega
    have hI0 : Hid (ChF lo ca w (w.alloc (objYf yf)) ∧ ChP lo (w.alloc (objYf yf)) K S ra rc r ca cc ch ∧ (w.alloc (objYf yf)).heap[w.heap.size]? = some (objYf yf)) := ⟨ChF.of (boxed _ _) hP.l, hP.later (boxed _ _), heap_alloc_new _ _⟩
    have hB0 : Hid (Below w.heap.size w (w.alloc (objYf yf))) := boxed _ _
    have hbl : Hid (b1 < w.heap.size ∧ b2 < w.heap.size ∧ K < w.heap.size) := ⟨hb1, hb2, (Array.getElem?_eq_some_iff.mp hP.k).1⟩
    rw [choB_step, hrg.out]
    have hF : Hid ((S (p * 4 + q)).2.1 = s.2.1) := by (show _ = _; rw [hs])
    rw [hF.out]
    clear hP hY hri hp hq hs c1 c2 hb1 hb2 hr4 hF hm2
    go_enter Try.func37, Try.ntmps37
    go_upto_region 1 with fail
    change Code.wp _ _ _ _ (w.alloc (objYf yf))
    generalize w.alloc (objYf yf) = W at *
    obtain ⟨M, hMM⟩ : ∃ M, w.heap.size = M := ⟨_, rfl⟩
    rw [hMM] at hI0 hM
    rw [hMM]
    go_upto_region 4 with fail
    have hRd : Hid (∀ w', Below W.heap.size W w' → w'.cell? ⟨b1, o1, none⟩ = some (.int .i64 (p : Int)) ∧ w'.cell? ⟨b2, o2, none⟩ = some (.int .i64 (q : Int)) ∧ w'.cell? ⟨K, p * 4 + q, none⟩ = some (slV s)) := fun w' z => by
      have h2 : Below w.heap.size w w' := bthen hB0.out z
      exact ⟨cell_keepG hc0.out.1 (h2.block _ hbl.out.1), cell_keepG hc0.out.2.1 (h2.block _ hbl.out.2.1), cell_keepG hc0.out.2.2 (h2.block _ hbl.out.2.2)⟩
    have hS : Hid (Below W.heap.size W W.drew) := bey_drew W
    have xa := ix16A K p hp4
    have xb := ix16B K (p * 4) q hq4
    refine wp_region_noPanic ?_
    refine wp_region_held_drew (S := fun w' => Below W.heap.size W w') (by kernel_rfl) hS.out (fun _ => ?_)
    refine reg_move (i := 0) rfl (by kernel_rfl) (by kernel_rfl) (by kernel_rfl) (fun _ _ _ _ h => h) rfl (.pointer (some ⟨K, 0, none⟩)) (fun _ => rfl) hS.out ?_
    simp only [Act.put, List.getElem_toArray, List.getElem_cons_succ, List.getElem_cons_zero, List.setIfInBounds_toArray, List.set_cons_zero, List.set_cons_succ]
    refine reg_move (i := 1) rfl (by kernel_rfl) (by kernel_rfl) (by kernel_rfl) (fun _ _ _ _ h => h) rfl (.slice ra r.length rc) (fun _ => rfl) hS.out ?_
    simp only [Act.put, List.getElem_toArray, List.getElem_cons_succ, List.getElem_cons_zero, List.setIfInBounds_toArray, List.set_cons_zero, List.set_cons_succ]
    refine reg_move (i := 2) rfl (by kernel_rfl) (by kernel_rfl) (by kernel_rfl) (fun _ _ _ _ h => h) rfl (.int .i64 (ch.length : Int)) (fun _ => rfl) hS.out ?_
    simp only [Act.put, List.getElem_toArray, List.getElem_cons_succ, List.getElem_cons_zero, List.setIfInBounds_toArray, List.set_cons_zero, List.set_cons_succ]
    refine reg_move (i := 3) rfl (by kernel_rfl) (by kernel_rfl) (by kernel_rfl) (fun _ _ _ _ h => h) rfl (.pointer (some ⟨b1, o1, none⟩)) (fun wx => by unfold execOp; exact run_value_of (x1 wx)) hS.out ?_
    simp only [Act.put, List.getElem_toArray, List.getElem_cons_succ, List.getElem_cons_zero, List.setIfInBounds_toArray, List.set_cons_zero, List.set_cons_succ]
    refine reg_load1 (i := 4) rfl (by kernel_rfl) (by kernel_rfl) (by kernel_rfl) (fun _ _ _ _ h => h) rfl 3 _ rfl ⟨b1, o1, none⟩ rfl _ Try.underlying3 rfl (.int .i64 (p : Int)) (fun w' z => (hRd.out w' z).1) hS.out ?_
    simp only [Act.put, List.getElem_toArray, List.getElem_cons_succ, List.getElem_cons_zero, List.setIfInBounds_toArray, List.set_cons_zero, List.set_cons_succ]
    refine reg_move (i := 5) rfl (by kernel_rfl) (by kernel_rfl) (by kernel_rfl) (fun _ _ _ _ h => h) rfl (.slice ra r.length rc) (fun _ => rfl) hS.out ?_
    simp only [Act.put, List.getElem_toArray, List.getElem_cons_succ, List.getElem_cons_zero, List.setIfInBounds_toArray, List.set_cons_zero, List.set_cons_succ]
    refine reg_move (i := 6) rfl (by kernel_rfl) (by kernel_rfl) (by kernel_rfl) (fun _ _ _ _ h => h) rfl (.int .i64 (ch.length : Int)) (fun _ => rfl) hS.out ?_
    simp only [Act.put, List.getElem_toArray, List.getElem_cons_succ, List.getElem_cons_zero, List.setIfInBounds_toArray, List.set_cons_zero, List.set_cons_succ]
    refine reg_move (i := 7) rfl (by kernel_rfl) (by kernel_rfl) (by kernel_rfl) (fun _ _ _ _ h => h) rfl (.int .i64 ((ch.length : Int) + 1)) (fun wx => by unfold execOp; exact run_value_of (add_oneG _ hwr _ _ wx)) hS.out ?_
    simp only [Act.put, List.getElem_toArray, List.getElem_cons_succ, List.getElem_cons_zero, List.setIfInBounds_toArray, List.set_cons_zero, List.set_cons_succ]
    refine reg_move (i := 8) rfl (by kernel_rfl) (by kernel_rfl) (by kernel_rfl) (fun _ _ _ _ h => h) rfl (.slice ra r.length rc) (fun _ => rfl) hS.out ?_
    simp only [Act.put, List.getElem_toArray, List.getElem_cons_succ, List.getElem_cons_zero, List.setIfInBounds_toArray, List.set_cons_zero, List.set_cons_succ]
    refine reg_move (i := 9) rfl (by kernel_rfl) (by kernel_rfl) (by kernel_rfl) (fun _ _ _ _ h => h) rfl (.int .i64 (r.length : Int)) (fun wx => run_lenGi _ rfl _ _ _ rfl wx) hS.out ?_
    simp only [Act.put, List.getElem_toArray, List.getElem_cons_succ, List.getElem_cons_zero, List.setIfInBounds_toArray, List.set_cons_zero, List.set_cons_succ]
    refine reg_move (i := 10) rfl (by kernel_rfl) (by kernel_rfl) (by kernel_rfl) (fun _ _ _ _ h => h) rfl (.int .i64 (m2 : Int)) (fun wx => by unfold execOp; exact run_value_of (hrem _ _ wx)) hS.out ?_
    simp only [Act.put, List.getElem_toArray, List.getElem_cons_succ, List.getElem_cons_zero, List.setIfInBounds_toArray, List.set_cons_zero, List.set_cons_succ]
    refine reg_move (i := 11) rfl (by kernel_rfl) (by kernel_rfl) (by kernel_rfl) (fun _ _ _ _ h => h) rfl (.pointer (some ⟨b2, o2, none⟩)) (fun wx => by unfold execOp; exact run_value_of (x2 wx)) hS.out ?_
    simp only [Act.put, List.getElem_toArray, List.getElem_cons_succ, List.getElem_cons_zero, List.setIfInBounds_toArray, List.set_cons_zero, List.set_cons_succ]
    refine reg_load1 (i := 12) rfl (by kernel_rfl) (by kernel_rfl) (by kernel_rfl) (fun _ _ _ _ h => h) rfl 3 _ rfl ⟨b2, o2, none⟩ rfl _ Try.underlying3 rfl (.int .i64 (q : Int)) (fun w' z => (hRd.out w' z).2.1) hS.out ?_
    simp only [Act.put, List.getElem_toArray, List.getElem_cons_succ, List.getElem_cons_zero, List.setIfInBounds_toArray, List.set_cons_zero, List.set_cons_succ]
    refine reg_move (i := 13) rfl (by kernel_rfl) (by kernel_rfl) (by kernel_rfl) (fun _ _ _ _ h => h) rfl (.pointer (some ⟨K, 0, none⟩)) (fun _ => rfl) hS.out ?_
    simp only [Act.put, List.getElem_toArray, List.getElem_cons_succ, List.getElem_cons_zero, List.setIfInBounds_toArray, List.set_cons_zero, List.set_cons_succ]
    refine reg_move (i := 14) rfl (by kernel_rfl) (by kernel_rfl) (by kernel_rfl) (fun _ _ _ _ h => h) rfl (.pointer (some ⟨K, p * 4, none⟩)) (fun wx => by unfold execOp; exact run_value_of (xa wx)) hS.out ?_
    simp only [Act.put, List.getElem_toArray, List.getElem_cons_succ, List.getElem_cons_zero, List.setIfInBounds_toArray, List.set_cons_zero, List.set_cons_succ]
    refine reg_move (i := 15) rfl (by kernel_rfl) (by kernel_rfl) (by kernel_rfl) (fun _ _ _ _ h => h) rfl (.pointer (some ⟨K, (p * 4 + q), none⟩)) (fun wx => by unfold execOp; exact run_value_of (xb wx)) hS.out ?_
    simp only [Act.put, List.getElem_toArray, List.getElem_cons_succ, List.getElem_cons_zero, List.setIfInBounds_toArray, List.set_cons_zero, List.set_cons_succ]
    refine reg_load1 (i := 16) rfl (by kernel_rfl) (by kernel_rfl) (by kernel_rfl) (fun _ _ _ _ h => h) rfl 91 _ rfl ⟨K, (p * 4 + q), none⟩ rfl _ Try.underlying91 rfl (slV s) (fun w' z => (hRd.out w' z).2.2) hS.out ?_
    simp only [Act.put, List.getElem_toArray, List.getElem_cons_succ, List.getElem_cons_zero, List.setIfInBounds_toArray, List.set_cons_zero, List.set_cons_succ]
    refine reg_move (i := 17) rfl (by kernel_rfl) (by kernel_rfl) (by kernel_rfl) (fun _ _ _ _ h => h) rfl (.int .i64 (s.2.1.length : Int)) (fun wx => run_lenGt _ rfl _ _ _ rfl wx) hS.out ?_
    simp only [Act.put, List.getElem_toArray, List.getElem_cons_succ, List.getElem_cons_zero, List.setIfInBounds_toArray, List.set_cons_zero, List.set_cons_succ]
    refine reg_move (i := 18) rfl (by kernel_rfl) (by kernel_rfl) (by kernel_rfl) (fun _ _ _ _ h => h) rfl (.int .i64 0) (fun _ => rfl) hS.out ?_
    simp only [Act.put, List.getElem_toArray, List.getElem_cons_succ, List.getElem_cons_zero, List.setIfInBounds_toArray, List.set_cons_zero, List.set_cons_succ]
    refine wpAnyH_done (by kernel_rfl) (NoPanic.normal ?_) _
    have hI : Hid (ChF lo ca w W.drew ∧ OwnL W.drew lo 97 5 ca cc (ch.map Tk.cells) ∧ W.drew.heap[M]? = some (objYf yf) ∧ ∀ y ∈ s.2.1.take 0, stpB Y (fun k => (S k).2.1) r m ch y = false) := ⟨hI0.out.1.trans (ChF.of hS.out hI0.out.2.1.l), (hI0.out.2.1.later hS.out).c, blk_onG hI0.out.2.2 hS.out, fun y hy => by simp at hy⟩
    generalize W.drew = W2 at *
    clear hS hRd hI0 hB0 xa xb x1 x2 hc0 hbl hMM hwr hrem heq
    go_wp2_with fail
    go_loopw [37] (fun u wr => ∃ j : Nat, j ≤ s.2.1.length ∧ u = .int .i64 (j : Int) ∧ Hid (ChF lo ca w wr ∧ OwnL wr lo 97 5 ca cc (ch.map Tk.cells) ∧ wr.heap[M]? = some (objYf yf) ∧ ∀ y ∈ s.2.1.take j, stpB Y (fun k => (S k).2.1) r m ch y = false)) (fun u _ => s.2.1.length - (intOf u).toNat)
    case atStart => exact ⟨0, Nat.zero_le _, rfl, hI.out⟩
    case round =>
      obtain ⟨j, hj, rfl, hq⟩ := hrel
      clear hI
      by_cases hlj : j < s.2.1.length
      · have hjI : (j : Int) < s.2.1.length := by omega
        obtain ⟨x, hx⟩ : ∃ x, s.2.1[j]? = some x := ⟨_, List.getElem?_eq_getElem hlj⟩
        have hPr : Hid (ChP lo wr K S ra rc r ca cc ch) := hP0.out.on hq.out.1 hq.out.2.1
        have hrw : Rows wr 5 s.1 s.2.2 (s.2.1.map Tk.cells) := by (rw [← hsH.out]; exact hPr.out.o _ hpl)
        obtain ⟨b0, o0, xi0, hbl, k0, k1, k2, k3, k4⟩ := tk_ix hrw j x hx
        have xi : ∀ wx, (Instr.indexAt 91 (slV s) (.int .i64 (j : Int))).run Try.prog wx = .ok (.pointer (some ⟨b0, o0, none⟩)) wx := xi0
        clear xi0 hrw
        have hrg : Hid (wr.rangeAt b0 o0 [.int .i64 x.by_, .bool x.h0, .bool x.h1, .bool x.h2, .bool x.h3]) := tk_rng5 k0 k1 k2 k3 k4
        have hst1 : Hid (ChF lo ca w (wr.alloc (objTk x)) ∧ ChP lo (wr.alloc (objTk x)) K S ra rc r ca cc ch ∧ YxB (wr.alloc (objTk x)) M wr.heap.size yf x ∧ wr.heap.size ∉ blk ca) := ⟨hq.out.1.trans (ChF.of (boxed _ _) hPr.out.l), hPr.out.later (boxed _ _), ⟨blk_onG hq.out.2.2.1 (boxed _ _), heap_alloc_new _ _⟩, fun q => by have := (blk_lt hPr.out.c _ q).2; omega⟩
        have hno : Hid (∀ y ∈ s.2.1.take j, stpB Y (fun k => (S k).2.1) r m ch y = false) := hq.out.2.2.2
        have hxH : Hid (s.2.1[j]? = some x) := hx
        clear k0 k1 k2 k3 k4 hq hPr hx hbl
        go_upto_region 7 with (first
          | (refine wpList_load_mid rfl 97 _ rfl b0 o0 rfl [.int .i64 x.by_, .bool x.h0, .bool x.h1, .bool x.h2, .bool x.h3] _ hrg.out huT.out rfl infoTk5 ?_)
          | (refine wpList_store_new rfl 97 _ _ rfl rfl _ #[.int .i64 x.by_, .bool x.h0, .bool x.h1, .bool x.h2, .bool x.h3] rfl (by kernel_rfl) rfl (tk_oneX _ _ _ _ _) ?_))
        change Code.wp _ _ _ _ (wr.alloc (objTk x))
        generalize wr.alloc (objTk x) = X1 at *
        generalize wr.heap.size = X at *
        clear hrg xi
        obtain ⟨R, hR⟩ : ∃ R, ch.any (fun y => !Y x y) = R := ⟨_, rfl⟩
        have hRH : Hid (R = ch.any (fun y => !Y x y)) := hR.symm
        have cC : Calls Try.prog 51 #[.slice ca ch.length cc, .func (.func 52) #[] #[.pointer (some ⟨M, 0, none⟩), .pointer (some ⟨X, 0, none⟩)]] X1 _ := contfG_any hYH.out ch ca cc X1 (own_rows hst1.out.2.1.c (tk_len _)) hst1.out.2.2.1 R hRH
        clear hR
        go_upto_region 8 with (first
          | (go_at_call 51; (with_reducible refine cC.mono ?_); rintro e X2 ⟨rfl, hb2⟩; (have hst2 : Hid (ChF lo ca w X2 ∧ ChP lo X2 K S ra rc r ca cc ch ∧ YxB X2 M X yf x ∧ X ∉ blk ca) := ⟨hst1.out.1.trans (ChF.of hb2 hst1.out.2.1.l), hst1.out.2.1.later hb2, hst1.out.2.2.1.later hb2, hst1.out.2.2.2⟩); clear hb2 cC hst1))
        cases R with
        | true =>
          have hS : Hid (Below X2.heap.size X2 X2.drew) := bey_drew X2
          refine wp_region_noPanic ?_
          refine wp_region_held_drew (S := fun w' => Below X2.heap.size X2 w') (by kernel_rfl) hS.out (fun _ => ?_)
          refine reg_move (i := 0) rfl (by kernel_rfl) (by kernel_rfl) (by kernel_rfl) (fun _ _ _ _ h => h) rfl (.bool true) (fun _ => rfl) hS.out ?_
          simp only [Act.put, List.getElem_toArray, List.getElem_cons_succ, List.getElem_cons_zero, List.setIfInBounds_toArray, List.set_cons_zero, List.set_cons_succ]
          refine reg_move (i := 1) rfl (by kernel_rfl) (by kernel_rfl) (by kernel_rfl) (fun _ _ _ _ h => h) rfl (.bool false) (fun _ => rfl) hS.out ?_
          simp only [Act.put, List.getElem_toArray, List.getElem_cons_succ, List.getElem_cons_zero, List.setIfInBounds_toArray, List.set_cons_zero, List.set_cons_succ]
          refine reg_move (i := 2) rfl (by kernel_rfl) (by kernel_rfl) (by kernel_rfl) (fun _ _ _ _ h => h) rfl (.bool false) (fun _ => rfl) hS.out ?_
          simp only [Act.put, List.getElem_toArray, List.getElem_cons_succ, List.getElem_cons_zero, List.setIfInBounds_toArray, List.set_cons_zero, List.set_cons_succ]
          refine reg_skipG (i := 3) rfl (by kernel_rfl) (by kernel_rfl) (by kernel_rfl) (fun _ _ _ _ h => h) rfl hS.out ?_
          simp only [Act.put, List.getElem_toArray, List.getElem_cons_succ, List.getElem_cons_zero, List.setIfInBounds_toArray, List.set_cons_zero, List.set_cons_succ]
          refine reg_skipG (i := 4) rfl (by kernel_rfl) (by kernel_rfl) (by kernel_rfl) (fun _ _ _ _ h => h) rfl hS.out ?_
          simp only [Act.put, List.getElem_toArray, List.getElem_cons_succ, List.getElem_cons_zero, List.setIfInBounds_toArray, List.set_cons_zero, List.set_cons_succ]
          refine reg_skipG (i := 5) rfl (by kernel_rfl) (by kernel_rfl) (by kernel_rfl) (fun _ _ _ _ h => h) rfl hS.out ?_
          simp only [Act.put, List.getElem_toArray, List.getElem_cons_succ, List.getElem_cons_zero, List.setIfInBounds_toArray, List.set_cons_zero, List.set_cons_succ]
          refine reg_skipG (i := 6) rfl (by kernel_rfl) (by kernel_rfl) (by kernel_rfl) (fun _ _ _ _ h => h) rfl hS.out ?_
          simp only [Act.put, List.getElem_toArray, List.getElem_cons_succ, List.getElem_cons_zero, List.setIfInBounds_toArray, List.set_cons_zero, List.set_cons_succ]
          refine reg_skipG (i := 7) rfl (by kernel_rfl) (by kernel_rfl) (by kernel_rfl) (fun _ _ _ _ h => h) rfl hS.out ?_
          simp only [Act.put, List.getElem_toArray, List.getElem_cons_succ, List.getElem_cons_zero, List.setIfInBounds_toArray, List.set_cons_zero, List.set_cons_succ]
          refine reg_skipG (i := 8) rfl (by kernel_rfl) (by kernel_rfl) (by kernel_rfl) (fun _ _ _ _ h => h) rfl hS.out ?_
          simp only [Act.put, List.getElem_toArray, List.getElem_cons_succ, List.getElem_cons_zero, List.setIfInBounds_toArray, List.set_cons_zero, List.set_cons_succ]
          refine reg_skipG (i := 9) rfl (by kernel_rfl) (by kernel_rfl) (by kernel_rfl) (fun _ _ _ _ h => h) rfl hS.out ?_
          simp only [Act.put, List.getElem_toArray, List.getElem_cons_succ, List.getElem_cons_zero, List.setIfInBounds_toArray, List.set_cons_zero, List.set_cons_succ]
          refine reg_skipG (i := 10) rfl (by kernel_rfl) (by kernel_rfl) (by kernel_rfl) (fun _ _ _ _ h => h) rfl hS.out ?_
          simp only [Act.put, List.getElem_toArray, List.getElem_cons_succ, List.getElem_cons_zero, List.setIfInBounds_toArray, List.set_cons_zero, List.set_cons_succ]
          refine reg_move (i := 11) rfl (by kernel_rfl) (by kernel_rfl) (by kernel_rfl) (fun _ _ _ _ h => h) rfl (.bool false) (fun _ => rfl) hS.out ?_
          simp only [Act.put, List.getElem_toArray, List.getElem_cons_succ, List.getElem_cons_zero, List.setIfInBounds_toArray, List.set_cons_zero, List.set_cons_succ]
          refine wpAnyH_done (by kernel_rfl) (NoPanic.normal ?_) _
          have hst3 : Hid (ChF lo ca w X2.drew ∧ OwnL X2.drew lo 97 5 ca cc (ch.map Tk.cells) ∧ X2.drew.heap[M]? = some (objYf yf) ∧ ∀ y ∈ s.2.1.take (j + 1), stpB Y (fun k => (S k).2.1) r m ch y = false) := ⟨hst2.out.1.trans (ChF.of hS.out hst2.out.2.1.l), (hst2.out.2.1.later hS.out).c, blk_onG hst2.out.2.2.1.m hS.out, take_moreG (p := stpB Y (fun k => (S k).2.1) r m ch) hxH.out hno.out (by (unfold stpB; rw [← hRH.out]; rfl))⟩
          generalize X2.drew = X3 at *
          clear hS hst2
          go_wp2
          go_roundw
          case rel => exact ⟨j + 1, by omega, by go_num, hst3.out⟩
          case measure => simp [intOf]; omega
        | false =>
          obtain ⟨b, hb⟩ : ∃ b, choB Y (fun k => (S k).2.1) r m (ch ++ [x]) = b := ⟨_, rfl⟩
          have hbH : Hid (stpB Y (fun k => (S k).2.1) r m ch x = b) := by
            show _ = _
            unfold stpB
            rw [← hRH.out, hb]
            rfl
          have ihH : Hid (∀ va vc Z, ChP lo Z K S ra rc r va vc (ch ++ [x]) → Calls Try.prog 37 #[.pointer (some ⟨K, 0, none⟩), .slice ra r.length rc, .slice va (ch.length + 1) vc, fvG yf] Z fun e w' => e = .returned (.bool b) ∧ ChF lo va Z w' ∧ OwnL w' lo 97 5 va vc ((ch ++ [x]).map Tk.cells)) := fun va vc Z hZ => by
            have := ih (ch ++ [x]) va vc Z (by rw [List.length_append, List.length_singleton]; have := hch4.out; omega) hZ
            rw [List.length_append, List.length_singleton, hb] at this
            exact this
          clear hb ih
          have hQ0 : Hid (ChF lo ca w X2.drew ∧ ChP lo X2.drew K S ra rc r ca cc ch ∧ YxB X2.drew M X yf x) := ⟨hst2.out.1.trans (ChF.of (bey_drew X2) hst2.out.2.1.l), hst2.out.2.1.later (bey_drew X2), hst2.out.2.2.1.later (bey_drew X2)⟩
          have hXn : Hid (X ∉ blk ca) := hst2.out.2.2.2
          have hS : Hid (X2.drew.heap[X]? = some (objTk x) ∧ X2.drew.heap[M]? = some (objYf yf)) := ⟨hQ0.out.2.2.x, hQ0.out.2.2.m⟩
          refine wp_region_noPanic ?_
          refine wp_region_held_drew (S := fun w' => w'.heap[X]? = some (objTk x) ∧ w'.heap[M]? = some (objYf yf)) (by kernel_rfl) hS.out (fun _ => ?_)
          generalize X2.drew = Q at *
          clear hst2
          have hQ : Hid (ChF lo ca w Q ∧ ChP lo Q K S ra rc r ca cc ch ∧ YxB Q M X yf x) := hQ0
          have hXl : Hid (X < Q.heap.size ∧ M < Q.heap.size) := ⟨(Array.getElem?_eq_some_iff.mp hS.out.1).1, (Array.getElem?_eq_some_iff.mp hS.out.2).1⟩
          clear hQ0
          refine reg_move (i := 0) rfl (by kernel_rfl) (by kernel_rfl) (by kernel_rfl) (fun _ _ _ _ h => h) rfl (.bool false) (fun _ => rfl) hS.out ?_
          simp only [Act.put, List.getElem_toArray, List.getElem_cons_succ, List.getElem_cons_zero, List.setIfInBounds_toArray, List.set_cons_zero, List.set_cons_succ]
          refine reg_move (i := 1) rfl (by kernel_rfl) (by kernel_rfl) (by kernel_rfl) (fun _ _ _ _ h => h) rfl (.bool true) (fun _ => rfl) hS.out ?_
          simp only [Act.put, List.getElem_toArray, List.getElem_cons_succ, List.getElem_cons_zero, List.setIfInBounds_toArray, List.set_cons_zero, List.set_cons_succ]
          refine reg_move (i := 2) rfl (by kernel_rfl) (by kernel_rfl) (by kernel_rfl) (fun _ _ _ _ h => h) rfl (.bool true) (fun _ => rfl) hS.out ?_
          simp only [Act.put, List.getElem_toArray, List.getElem_cons_succ, List.getElem_cons_zero, List.setIfInBounds_toArray, List.set_cons_zero, List.set_cons_succ]
          refine reg_move (i := 3) rfl (by kernel_rfl) (by kernel_rfl) (by kernel_rfl) (fun _ _ _ _ h => h) rfl (.pointer (some ⟨K, 0, none⟩)) (fun _ => rfl) hS.out ?_
          simp only [Act.put, List.getElem_toArray, List.getElem_cons_succ, List.getElem_cons_zero, List.setIfInBounds_toArray, List.set_cons_zero, List.set_cons_succ]
          refine reg_move (i := 4) rfl (by kernel_rfl) (by kernel_rfl) (by kernel_rfl) (fun _ _ _ _ h => h) rfl (.slice ra r.length rc) (fun _ => rfl) hS.out ?_
          simp only [Act.put, List.getElem_toArray, List.getElem_cons_succ, List.getElem_cons_zero, List.setIfInBounds_toArray, List.set_cons_zero, List.set_cons_succ]
          refine reg_move (i := 5) rfl (by kernel_rfl) (by kernel_rfl) (by kernel_rfl) (fun _ _ _ _ h => h) rfl (.slice ca ch.length cc) (fun _ => rfl) hS.out ?_
          simp only [Act.put, List.getElem_toArray, List.getElem_cons_succ, List.getElem_cons_zero, List.setIfInBounds_toArray, List.set_cons_zero, List.set_cons_succ]
          refine reg_load (i := 6) rfl (by kernel_rfl) (by kernel_rfl) (by kernel_rfl) (fun _ _ _ _ h => h) rfl 97 _ rfl X 0 rfl [.int .i64 x.by_, .bool x.h0, .bool x.h1, .bool x.h2, .bool x.h3] _ (fun w' z => tk_rng z.1) Try.underlying97 rfl infoTk5 hS.out ?_
          simp only [Act.put, List.getElem_toArray, List.getElem_cons_succ, List.getElem_cons_zero, List.setIfInBounds_toArray, List.set_cons_zero, List.set_cons_succ]
          refine reg_load1 (i := 9) rfl (by kernel_rfl) (by kernel_rfl) (by kernel_rfl) (fun _ _ _ _ h => h) rfl 79 _ rfl ⟨M, 0, none⟩ rfl _ Try.underlying79 rfl (fvG yf) (fun w' z => cell_lcG z.2 rfl) hS.out ?_
          simp only [Act.put, List.getElem_toArray, List.getElem_cons_succ, List.getElem_cons_zero, List.setIfInBounds_toArray, List.set_cons_zero, List.set_cons_succ]
          refine reg_one (i := 7) (by kernel_rfl) rfl rfl (wpList_buildSliceW rfl 91 97 1 _ rfl x.cells.toArray iT _ Try.underlying91 hiT.out hzT.out (by rw [hsT.out]; omega) (by rw [hsT.out]; omega) (by simp only [hsT.out]; kernel_rfl) (wpList_nil (And.intro (And.intro (blk_onG hS.out.1 (boxed _ _)) (blk_onG hS.out.2 (boxed _ _))) fun _ => ?_)))
          simp only [Act.put, List.getElem_toArray, List.getElem_cons_succ, List.getElem_cons_zero, List.setIfInBounds_toArray, List.set_cons_zero, List.set_cons_succ]
          refine reg_one (i := 8) (by kernel_rfl) rfl rfl (wpList_app1W rfl _ _ 91 rfl lo 97 iT _ 5 16 Try.underlying91 hiT.out hzT.out hsT.out hbT.out rfl (by decide) ca cc (ch.map Tk.cells) (by rw [List.length_map]; rfl) hQ.out.2.1.c x.cells rfl rfl (by simp [Value.oneCell']) (by rw [List.length_map]; have := hch4.out.1; unfold maxLen; omega) (by rw [List.length_map]; have := hch4.out.1; omega) hQ.out.2.1.l fun va vc Z3 hgr hold => wpList_nil (And.intro (And.intro ((hgr.kp _ hXl.out.1 hXn.out).trans hS.out.1) ((hgr.kp _ hXl.out.2 hM.out).trans hS.out.2)) fun _ => ?_))
          simp only [Act.put, List.getElem_toArray, List.getElem_cons_succ, List.getElem_cons_zero, List.setIfInBounds_toArray, List.set_cons_zero, List.set_cons_succ]
          rw [List.length_map]
          have hG : Hid (ChP lo Z3 K S ra rc r va vc (ch ++ [x]) ∧ OwnL Z3 lo 97 5 ca cc (ch.map Tk.cells) ∧ ChF lo ca Q Z3 ∧ (∀ b ∈ blk va, b ∈ blk ca ∨ Q.heap.size ≤ b) ∧ Z3.heap[X]? = some (objTk x) ∧ Z3.heap[M]? = some (objYf yf) ∧ X ∉ blk va ∧ M ∉ blk va) := ⟨hQ.out.2.1.grow hgr hold, hold, ChF.grow hQ.out.2.1 hgr, hgr.bk, (hgr.kp _ hXl.out.1 hXn.out).trans hS.out.1, (hgr.kp _ hXl.out.2 hM.out).trans hS.out.2, fun q => (hgr.bk _ q).elim hXn.out fun q => by have := hXl.out.1; omega, fun q => (hgr.bk _ q).elim hM.out fun q => by have := hXl.out.2; omega⟩
          clear hgr hold
          refine reg_call (i := 10) (by kernel_rfl) rfl rfl 37 _ _ rfl #[.pointer (some ⟨K, 0, none⟩), .slice ra r.length rc, .slice va (ch.length + 1) vc, fvG yf] (by first | rfl | kernel_rfl | simp) (cf_fn Try.func37 (by kernel_rfl) (by kernel_rfl) _ _) _ (ihH.out va vc Z3 hG.out.1) ?_
          rintro e W4 ⟨rfl, hf4, ho4⟩
          have hS4 : Hid (W4.heap[X]? = some (objTk x) ∧ W4.heap[M]? = some (objYf yf)) := ⟨hf4.on hG.out.2.2.2.2.1 hG.out.2.2.2.2.2.2.1, hf4.on hG.out.2.2.2.2.2.1 hG.out.2.2.2.2.2.2.2⟩
          refine ⟨_, rfl, hS4.out, fun _ => ?_⟩
          simp only [Act.put, List.getElem_toArray, List.getElem_cons_succ, List.getElem_cons_zero, List.setIfInBounds_toArray, List.set_cons_zero, List.set_cons_succ]
          refine reg_move (i := 11) rfl (by kernel_rfl) (by kernel_rfl) (by kernel_rfl) (fun _ _ _ _ h => h) rfl (.bool b) (fun _ => rfl) hS4.out ?_
          simp only [Act.put, List.getElem_toArray, List.getElem_cons_succ, List.getElem_cons_zero, List.setIfInBounds_toArray, List.set_cons_zero, List.set_cons_succ]
          refine wpAnyH_done (by kernel_rfl) (NoPanic.normal ?_) _
          have hst3 : Hid (ChF lo ca w W4 ∧ OwnL W4 lo 97 5 ca cc (ch.map Tk.cells) ∧ W4.heap[M]? = some (objYf yf)) := ⟨hQ.out.1.trans (hG.out.2.2.1.sub hG.out.2.2.2.1 hf4), own_back (by decide) hG.out.2.1 (by (have := hG.out.1.c; rw [List.map_append] at this; exact this)) (by (rw [List.map_append] at ho4; exact ho4)) (fun b hb nb => hf4.k b (blk_lt hG.out.2.1 b hb).2 nb), hS4.out.2⟩
          clear hf4 ho4 hS4 hG hQ hS hXl
          cases b with
          | true =>
            have hany : Hid (s.2.1.any (stpB Y (fun k => (S k).2.1) r m ch) = true) := List.any_eq_true.mpr ⟨x, List.mem_of_getElem? hxH.out, hbH.out⟩
            go_wp2
            go_ret
            exact ⟨by (rw [hany.out]; rfl), hst3.out.1, hst3.out.2.1⟩
          | false =>
            have hno3 : Hid (∀ y ∈ s.2.1.take (j + 1), stpB Y (fun k => (S k).2.1) r m ch y = false) := take_moreG (p := stpB Y (fun k => (S k).2.1) r m ch) hxH.out hno.out hbH.out
            go_wp2
            go_roundw
            case rel => exact ⟨j + 1, by omega, by go_num, hst3.out.1, hst3.out.2.1, hst3.out.2.2, hno3.out⟩
            case measure => simp [intOf]; omega
      · have hje : j = s.2.1.length := by omega
        have hjI : ¬ (j : Int) < s.2.1.length := by omega
        rw [hje, List.take_length] at hq
        have hany : Hid (s.2.1.any (stpB Y (fun k => (S k).2.1) r m ch) = false) := by
          show _ = _
          rw [Bool.eq_false_iff]
          intro q
          obtain ⟨y, hy, q⟩ := List.any_eq_true.mp q
          rw [hq.out.2.2.2 y hy] at q
          cases q
        go_wp2
        go_ret
        exact ⟨by (rw [hany.out]; rfl), hq.out.1, hq.out.2.1⟩
end Go.Proofs.Ytdfnmlcpimiboaa.pg
/- Rings: pure, and how their lists lie. -/
namespace Go.Proofs.Ytdfnmlcpimiboaa.pg
open Go.ChangeShapes Go.WideShapes Go.ChangeAt Go.RowKit
set_option linter.unusedVariables false
set_option linter.unusedSimpArgs false
set_option maxRecDepth 100000
theorem nodup_le : ∀ (n : Nat) (l : List Nat), l.Nodup → (∀ i ∈ l, i < n) → l.length ≤ n
  | 0, l, _, h => by
    cases l with
    | nil => exact Nat.le_refl _
    | cons x t => exact absurd (h x (by simp)) (Nat.not_lt_zero x)
  | n + 1, l, hd, h => by
    have h1 : (l.erase n).length ≤ n := nodup_le n (l.erase n) (hd.erase n) fun i hi => by
      have h2 := h i (List.mem_of_mem_erase hi)
      have h3 : i ≠ n := fun q => by
        subst q
        exact (List.Nodup.not_mem_erase hd) hi
      omega
    have h4 := List.length_erase (a := n) (l := l)
    split at h4 <;> omega
/-- The rings that begin with a list of locks; m bounds how many more may come. -/
def growL (ok : List Nat → Bool) : Nat → List Nat → List (List Nat)
  | 0, b => if 1 < b.length ∧ ok b = true then [b] else []
  | m + 1, b => (if 1 < b.length ∧ ok b = true then [b] else []) ++ (List.range 4).flatMap fun x => if b.getD 0 0 < x ∧ x ∉ b then growL ok m (b ++ [x]) else []
/-- The rings that come by the locks below a bound. -/
def growTo (ok : List Nat → Bool) (m : Nat) (b : List Nat) (k : Nat) : List (List Nat) := (if 1 < b.length ∧ ok b = true then [b] else []) ++ (List.range k).flatMap fun x => if b.getD 0 0 < x ∧ x ∉ b then growL ok m (b ++ [x]) else []
theorem growTo_four (ok : List Nat → Bool) (m : Nat) (b : List Nat) : growTo ok m b 4 = growL ok (m + 1) b := rfl
theorem growTo_step (ok : List Nat → Bool) (m : Nat) (b : List Nat) (k : Nat) : growTo ok m b (k + 1) = growTo ok m b k ++ (if b.getD 0 0 < k ∧ k ∉ b then growL ok m (b ++ [k]) else []) := by
  unfold growTo
  rw [List.range_succ, List.flatMap_append, List.append_assoc]
  simp
theorem growTo_first (ok : List Nat → Bool) (m : Nat) (b : List Nat) : ∀ k, k ≤ b.getD 0 0 + 1 → growTo ok m b k = if 1 < b.length ∧ ok b = true then [b] else []
  | 0, _ => by unfold growTo; simp
  | k + 1, h => by
    rw [growTo_step, growTo_first ok m b k (by omega), if_neg (c := b.getD 0 0 < k ∧ k ∉ b) (by omega), List.append_nil]
/-- All rings. -/
def ringsL (ok : List Nat → Bool) (k : Nat) : List (List Nat) := (List.range k).flatMap fun x => growL ok 3 [x]
theorem ringsL_step (ok : List Nat → Bool) (k : Nat) : ringsL ok (k + 1) = ringsL ok k ++ growL ok 3 [k] := by
  unfold ringsL
  rw [List.range_succ, List.flatMap_append]
  simp
/-- A list of locks where it lies. -/
abbrev Rng := Option Addr × List Nat × Nat
abbrev Rng.cs (s : Rng) : List Value := [.slice s.1 s.2.1.length s.2.2]
section
variable {lo c : Nat} {a va : Option Addr} {vc : Nat} {P : List Rng} {X X' Z : World} {s : Rng}
/-- How a list of rings lies: the rings in blocks of their own. -/
structure RgL (lo : Nat) (X : World) (a : Option Addr) (c : Nat) (P : List Rng) : Prop where
  o : OwnL X lo 29 1 a c (P.map Rng.cs)
  i : ∀ s ∈ P, OwnL X lo 3 1 s.1 s.2.2 ((asZ s.2.1).map chCells)
theorem RgL.nil : RgL lo X none 0 [] := ⟨own_nil_q _ _ _ _, fun s hs => by simp at hs⟩
theorem RgL.on (h : RgL lo X a c P) (h1 : ∀ g ∈ blk a, X'.heap[g]? = X.heap[g]?) (h2 : ∀ s ∈ P, ∀ g ∈ blk s.1, X'.heap[g]? = X.heap[g]?) : RgL lo X' a c P := ⟨own_keep h.o h1, fun s hs => own_keep (h.i s hs) (h2 s hs)⟩
theorem RgL.later (h : RgL lo X a c P) (hb : Below X.heap.size X X') : RgL lo X' a c P := h.on (fun g hg => hb.block g (blk_lt h.o g hg).2) fun s hs g hg => hb.block g (blk_lt (h.i s hs) g hg).2
theorem RgL.grow (h : RgL lo X a c P) (hs : OwnL X lo 3 1 s.1 s.2.2 ((asZ s.2.1).map chCells)) (hgr : Grown X lo 29 1 a (P.map Rng.cs) s.cs va vc Z) : RgL lo Z va vc (P ++ [s]) := by
  have hk : ∀ t : Rng, OwnL X lo 3 1 t.1 t.2.2 ((asZ t.2.1).map chCells) → OwnL Z lo 3 1 t.1 t.2.2 ((asZ t.2.1).map chCells) := fun t ht => own_keep ht fun g hg => hgr.kp g (blk_lt ht g hg).2 (own_apartG ht h.o (by decide) hg)
  refine ⟨by rw [List.map_append]; exact hgr.ow, fun t ht => ?_⟩
  rw [List.mem_append, List.mem_singleton] at ht
  rcases ht with ht | rfl
  · exact hk t (h.i t ht)
  · exact hk t hs
theorem rg_rows (h : RgL lo X a c P) : Rows X 1 a c (P.map Rng.cs) := own_rows h.o fun row hr => by
  obtain ⟨z, _, rfl⟩ := List.mem_map.mp hr
  rfl
end
end Go.Proofs.Ytdfnmlcpimiboaa.pg
/- What stands around grow. -/
namespace Go.Proofs.Ytdfnmlcpimiboaa.pg
open Go.ChangeShapes Go.WideShapes Go.ChangeAt Go.RowKit
set_option linter.unusedVariables false
set_option linter.unusedSimpArgs false
set_option maxRecDepth 100000
section
variable {lo K : Nat} {S : Nat → Slot} {la la' ba va : Option Addr} {lc lc' bc vc : Nat} {P P' : List Rng} {bg : List Nat} {w w' w'' Z : World} {s : Rng} {x : Nat}
/-- What stands around grow. -/
structure GrP (lo : Nat) (w : World) (K : Nat) (S : Nat → Slot) (la : Option Addr) (lc : Nat) (P : List Rng) (ba : Option Addr) (bc : Nat) (bg : List Nat) : Prop where
  k : w.heap[K]? = some (.cells (rowT S) TKS)
  o : ∀ j, j < 16 → Rows w 5 (S j).1 (S j).2.2 ((S j).2.1.map Tk.cells)
  f : ∀ j, j < 16 → ∀ g ∈ blk (S j).1, g < w.heap.size ∧ g ∉ blk la ∧ g ∉ blk ba
  l : RgL lo w la lc P
  c : OwnL w lo 3 1 ba bc ((asZ bg).map chCells)
  a : ∀ s ∈ P, ∀ g ∈ blk s.1, g ∉ blk ba
  z : lo ≤ w.heap.size
/-- What grow leaves as it was. -/
structure GrF (lo : Nat) (la ba : Option Addr) (w w' : World) : Prop where
  b : Below lo w w'
  k : ∀ b, b < w.heap.size → b ∉ blk la → b ∉ blk ba → w'.heap[b]? = w.heap[b]?
theorem GrF.refl : GrF lo la ba w w := ⟨Below.refl _ _, fun _ _ _ _ => rfl⟩
theorem GrF.of (h : Below w.heap.size w w') (hl : lo ≤ w.heap.size) : GrF lo la ba w w' := ⟨h.mono hl, fun b hb _ _ => h.block b hb⟩
theorem GrF.trans (h : GrF lo la ba w w') (h2 : ∀ b ∈ blk la', b ∈ blk la ∨ w.heap.size ≤ b) (h3 : ∀ b ∈ blk va, b ∈ blk ba ∨ w.heap.size ≤ b) (k : GrF lo la' va w' w'') : GrF lo la ba w w'' :=
  ⟨h.b.trans k.b, fun b hb n1 n2 => (k.k b (Nat.lt_of_lt_of_le hb h.b.size) (fun q => (h2 b q).elim n1 fun q => by omega) (fun q => (h3 b q).elim n2 fun q => by omega)).trans (h.k b hb n1 n2)⟩
theorem GrP.kn (h : GrP lo w K S la lc P ba bc bg) : K ∉ blk la ∧ K ∉ blk ba := ⟨fun q => by
  obtain ⟨cur, h1, _⟩ := own_tagG h.l.o q
  rw [h.k] at h1
  simp only [Option.some.injEq, Obj.cells.injEq] at h1
  exact absurd h1.2.1 (by decide), fun q => by
  obtain ⟨cur, h1, _⟩ := own_tagG h.c q
  rw [h.k] at h1
  simp only [Option.some.injEq, Obj.cells.injEq] at h1
  exact absurd h1.2.1 (by decide)⟩
theorem GrP.later (h : GrP lo w K S la lc P ba bc bg) (hb : Below w.heap.size w w') : GrP lo w' K S la lc P ba bc bg :=
  ⟨blk_onG h.k hb, fun j hj => (h.o j hj).later hb, fun j hj g hg => ⟨Nat.lt_of_lt_of_le (h.f j hj g hg).1 hb.size, (h.f j hj g hg).2⟩, h.l.later hb, own_keep h.c fun g hg => hb.block g (blk_lt h.c g hg).2, h.a, Nat.le_trans h.z hb.size⟩
/-- A ring put behind the list. -/
theorem GrP.put (h : GrP lo w K S la lc P ba bc bg) (hs : OwnL w lo 3 1 s.1 s.2.2 ((asZ s.2.1).map chCells)) (hn : ∀ g ∈ blk s.1, g ∉ blk ba) (hgr : Grown w lo 29 1 la (P.map Rng.cs) s.cs va vc Z) : GrP lo Z K S va vc (P ++ [s]) ba bc bg ∧ GrF lo la ba w Z := by
  have hF : GrF lo la ba w Z := ⟨by
    have := hgr.be
    rw [Nat.min_eq_left h.z] at this
    exact this, fun b hb n1 _ => hgr.kp b hb n1⟩
  have hap : ∀ g ∈ blk ba, g ∉ blk la := fun g hg => own_apartG h.c h.l.o (by decide) hg
  refine ⟨⟨(hgr.kp K (Array.getElem?_eq_some_iff.mp h.k).1 h.kn.1).trans h.k, fun j hj => rows_on (h.o j hj) (fun g hg => hgr.kp g (h.f j hj g hg).1 (h.f j hj g hg).2.1) hF.b.size, fun j hj g hg => ⟨Nat.lt_of_lt_of_le (h.f j hj g hg).1 hF.b.size, fun q => (hgr.bk g q).elim (h.f j hj g hg).2.1 fun q => by have := (h.f j hj g hg).1; omega, (h.f j hj g hg).2.2⟩, h.l.grow hs hgr, own_keep h.c fun g hg => hgr.kp g (blk_lt h.c g hg).2 (hap g hg), fun t ht => ?_, Nat.le_trans h.z hF.b.size⟩, hF⟩
  rw [List.mem_append, List.mem_singleton] at ht
  rcases ht with ht | rfl
  · exact h.a t ht
  · exact hn
/-- A lock put behind the beginning. -/
theorem GrP.more (h : GrP lo w K S la lc P ba bc bg) (hgr : Grown w lo 3 1 ba ((asZ bg).map chCells) (chCells (x : Int)) va vc Z) : GrP lo Z K S la lc P va vc (bg ++ [x]) ∧ GrF lo la ba w Z := by
  have hF : GrF lo la ba w Z := ⟨by
    have := hgr.be
    rw [Nat.min_eq_left h.z] at this
    exact this, fun b hb _ n2 => hgr.kp b hb n2⟩
  have hap : ∀ g ∈ blk la, g ∉ blk ba := fun g hg => own_apartG h.l.o h.c (by decide) hg
  refine ⟨⟨(hgr.kp K (Array.getElem?_eq_some_iff.mp h.k).1 h.kn.2).trans h.k, fun j hj => rows_on (h.o j hj) (fun g hg => hgr.kp g (h.f j hj g hg).1 (h.f j hj g hg).2.2) hF.b.size, fun j hj g hg => ⟨Nat.lt_of_lt_of_le (h.f j hj g hg).1 hF.b.size, (h.f j hj g hg).2.1, fun q => (hgr.bk g q).elim (h.f j hj g hg).2.2 fun q => by have := (h.f j hj g hg).1; omega⟩, h.l.on (fun g hg => hgr.kp g (blk_lt h.l.o g hg).2 (hap g hg)) fun t ht g hg => hgr.kp g (blk_lt (h.l.i t ht) g hg).2 (h.a t ht g hg), ?_, fun t ht g hg q => ?_, Nat.le_trans h.z hF.b.size⟩, hF⟩
  · have := hgr.ow
    unfold asZ
    rw [List.map_append, List.map_append]
    exact this
  · rcases hgr.bk g q with q | q
    · exact h.a t ht g hg q
    · have := (blk_lt (h.l.i t ht) g hg).2
      omega
/-- The beginning stands again, behind a call that had the longer one. -/
theorem GrP.back (h : GrP lo Z K S la lc P va vc (bg ++ [x])) (h1 : OwnL Z lo 3 1 ba bc ((asZ bg).map chCells)) (hz : ∀ b ∈ blk ba, b < Z.heap.size) (h2 : GrP lo w' K S la' lc' P' va vc (bg ++ [x])) (hF : GrF lo la va Z w') (hnl : ∀ g ∈ blk ba, g ∉ blk la) (hb : ∀ b ∈ blk la', b ∈ blk la ∨ Z.heap.size ≤ b) (hp : ∀ s ∈ P', ∀ g ∈ blk s.1, (∃ t ∈ P, g ∈ blk t.1) ∨ Z.heap.size ≤ g) (hn : ∀ s ∈ P, ∀ g ∈ blk s.1, g ∉ blk ba) (hf : ∀ j, j < 16 → ∀ g ∈ blk (S j).1, g ∉ blk ba) : GrP lo w' K S la' lc' P' ba bc bg := by
  have e : (asZ (bg ++ [x])).map chCells = (asZ bg).map chCells ++ [chCells (x : Int)] := by
    unfold asZ
    rw [List.map_append, List.map_append]
    rfl
  have c1 := h.c
  have c2 := h2.c
  rw [e] at c1 c2
  refine ⟨h2.k, h2.o, fun j hj g hg => ⟨(h2.f j hj g hg).1, (h2.f j hj g hg).2.1, hf j hj g hg⟩, h2.l, ?_, fun s hs g hg q => ?_, h2.z⟩
  · exact own_back (by decide) h1 c1 c2 fun g hg nv => hF.k g (hz g hg) (hnl g hg) nv
  · rcases hp s hs g hg with ⟨t, ht, q2⟩ | q2
    · exact hn t ht g q2 q
    · have := hz g q; omega
end
end Go.Proofs.Ytdfnmlcpimiboaa.pg
