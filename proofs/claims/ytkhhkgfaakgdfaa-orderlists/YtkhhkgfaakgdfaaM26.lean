/- A store of one cell, what is left under a name of its own. -/
import Derived.Test.YtkhhkgfaakgdfaaM19
import Derived.Test.YtkhhkgfaakgdfaaM25
import Derived.BigRegion
namespace Go.Proofs.Ytkhhkgfaakgdfaa.pg
open Go.ChangeShapes Go.WideShapes Go.ChangeAt Go.RowKit
set_option linter.unusedVariables false
set_option linter.unusedSimpArgs false
theorem wpList_puti {P : Program} {ops : Array Oper} {rest : List Oper} {o : Oper} {a : Act} {w : World} {Q : Exit → Act → World → Prop} (hgd : o.guard = none) (ty : TypeId) (x y : Operand) (ho : o.op = .store ty x y) (ad : Addr) (hx : a.eval x = .pointer (some ad)) (n : Int) (hy : a.eval y = (.int .i64 n)) (hi : (P.info? ty).map (·.size) = some 1) (v : Value) (hc : w.cell? ad = some v) (hf : w.frozen? ad = false)
    (h : ∀ W', W' = w.setCell ad (.int .i64 n) → wpList P ops Q rest (a.put o.dst undef) W') : wpList P ops Q (o :: rest) a w := wpList_plain hgd fun K hK => by
  have hr : (execOp a.eval o).run P w = .ok .skip (w.setCell ad (.int .i64 n)) := by
    cases hq : P.info? ty with
    | none => simp [hq] at hi
    | some i =>
      have hs : i.size = 1 := by simpa [hq] using hi
      unfold execOp
      simp only [ho, hx, hy]
      simp [Instr.storeAt, Instr.sureAddr, storeVar, sizeOf, typeInfo, hq, hs, Value.cells, go_sem, hc, hf]
  unfold Oper.wp
  rw [hr]
  exact hK _ _ (h _ rfl)
theorem wpList_putb {P : Program} {ops : Array Oper} {rest : List Oper} {o : Oper} {a : Act} {w : World} {Q : Exit → Act → World → Prop} (hgd : o.guard = none) (ty : TypeId) (x y : Operand) (ho : o.op = .store ty x y) (ad : Addr) (hx : a.eval x = .pointer (some ad)) (b : Bool) (hy : a.eval y = (.bool b)) (hi : (P.info? ty).map (·.size) = some 1) (v : Value) (hc : w.cell? ad = some v) (hf : w.frozen? ad = false)
    (h : ∀ W', W' = w.setCell ad (.bool b) → wpList P ops Q rest (a.put o.dst undef) W') : wpList P ops Q (o :: rest) a w := wpList_plain hgd fun K hK => by
  have hr : (execOp a.eval o).run P w = .ok .skip (w.setCell ad (.bool b)) := by
    cases hq : P.info? ty with
    | none => simp [hq] at hi
    | some i =>
      have hs : i.size = 1 := by simpa [hq] using hi
      unfold execOp
      simp only [ho, hx, hy]
      simp [Instr.storeAt, Instr.sureAddr, storeVar, sizeOf, typeInfo, hq, hs, Value.cells, go_sem, hc, hf]
  unfold Oper.wp
  rw [hr]
  exact hK _ _ (h _ rfl)
theorem wpList_puts {P : Program} {ops : Array Oper} {rest : List Oper} {o : Oper} {a : Act} {w : World} {Q : Exit → Act → World → Prop} (hgd : o.guard = none) (ty : TypeId) (x y : Operand) (ho : o.op = .store ty x y) (ad : Addr) (hx : a.eval x = .pointer (some ad)) (g : Option Addr) (n cap : Nat) (hy : a.eval y = (.slice g n cap)) (hi : (P.info? ty).map (·.size) = some 1) (v : Value) (hc : w.cell? ad = some v) (hf : w.frozen? ad = false)
    (h : ∀ W', W' = w.setCell ad (.slice g n cap) → wpList P ops Q rest (a.put o.dst undef) W') : wpList P ops Q (o :: rest) a w := wpList_plain hgd fun K hK => by
  have hr : (execOp a.eval o).run P w = .ok .skip (w.setCell ad (.slice g n cap)) := by
    cases hq : P.info? ty with
    | none => simp [hq] at hi
    | some i =>
      have hs : i.size = 1 := by simpa [hq] using hi
      unfold execOp
      simp only [ho, hx, hy]
      simp [Instr.storeAt, Instr.sureAddr, storeVar, sizeOf, typeInfo, hq, hs, Value.cells, go_sem, hc, hf]
  unfold Oper.wp
  rw [hr]
  exact hK _ _ (h _ rfl)
end Go.Proofs.Ytkhhkgfaakgdfaa.pg
/- The document's own Before: a matrix, column by column. -/
namespace Go.Proofs.Ytkhhkgfaakgdfaa.pg
open Go.ChangeShapes Go.WideShapes Go.ChangeAt Go.RowKit Go.Shelf
set_option linter.unusedVariables false
set_option linter.unusedSimpArgs false
set_option maxRecDepth 100000
attribute [local go_sem ↓] Go.wp_at_zero Go.wp_at_succ
/-- Columns below j are told; column j as far as C says. -/
def mj (B : Nat → Nat → Bool) (j : Nat) (C : Nat → Bool) (a b : Nat) : Bool := if b < j then B a b else if b = j then C a else false
theorem mj_at (B : Nat → Nat → Bool) (j : Nat) (C : Nat → Bool) (a : Nat) : mj B j C a j = C a := by unfold mj; rw [if_neg (by omega), if_pos rfl]
theorem mj_lt (B : Nat → Nat → Bool) {j b : Nat} (C : Nat → Bool) (a : Nat) (h : b < j) : mj B j C a b = B a b := by unfold mj; rw [if_pos h]
theorem mj_set (B : Nat → Nat → Bool) (j : Nat) (C : Nat → Bool) (i : Nat) (v : Bool) (a b : Nat) : (if a = i ∧ b = j then v else mj B j C a b) = mj B j (fun a => if a = i then v else C a) a b := by
  unfold mj
  by_cases hb : b = j
  · subst hb
    by_cases ha : a = i
    · subst ha; simp
    · simp [ha]
  · rw [if_neg (fun q => hb q.2), if_neg hb, if_neg hb]
theorem mj_next (B : Nat → Nat → Bool) (j : Nat) (C : Nat → Bool) (hC : ∀ a, C a = B a j) (a b : Nat) : mj B j C a b = mj B (j + 1) (fun _ => false) a b := by
  unfold mj
  by_cases h1 : b < j
  · rw [if_pos h1, if_pos (by omega)]
  · rw [if_neg h1]
    by_cases h2 : b = j
    · subst h2
      rw [if_pos rfl, if_pos (by omega), hC]
    · rw [if_neg h2, if_neg (by omega)]
      split <;> rfl
/-- Where the matrix stands in the walk. -/
structure RbS (w wr : World) (A n k : Nat) (rb : Nat → Nat) (M : Nat → Nat → Bool) : Prop where
  m : Mat wr w.heap.size A n k rb M
  b : Below w.heap.size w wr
theorem RbS.later {w wr w' : World} {A n k : Nat} {rb : Nat → Nat} {M : Nat → Nat → Bool} (h : RbS w wr A n k rb M) (hb : Below wr.heap.size wr w') : RbS w w' A n k rb M := ⟨h.m.later hb, bthen h.b hb⟩
theorem RbS.col {w wr : World} {A n : Nat} {rb : Nat → Nat} {B : Nat → Nat → Bool} {j : Nat} {C : Nat → Bool} (h : RbS w wr A n n rb (mj B j C)) {i : Nat} (hi : i < n) (v : Bool) : RbS w (wr.setCell ⟨rb i, j, none⟩ (.bool v)) A n n rb (mj B j fun a => if a = i then v else C a) :=
  ⟨(h.m.set hi j v).congr fun a b _ _ => mj_set B j C i v a b, h.m.below hi (Nat.le_refl _) h.b⟩
theorem RbS.cong {w wr : World} {A n : Nat} {rb : Nat → Nat} {M M' : Nat → Nat → Bool} (h : RbS w wr A n n rb M) (he : ∀ a b, M a b = M' a b) : RbS w wr A n n rb M' := ⟨h.m.congr fun a b _ _ => he a b, h.b⟩
/-- Column j, while what is ahead of i is brought in. -/
def c4 (d B : Nat → Nat → Bool) (j i k a : Nat) : Bool := if a = i then true else if a < k then (sB d B j (i + 1) a || B a i) else sB d B j (i + 1) a
theorem c4_end {d B : Nat → Nat → Bool} (hB : Tells d B) {i j : Nat} (hi : i < j) (hd : d i j = true) (a : Nat) : c4 d B j i i a = sB d B j i a := by
  unfold c4
  rw [sB_more hB hi hd a]
  by_cases h1 : a = i
  · subst h1; simp
  · have h2 : (a == i) = false := by simpa using h1
    rw [if_neg h1, h2, Bool.false_or]
    by_cases h3 : a < i
    · rw [if_pos h3]
    · rw [if_neg h3]
      have : B a i = false := by
        rw [Bool.eq_false_iff]
        intro q
        have := ((hB a i).mp q).lt
        omega
      rw [this, Bool.or_false]
theorem c4_start (d B : Nat → Nat → Bool) (j i a : Nat) : (if a = i then true else sB d B j (i + 1) a) = c4 d B j i 0 a := by
  unfold c4
  by_cases h1 : a = i
  · rw [if_pos h1, if_pos h1]
  · rw [if_neg h1, if_neg h1, if_neg (by omega)]
theorem c4_step (d B : Nat → Nat → Bool) (j i k a : Nat) (hk : k < i) : (if a = k then (sB d B j (i + 1) k || B k i) else c4 d B j i k a) = c4 d B j i (k + 1) a := by
  unfold c4
  by_cases h1 : a = k
  · subst h1
    rw [if_pos rfl, if_neg (by omega), if_pos (by omega)]
  · rw [if_neg h1]
    by_cases h2 : a = i
    · rw [if_pos h2, if_pos h2]
    · rw [if_neg h2, if_neg h2]
      by_cases h3 : a < k
      · rw [if_pos h3, if_pos (by omega)]
      · rw [if_neg h3, if_neg (by omega)]
theorem c4_at (d B : Nat → Nat → Bool) (j i k : Nat) (hk : k < i) : c4 d B j i k k = sB d B j (i + 1) k := by
  unfold c4
  rw [if_neg (by omega), if_neg (by omega)]
set_option maxHeartbeats 4000000 in
theorem rbef_any (l : List Ev) (la : Option Addr) (lc : Nat) (w : World) (hl : Rows w 26 la lc (l.map Ev.cells)) (hlen : l.length ≤ 256) (B : Nat → Nat → Bool) (hB : Tells (dpf l) B) :
    Calls Try.prog 26 #[.slice la l.length lc] w fun e w' => ∃ A rb, e = .returned (.slice (some ⟨A, 0, none⟩) l.length l.length) ∧ RbS w w' A l.length l.length rb B := by
  have hlI : (l.length : Int) ≤ 256 := by omega
  have hlH : Hid (Rows w 26 la lc (l.map Ev.cells)) := hl
  have hBH : Hid (Tells (dpf l) B) := hB
  obtain ⟨iB, hiB, hzB, hsB, hbB⟩ := info_q infoBl
  obtain ⟨iS, hiS, hzS, hsS, hbS⟩ := info_q infoSb
  have iBH : Hid (Try.prog.info? 4 = some iB ∧ iB.zero = some (.bool false) ∧ iB.size = 1 ∧ iB.bytes * l.length ≤ 281474976710656) := ⟨hiB, hzB, hsB, by rw [hbB]; omega⟩
  have iSH : Hid (Try.prog.info? 52 = some iS ∧ iS.zero = some (.slice none 0 0) ∧ iS.size = 1 ∧ iS.bytes * l.length ≤ 281474976710656) := ⟨hiS, hzS, hsS, by rw [hbS]; omega⟩
  have huE : Hid (Try.prog.underlying 66 = _) := Try.underlying66
  have hiE : Hid ((Try.prog.info? 66).map (·.size) = some 26) := infoE26
  clear hl hB hiB hzB hsB hbB hiS hzS hsS hbS
  go_enter Try.func26, Try.ntmps26
  go_wp2_with (first
    | (refine wpList_mk _ rfl _ _ 49 rfl 52 iS (.slice none 0 0) Try.underlying49 iSH.out.1 iSH.out.2.1 rfl iSH.out.2.2.1 l.length rfl rfl iSH.out.2.2.2 (by omega) ?_; intro W hwh hbW hsW))
  have s0 : Hid (RbS w W w.heap.size l.length 0 (fun _ => 0) fun _ _ => false) := ⟨mat_new hwh (Nat.le_refl _), hbW⟩
  clear hwh hbW hsW
  obtain ⟨A, hA⟩ : ∃ A, w.heap.size = A := ⟨_, rfl⟩
  rw [hA] at s0 ⊢
  clear hA
  go_loopw [5] (fun u wr => ∃ (k : Nat) (rb : Nat → Nat), k ≤ l.length ∧ u = .int .i64 k ∧ Hid (RbS w wr A l.length k rb fun _ _ => false)) (fun u _ => l.length - (intOf u).toNat)
  case atStart => exact ⟨0, _, Nat.zero_le _, rfl, s0⟩
  case round =>
    obtain ⟨k, rb, hk, rfl, hs⟩ := hrel
    clear s0
    by_cases hlt : k < l.length
    · have hkI : (k : Int) < l.length := by omega
      have xA := ix_row A l.length k hlt
      have nx : Hid (∀ W', W'.heap[wr.heap.size]? = some (.cells (List.replicate l.length (Value.bool false)).toArray 4 (0, 0)) → Below wr.heap.size wr W' → RbS w (W'.setCell ⟨A, k, none⟩ (.slice (some ⟨wr.heap.size, 0, none⟩) l.length l.length)) A l.length (k + 1) (fun i => if i = k then wr.heap.size else rb i) (fun _ _ => false)) := fun W' h1 h2 => by
        have hm := hs.out.m.more hlt (by have := hs.out.b.size; omega) (Nat.le_refl _) h2 (by rw [h1, boolRow_new])
        exact ⟨hm.congr fun i j _ _ => by split <;> rfl, by
          rw [setCell_eq_setRow W' A k _ _ _ _ (hs.out.m.later h2).a]
          exact below_setRow (bthen hs.out.b h2) hs.out.m.lo.1 _⟩
      have cl : Hid (∀ W', Below wr.heap.size wr W' → W'.cell? ⟨A, k, none⟩ = some (.slice none 0 0) ∧ W'.frozen? ⟨A, k, none⟩ = false) := fun W' h2 => by
        have h3 := (hs.out.m.later h2).a
        exact ⟨cell_of h3 (by rw [sliceRow_at hlt, if_neg (by omega)]), frozen_of_row _ _ _ _ _ h3⟩
      go_wp2_with (first
        | (refine wpList_mk _ rfl _ _ 52 rfl 4 iB (.bool false) Try.underlying52 iBH.out.1 iBH.out.2.1 rfl iBH.out.2.2.1 l.length rfl rfl iBH.out.2.2.2 (by omega) ?_; intro W1 hwh hbW hsW; (have hnew : Hid (RbS w (W1.setCell ⟨A, k, none⟩ (.slice (some ⟨wr.heap.size, 0, none⟩) l.length l.length)) A l.length (k + 1) (fun i => if i = k then wr.heap.size else rb i) (fun _ _ => false)) := nx.out W1 hwh hbW); (have hcl : Hid (W1.cell? ⟨A, k, none⟩ = some (.slice none 0 0) ∧ W1.frozen? ⟨A, k, none⟩ = false) := cl.out W1 hbW); clear hwh hbW hsW nx cl)
        | (refine wpList_puts rfl 52 _ _ rfl ⟨A, k, none⟩ rfl (some ⟨wr.heap.size, 0, none⟩) l.length l.length rfl (by kernel_rfl) _ hcl.out.1 hcl.out.2 ?_; intro W2 hW2; (have s2 : Hid (RbS w W2 A l.length (k + 1) (fun i => if i = k then wr.heap.size else rb i) (fun _ _ => false)) := by rw [hW2]; exact hnew.out); clear hW2 hnew hcl))
      go_roundw
      case rel => exact ⟨k + 1, _, by omega, by go_num, s2⟩
      case measure => simp [intOf]; omega
    · have hk2 : k = l.length := by omega
      subst hk2
      clear hlt hk
      have t0 : Hid (RbS w wr A l.length l.length rb (mj B 0 fun _ => false)) := hs.out.cong fun a b => by unfold mj; rw [if_neg (by omega)]; split <;> rfl
      clear hs
      go_wp2_with fail
      go_loopw [6] (fun u wq => ∃ j : Nat, j ≤ l.length ∧ u = .int .i64 j ∧ Hid (RbS w wq A l.length l.length rb (mj B j fun _ => false))) (fun u _ => l.length - (intOf u).toNat)
      case atStart => exact ⟨0, Nat.zero_le _, rfl, t0⟩
      case round =>
        rename World => wq
        obtain ⟨j, hj, rfl, hs⟩ := hrel
        clear t0
        by_cases hlt : j < l.length
        · have hjI : (j : Int) < l.length := by omega
          have hwj : wrap64 ((j : Int) - 1) = (j : Int) - 1 := by simp only [wrap64]; omega
          have t1 : Hid (RbS w wq A l.length l.length rb (mj B j (sB (dpf l) B j j))) := hs.out.cong fun a b => by
            unfold mj
            split
            · rfl
            · split
              · rw [sB_top hBH.out]
              · rfl
          clear hs
          go_wp2_with fail
          go_loopw [7] (fun u wv => ∃ m : Nat, m ≤ j ∧ u = .int .i64 ((m : Int) - 1) ∧ Hid (RbS w wv A l.length l.length rb (mj B j (sB (dpf l) B j m)))) (fun u _ => (intOf u + 1).toNat)
          case atStart => exact ⟨j, Nat.le_refl _, by first | rfl | rw [hwj], t1⟩
          case round =>
            rename World => wv
            obtain ⟨m, hm, rfl, hs⟩ := hrel
            clear t1
            cases m with
            | zero =>
              have t2 : Hid (RbS w wv A l.length l.length rb (mj B (j + 1) fun _ => false)) := hs.out.cong fun a b => mj_next B j _ (fun a => sB_zero hBH.out j a) a b
              clear hs
              go_wp2
              go_roundw
              case rel => exact ⟨j + 1, by omega, by go_num, t2⟩
              case measure => simp [intOf]; omega
            | succ i =>
              have hiI : ((i + 1 : Nat) : Int) - 1 = (i : Int) := by omega
              rw [hiI]
              have hi0 : (0 : Int) ≤ (i : Int) := by omega
              have hij : i < j := hm
              have hwi : wrap64 ((i : Int) - 1) = (i : Int) - 1 := by simp only [wrap64]; omega
              have xA := ix_row A l.length i (by omega)
              have xR := ix_bool (rb i) l.length j hlt
              obtain ⟨eb, eo, e1, e2, e3⟩ := ev_row (hlH.out.later hs.out.b) i _ (evf_at (l := l) (i := i) (by omega))
              obtain ⟨fb, fo, f1, f2, f3⟩ := ev_row (hlH.out.later hs.out.b) j _ (evf_at hlt)
              have z1 : ∀ q : Cls (Bey wv), q.w.cell? ⟨A, i, none⟩ = some (.slice (some ⟨rb i, 0, none⟩) l.length l.length) := fun q => (hs.out.m.later q.h).row (by omega) (by omega)
              have z2 : ∀ q : Cls (Bey wv), q.w.cell? ⟨rb i, j, none⟩ = some (.bool (sB (dpf l) B j (i + 1) i)) := fun q => by
                have := ((hs.out.m.later q.h).cell (i := i) (j := j) (by omega) hlt).1
                rwa [mj_at] at this
              have r1 : ∀ q : Cls (Bey wv), q.w.rangeAt eb eo (evf l i).cells := fun q => range_block e3 (q.h.block eb e2)
              have r2 : ∀ q : Cls (Bey wv), q.w.rangeAt fb fo (evf l j).cells := fun q => range_block f3 (q.h.block fb f2)
              have cD : ∀ q : Cls (Bey wv), Calls Try.prog 34 #[.agg (evf l i).cells.toArray, .agg (evf l j).cells.toArray] q.w fun e w' => e = .returned (.bool (dpf l i j)) ∧ Below q.w.heap.size q.w w' := fun q => rdependent_any _ _ q.w _ rfl
              have hne := bey_some wv
              clear e2 e3 f2 f3 hwj
              obtain ⟨P, hP⟩ : ∃ P, sB (dpf l) B j (i + 1) i = P := ⟨_, rfl⟩
              obtain ⟨D, hD⟩ : ∃ D, dpf l i j = D := ⟨_, rfl⟩
              rw [hP] at z2
              rw [hD] at cD
              have hPH : Hid (sB (dpf l) B j (i + 1) i = P ∧ dpf l i j = D) := ⟨hP, hD⟩
              clear hP hD
              cases P with
              | true =>
                have t2 : Hid (∀ W', Below wv.heap.size wv W' → RbS w W' A l.length l.length rb (mj B j (sB (dpf l) B j i))) := fun W' hb => (hs.out.later hb).cong fun a b => by
                  have e : sB (dpf l) B j i = sB (dpf l) B j (i + 1) := funext fun q => sB_keep hBH.out (.inl hPH.out.1) q
                  rw [e]
                go_wp2_with fail
                refine wp_region_cls (Bey wv) (by kernel_rfl) (by kernel_rfl) (bey_drew wv) ?_
                repeat (go_big_quiet_step (fail))
                refine wpQuiet_nil ?_
                intro _ hw'
                obtain ⟨sq, hw''⟩ := hw'
                subst hw''
                clear xA xR e1 f1 z1 z2 r1 r2 cD hne
                go_wp2
                go_roundw
                case rel => exact ⟨i, by omega, by first | rfl | go_num | rw [hwi], t2.out _ sq.h⟩
                case measure => simp [intOf]; try omega
              | false =>
                cases D with
                | false =>
                  have t2 : Hid (∀ W', Below wv.heap.size wv W' → RbS w W' A l.length l.length rb (mj B j (sB (dpf l) B j i))) := fun W' hb => (hs.out.later hb).cong fun a b => by
                    have e : sB (dpf l) B j i = sB (dpf l) B j (i + 1) := funext fun q => sB_keep hBH.out (.inr hPH.out.2) q
                    rw [e]
                  go_wp2_with fail
                  refine wp_region_cls (Bey wv) (by kernel_rfl) (by kernel_rfl) (bey_drew wv) ?_
                  repeat (first
                    | (go_big_quiet_want; (first | refine quiet_load_mid 66 _ rfl eb eo rfl _ _ r1 huE.out rfl hiE.out ?_ | refine quiet_load_mid 66 _ rfl fb fo rfl _ _ r2 huE.out rfl hiE.out ?_); (simp only [Act.put, List.setIfInBounds_toArray, List.set_cons_zero, List.set_cons_succ]); go_big_quiet_on)
                    | go_big_quiet_step ((go_at_call 34; exact calls_bey (cD _))))
                  refine wpQuiet_nil ?_
                  intro _ hw'
                  obtain ⟨sq, hw''⟩ := hw'
                  subst hw''
                  clear xA xR e1 f1 z1 z2 r1 r2 cD hne
                  go_wp2
                  go_roundw
                  case rel => exact ⟨i, by omega, by first | rfl | go_num | rw [hwi], t2.out _ sq.h⟩
                  case measure => simp [intOf]; try omega
                | true =>
                  go_wp2_with fail
                  refine wp_region_cls (Bey wv) (by kernel_rfl) (by kernel_rfl) (bey_drew wv) ?_
                  repeat (first
                    | (go_big_quiet_want; (first | refine quiet_load_mid 66 _ rfl eb eo rfl _ _ r1 huE.out rfl hiE.out ?_ | refine quiet_load_mid 66 _ rfl fb fo rfl _ _ r2 huE.out rfl hiE.out ?_); (simp only [Act.put, List.setIfInBounds_toArray, List.set_cons_zero, List.set_cons_succ]); go_big_quiet_on)
                    | go_big_quiet_step ((go_at_call 34; exact calls_bey (cD _))))
                  refine wpQuiet_nil ?_
                  intro _ hw'
                  obtain ⟨sq, hw''⟩ := hw'
                  subst hw''
                  clear e1 f1 z1 z2 r1 r2 cD hne
                  obtain ⟨W1, hW1⟩ : ∃ W1, W1 = sq.w := ⟨_, rfl⟩
                  have hs1 : Hid (RbS w W1 A l.length l.length rb (mj B j (sB (dpf l) B j (i + 1)))) := by show RbS _ _ _ _ _ _ _; rw [hW1]; exact hs.out.later sq.h
                  rw [← hW1]
                  clear hW1 hs
                  have z3 := hs1.out.m.row (i := i) (by omega) (by omega)
                  have z4 : Hid (W1.cell? ⟨rb i, j, none⟩ = some (.bool false) ∧ W1.frozen? ⟨rb i, j, none⟩ = false) := by
                    have := hs1.out.m.cell (i := i) (j := j) (by omega) hlt
                    rw [mj_at, hPH.out.1] at this
                    exact this
                  go_wp2_with (first
                    | (refine wpList_putb rfl 4 _ _ rfl ⟨rb i, j, none⟩ rfl true rfl (by kernel_rfl) _ z4.out.1 z4.out.2 ?_; intro W2 hW2; (have hs2 : Hid (RbS w W2 A l.length l.length rb (mj B j (c4 (dpf l) B j i 0))) := by (rw [hW2]; exact (hs1.out.col (by omega) true).cong fun a b => by (unfold mj; simp only [c4_start]))); clear hW2 hs1 z3 z4))
                  clear xA xR
                  go_loopw [8] (fun u wy => ∃ k : Nat, k ≤ i ∧ u = .int .i64 k ∧ Hid (RbS w wy A l.length l.length rb (mj B j (c4 (dpf l) B j i k)))) (fun u _ => i - (intOf u).toNat)
                  case atStart => exact ⟨0, Nat.zero_le _, rfl, hs2⟩
                  case round =>
                    rename World => wy
                    obtain ⟨k, hk, rfl, hs⟩ := hrel
                    clear hs2
                    by_cases hki : k < i
                    · have hkI : (k : Int) < i := by omega
                      have yA := ix_row A l.length k (by omega)
                      have yJ := ix_bool (rb k) l.length j hlt
                      have yI := ix_bool (rb k) l.length i (by omega)
                      have u1 := hs.out.m.row (i := k) (by omega) (by omega)
                      have u2 := hs.out.m.cell (i := k) (j := j) (by omega) hlt
                      have u3 := (hs.out.m.cell (i := k) (j := i) (by omega) (by omega)).1
                      rw [mj_at, c4_at _ _ _ _ _ hki] at u2
                      rw [mj_lt B _ _ hij] at u3
                      obtain ⟨u2a, u2b⟩ := u2
                      have nx : Hid (∀ W' v, Below wy.heap.size wy W' → v = (sB (dpf l) B j (i + 1) k || B k i) → RbS w (W'.setCell ⟨rb k, j, none⟩ (.bool v)) A l.length l.length rb (mj B j (c4 (dpf l) B j i (k + 1)))) := fun W' v hb hv => ((hs.out.later hb).col (by omega) v).cong fun a b => by
                        subst hv
                        unfold mj
                        simp only [c4_step (dpf l) B j i k _ hki]
                      clear hs
                      generalize sB (dpf l) B j (i + 1) k = P at *
                      generalize B k i = Q at *
                      generalize rb k = R at *
                      cases P with
                      | true =>
                        go_wp2_with fail
                        go_region
                        go_wp2
                        go_roundw
                        case rel => exact ⟨k + 1, by omega, by go_num, (nx.out wy true (Below.refl _ _) rfl).later (Below.refl _ _).drew⟩
                        case measure => simp [intOf]; omega
                      | false =>
                        go_wp2_with fail
                        go_region
                        go_wp2
                        go_roundw
                        case rel => exact ⟨k + 1, by omega, by go_num, (nx.out wy Q (Below.refl _ _) (Bool.false_or _).symm).later (Below.refl _ _).drew⟩
                        case measure => simp [intOf]; omega
                    · have hk2 : k = i := by omega
                      subst hk2
                      have t3 : Hid (RbS w wy A l.length l.length rb (mj B j (sB (dpf l) B j k))) := hs.out.cong fun a b => by
                        have e : c4 (dpf l) B j k k = sB (dpf l) B j k := funext fun q => c4_end hBH.out hij hPH.out.2 q
                        rw [e]
                      clear hs
                      go_wp2
                      go_roundw
                      case rel => exact ⟨k, by omega, by first | rfl | go_num | rw [hwi], t3⟩
                      case measure => simp [intOf]; try omega
        · have hj2 : j = l.length := by omega
          subst hj2
          go_wp2
          go_ret
          exact ⟨A, rb, rfl, hs.out.m.congr fun a b _ hb => mj_lt B _ a hb, hs.out.b⟩
end Go.Proofs.Ytkhhkgfaakgdfaa.pg
