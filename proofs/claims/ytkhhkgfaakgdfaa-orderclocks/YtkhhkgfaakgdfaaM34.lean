/- Past and Lasts of package order. -/
import Derived.Test.YtkhhkgfaakgdfaaM33
namespace Go.Proofs.Ytkhhkgfaakgdfaa.pg
open Go.ChangeShapes Go.WideShapes Go.ChangeAt Go.RowKit Go.Shelf
set_option linter.unusedVariables false
set_option linter.unusedSimpArgs false
set_option maxRecDepth 100000
attribute [local go_sem ↓] Go.wp_at_zero Go.wp_at_succ
/-- A set in a block of its own, beyond a world. -/
structure SetB (W1 W : World) (P : Nat) (f : Nat → Bool) : Prop where
  s : W.heap[P]? = some (.cells (boolRow 256 f) 85)
  b : Below W1.heap.size W1 W
  l : W1.heap.size ≤ P
theorem SetB.later {W1 W W' : World} {P : Nat} {f : Nat → Bool} (h : SetB W1 W P f) (hb : Below W.heap.size W W') : SetB W1 W' P f :=
  ⟨(hb.block _ (Array.getElem?_eq_some_iff.mp h.s).1).trans h.s, bthen h.b hb, h.l⟩
theorem SetB.put {W1 W : World} {P : Nat} {f : Nat → Bool} (h : SetB W1 W P f) (k : Nat) (v : Bool) : SetB W1 (W.setCell ⟨P, k, none⟩ (.bool v)) P (fun b => if b = k then v else f b) := by
  rw [setCell_eq_setRow W P k _ _ _ _ h.s, boolRow_set]
  exact ⟨setRow_heap W P _ _ _ _ h.s, below_setRow h.b h.l _, h.l⟩
theorem SetB.cell {W1 W : World} {P : Nat} {f : Nat → Bool} (h : SetB W1 W P f) {k : Nat} (hk : k < 256) : W.cell? ⟨P, k, none⟩ = some (.bool (f k)) ∧ W.frozen? ⟨P, k, none⟩ = false :=
  ⟨cell_of h.s (boolRow_at hk), frozen_of_row _ _ _ _ _ h.s⟩
theorem SetB.cong {W1 W : World} {P : Nat} {f g : Nat → Bool} (h : SetB W1 W P f) (e : ∀ k, f k = g k) : SetB W1 W P g := by
  have : f = g := funext e
  rwa [← this]
theorem setB_new (W1 : World) : SetB W1 (W1.alloc (.cells (boolRow 256 fun _ => false) 85)) W1.heap.size (fun _ => false) := ⟨heap_alloc_new _ _, boxed _ _, Nat.le_refl _⟩
def fPast (l : List Ev) (i k a : Nat) : Bool := decide (a < k) && befK (rel (evf l) l.length).1 l a i
theorem fPast_more (l : List Ev) (i k a : Nat) : (if a = k then befK (rel (evf l) l.length).1 l k i else fPast l i k a) = fPast l i (k + 1) a := by
  unfold fPast
  by_cases h : a = k
  · subst h
    rw [if_pos rfl]
    have : decide (a < a + 1) = true := by simp
    rw [this, Bool.true_and]
  · rw [if_neg h]
    have : decide (a < k) = decide (a < k + 1) := by rw [decide_eq_decide]; omega
    rw [this]
set_option maxHeartbeats 2000000 in
theorem past_ok (l : List Ev) (la : Option Addr) (lc : Nat) (i : Nat) (w : World) (hl : Rows w 26 la lc (l.map Ev.cells)) (hlen : l.length ≤ 256) (hrt : ∀ x ∈ l, rightP x) (hi : i < l.length) :
    Calls Try.prog 24 #[.slice la l.length lc, .int .i64 (i : Int)] w fun e w' => ∃ va vc, e = .returned (.tuple #[.slice va (lst (fPast l i i) 256).length vc, .int .i64 0]) ∧ LsS w (lst (fPast l i i) 256) va vc w' := by
  have bx := boxed w (.cells #[.int .i64 (i : Int)] 3)
  have c1 := looks_one l la lc i w hl hlen hrt hi
  have hlH : Hid (Rows w 26 la lc (l.map Ev.cells)) := hl
  have hrtH : Hid (∀ x ∈ l, rightP x) := hrt
  have huR : Hid (Try.prog.underlying 78 = _) := Try.underlying78
  have huS : Hid (Try.prog.underlying 85 = _) := Try.underlying85
  have hz : Hid (w.heap.size ≤ (w.alloc (.cells #[.int .i64 (i : Int)] 3)).heap.size) := bx.size
  have hbH : Hid (Below w.heap.size w (w.alloc (.cells #[.int .i64 (i : Int)] 3))) := bx
  have hzS : Hid (∀ w, (zeroValue 85).run Try.prog w = .ok (.agg (boolRow 256 fun _ => false)) w) := zeroSt
  have cL : ∀ (f : Nat → Bool) wx, Calls Try.prog 46 #[.agg (boolRow 256 f)] wx fun e w' => ∃ va vc, e = .returned (.slice va (lst f 256).length vc) ∧ LsS wx (lst f 256) va vc w' := fun f wx => list_any f wx
  clear hl hrt bx
  go_enter Try.func24, Try.ntmps24
  go_wp2_with (first
    | (go_at_call 42; (refine c1.mono ?_); rintro e w1 ⟨ca, cc, da, dc, rfl, oc', oe', hb'⟩; (have rB : Hid (RelB w _ l la lc w1.heap.size ca cc da dc) := relB_new hz.out oc' oe' (bthen hbH.out hb')); clear oc' oe' hb' c1)
    | (refine wpList_store_new rfl 78 _ _ rfl rfl _ _ rfl (by kernel_rfl) rfl (one3 _ _ _ _ _ _ _ _ _) ?_)
    | (refine wpList_alloc_big rfl 85 rfl hzS.out ?_))
  obtain ⟨W1, hW1⟩ : ∃ W1, w1.alloc (.cells #[.slice la l.length lc, .slice ca l.length cc, .slice da (rel (evf l) l.length).2.length dc] 78) = W1 := ⟨_, rfl⟩
  have hs1 : w1.heap.size + 1 = W1.heap.size := by rw [← hW1, World.size_alloc]
  rw [hW1] at rB ⊢
  have sB0 : Hid (SetB W1 (W1.alloc (.cells (boolRow 256 fun _ => false) 85)) (w1.heap.size + 1) (fPast l i 0)) := by
    rw [hs1]
    exact (setB_new W1).cong fun k => by simp [fPast]
  generalize W1.alloc (.cells (boolRow 256 fun _ => false) 85) = W2 at *
  generalize w1.heap.size + 1 = P at *
  generalize w1.heap.size = Rr at *
  clear hW1 hs1 hz hbH
  have hiI : (i : Int) ≤ 256 := by omega
  go_loopw [21] (fun u wr => ∃ k : Nat, k ≤ i ∧ u = .int .i64 k ∧ Hid (SetB W1 wr P (fPast l i k))) (fun u _ => i - (intOf u).toNat)
  case atStart => exact ⟨0, Nat.zero_le _, rfl, sB0⟩
  case round =>
    obtain ⟨k, hk, rfl, hs⟩ := hrel
    clear sB0
    by_cases hlt : k < i
    · have hkI : (k : Int) < i := by omega
      obtain ⟨R, hR⟩ : ∃ R, Hid (R = befK (rel (evf l) l.length).1 l k i) := ⟨_, rfl⟩
      have rW : Hid (RelB w wr l la lc Rr ca cc da dc) := rB.out.later hs.out.b
      have cP : Calls Try.prog 50 #[relV la l.length lc ca l.length cc da (rel (evf l) l.length).2.length dc, .int .i64 (k : Int), .int .i64 (i : Int)] wr fun e w' => e = .returned (.bool R) ∧ Below wr.heap.size wr w' := rW.out.before hlH.out hlen hrtH.out (by omega) hi R hR
      have xP := ix_set P k (by omega)
      have nx : Hid (∀ W', Below wr.heap.size wr W' → SetB W1 (W'.setCell ⟨P, k, none⟩ (.bool R)) P (fPast l i (k + 1))) := fun W' hb => ((hs.out.later hb).put k R).cong fun a => by rw [← fPast_more, hR.out]
      have cl : Hid (∀ W', Below wr.heap.size wr W' → W'.cell? ⟨P, k, none⟩ = some (.bool (fPast l i k k)) ∧ W'.frozen? ⟨P, k, none⟩ = false) := fun W' hb => (hs.out.later hb).cell (by omega)
      clear hs hR
      go_wp2_with (first
        | (refine wpList_load_g rfl 78 _ rfl Rr 0 rfl _ _ rW.out.range huR.out rfl (infoR3 _ _ _ _ _ _ _ _ _) ?_)
        | (go_at_call 50; (refine cP.mono ?_); rintro e w2 ⟨rfl, hb2⟩; (have hcl : Hid (w2.cell? ⟨P, k, none⟩ = some (.bool (fPast l i k k)) ∧ w2.frozen? ⟨P, k, none⟩ = false) := cl.out w2 hb2); (have hnx : Hid (SetB W1 (w2.setCell ⟨P, k, none⟩ (.bool R)) P (fPast l i (k + 1))) := nx.out w2 hb2); clear hb2 cP cl nx)
        | (refine wpList_putb rfl 4 _ _ rfl ⟨P, k, none⟩ rfl R rfl (by kernel_rfl) _ hcl.out.1 hcl.out.2 ?_; intro W3 hW3; (have s3 : Hid (SetB W1 W3 P (fPast l i (k + 1))) := by (rw [hW3]; exact hnx.out)); clear hW3 hnx hcl))
      go_roundw
      case rel => exact ⟨k + 1, by omega, by go_num, s3⟩
      case measure => simp [intOf]; omega
    · have hk2 : k = i := by omega
      subst hk2
      go_wp2_with (first
        | (refine wpList_load_row rfl 85 _ rfl P rfl _ _ _ _ hs.out.s huS.out rfl (infoSt _) ?_)
        | (go_at_call 46; (refine (cL _ _).mono ?_); rintro e w5 ⟨va, vc, rfl, h5⟩; (have h5H : Hid (LsS wr (lst (fPast l k k) 256) va vc w5) := h5); clear h5))
      go_ret2
      exact ⟨va, vc, rfl, bthen rB.out.b (bthen hs.out.b h5H.out.be), own_mono_q h5H.out.ow (bthen rB.out.b hs.out.b).size⟩
end Go.Proofs.Ytkhhkgfaakgdfaa.pg
/- Lasts: package order's, and the document's own. -/
namespace Go.Proofs.Ytkhhkgfaakgdfaa.pg
open Go.ChangeShapes Go.WideShapes Go.ChangeAt Go.RowKit Go.Shelf
set_option linter.unusedVariables false
set_option linter.unusedSimpArgs false
set_option maxRecDepth 100000
attribute [local go_sem ↓] Go.wp_at_zero Go.wp_at_succ
def fAll (k a : Nat) : Bool := decide (a < k)
theorem fAll_more (k a : Nat) : (if a = k then true else fAll k a) = fAll (k + 1) a := by
  unfold fAll
  by_cases h : a = k
  · subst h; simp
  · rw [if_neg h, decide_eq_decide]; omega
def fLast (n : Nat) (E : List (Nat × Nat)) (a : Nat) : Bool := decide (a < n) && !E.any (fun p => p.1 == a)
theorem fLast_more (n : Nat) (E : List (Nat × Nat)) (p : Nat × Nat) (a : Nat) : (if a = p.1 then false else fLast n E a) = fLast n (E ++ [p]) a := by
  unfold fLast
  rw [List.any_append]
  by_cases h : a = p.1
  · subst h; simp
  · have : (p.1 == a) = false := by rw [beq_eq_false_iff_ne]; exact fun q => h q.symm
    simp [h, this]
theorem fLast_nil (n a : Nat) : fAll n a = fLast n [] a := by simp [fAll, fLast]
set_option maxHeartbeats 1000000 in
theorem lasts_bad (l : List Ev) (la : Option Addr) (lc : Nat) (w : World) (hl : Rows w 26 la lc (l.map Ev.cells)) (c : Int) (hc : checkP l c) (h0 : c = 2 ∨ c = 7) :
    Calls Try.prog 13 #[.slice la l.length lc] w fun e w' => e = .returned (.tuple #[.slice none 0 0, .int .i64 c]) ∧ Below w.heap.size w w' := by
  have c1 := look_bad l la lc (.slice none 0 0) w hl c hc h0
  clear hl hc
  rcases h0 with rfl | rfl
  all_goals
    go_enter Try.func13, Try.ntmps13
    go_wp2_with (first
      | (go_at_call 42; (with_reducible refine c1.mono ?_); rintro e w1 ⟨rfl, hb'⟩; (have hb : Hid (Below w.heap.size w w1) := hb'); clear hb' c1)
      | (refine wpList_store_new rfl 78 _ _ rfl rfl _ _ rfl (by kernel_rfl) rfl (one3 _ _ _ _ _ _ _ _ _) ?_))
    go_ret2
    exact ⟨rfl, bthen hb.out (boxed _ _)⟩
set_option maxHeartbeats 2000000 in
theorem lasts_ok (l : List Ev) (la : Option Addr) (lc : Nat) (w : World) (hl : Rows w 26 la lc (l.map Ev.cells)) (hlen : l.length ≤ 256) (hrt : ∀ x ∈ l, rightP x) :
    Calls Try.prog 13 #[.slice la l.length lc] w fun e w' => ∃ va vc, e = .returned (.tuple #[.slice va (lst (fLast l.length (rel (evf l) l.length).2) 256).length vc, .int .i64 0]) ∧ LsS w (lst (fLast l.length (rel (evf l) l.length).2) 256) va vc w' := by
  have c1 : Calls Try.prog 42 #[.slice la l.length lc, .slice none 0 0] w (LookPost l la lc w) := look_any l la lc [] none 0 w hl (rows_nil1 w) hlen hrt (by simp) (by simp)
  have hlI : (l.length : Int) ≤ 256 := by omega
  have huS : Hid (Try.prog.underlying 85 = _) := Try.underlying85
  have hzS : Hid (∀ w, (zeroValue 85).run Try.prog w = .ok (.agg (boolRow 256 fun _ => false)) w) := zeroSt
  have cL : ∀ (f : Nat → Bool) wx, Calls Try.prog 46 #[.agg (boolRow 256 f)] wx fun e w' => ∃ va vc, e = .returned (.slice va (lst f 256).length vc) ∧ LsS wx (lst f 256) va vc w' := fun f wx => list_any f wx
  have hEl : Hid ((rel (evf l) l.length).2.length ≤ 65536) := by show _ ≤ _; have := rel_edges (evf l) l.length hlen; omega
  have hpr : Hid (∀ p ∈ (rel (evf l) l.length).2, p.1 < p.2 ∧ p.2 < l.length) := rel_pairs (evf l) l.length
  clear hl hrt
  go_enter Try.func13, Try.ntmps13
  go_wp2_with (first
    | (go_at_call 42; (refine c1.mono ?_); rintro e w1 ⟨ca, cc, da, dc, rfl, oc', oe', hb'⟩; (have rB : Hid (RelB w _ l la lc w1.heap.size ca cc da dc) := relB_new (Nat.le_refl _) oc' oe' hb'); clear oc' oe' hb' c1)
    | (refine wpList_store_new rfl 78 _ _ rfl rfl _ _ rfl (by kernel_rfl) rfl (one3 _ _ _ _ _ _ _ _ _) ?_)
    | (refine wpList_alloc_big rfl 85 rfl hzS.out ?_))
  obtain ⟨W1, hW1⟩ : ∃ W1, w1.alloc (.cells #[.slice la l.length lc, .slice ca l.length cc, .slice da (rel (evf l) l.length).2.length dc] 78) = W1 := ⟨_, rfl⟩
  have hs1 : w1.heap.size + 1 = W1.heap.size := by rw [← hW1, World.size_alloc]
  rw [hW1] at rB ⊢
  have sB0 : Hid (SetB W1 (W1.alloc (.cells (boolRow 256 fun _ => false) 85)) (w1.heap.size + 1) (fAll 0)) := by
    rw [hs1]
    exact (setB_new W1).cong fun k => by simp [fAll]
  generalize W1.alloc (.cells (boolRow 256 fun _ => false) 85) = W2 at *
  generalize w1.heap.size + 1 = P at *
  generalize w1.heap.size = Rr at *
  generalize hEE : (rel (evf l) l.length).2 = E at *
  have hEEH : Hid ((rel (evf l) l.length).2 = E) := hEE
  clear hW1 hs1 hEE
  go_loopw [20] (fun u wr => ∃ k : Nat, k ≤ l.length ∧ u = .int .i64 k ∧ Hid (SetB W1 wr P (fAll k))) (fun u _ => l.length - (intOf u).toNat)
  case atStart => exact ⟨0, Nat.zero_le _, rfl, sB0⟩
  case round =>
    obtain ⟨k, hk, rfl, hs⟩ := hrel
    clear sB0
    by_cases hlt : k < l.length
    · have hkI : (k : Int) < l.length := by omega
      have xP := ix_set P k (by omega)
      have hcl : Hid (wr.cell? ⟨P, k, none⟩ = some (.bool (fAll k k)) ∧ wr.frozen? ⟨P, k, none⟩ = false) := hs.out.cell (by omega)
      have hnx : Hid (SetB W1 (wr.setCell ⟨P, k, none⟩ (.bool true)) P (fAll (k + 1))) := (hs.out.put k true).cong fun a => fAll_more k a
      clear hs
      go_wp2_with (first
        | (refine wpList_putb rfl 4 _ _ rfl ⟨P, k, none⟩ rfl true rfl (by kernel_rfl) _ hcl.out.1 hcl.out.2 ?_; intro W3 hW3; (have s3 : Hid (SetB W1 W3 P (fAll (k + 1))) := by (rw [hW3]; exact hnx.out)); clear hW3 hnx hcl))
      go_roundw
      case rel => exact ⟨k + 1, by omega, by go_num, s3⟩
      case measure => simp [intOf]; omega
    · have hk2 : k = l.length := by omega
      subst hk2
      clear hlt hk
      have t0 : Hid (SetB W1 wr P (fLast l.length (E.take 0))) := hs.out.cong fun a => fLast_nil l.length a
      have rW : Hid (RelB w wr l la lc Rr ca cc da dc) := rB.out.later hs.out.b
      have hx2 := cell_of (k := 2) (v := .slice da E.length dc) rW.out.r (by rw [hEEH.out]; rfl)
      have hEI : (E.length : Int) ≤ 65536 := by have := hEl.out; omega
      clear hs
      go_wp2_with fail
      clear hx2
      go_loopw [29] (fun u wq => ∃ k : Nat, k ≤ E.length ∧ u = .int .i64 k ∧ Hid (SetB W1 wq P (fLast l.length (E.take k)))) (fun u _ => E.length - (intOf u).toNat)
      case atStart => exact ⟨0, Nat.zero_le _, rfl, t0⟩
      case round =>
        rename World => wq
        obtain ⟨k, hk, rfl, hs⟩ := hrel
        clear t0
        by_cases hlt : k < E.length
        · have hkI : (k : Int) < E.length := by omega
          obtain ⟨p, hp, hpm⟩ := get_lt E k hlt
          obtain ⟨p1, p2⟩ := hpr.out p hpm
          have rQ := (rB.out.later hs.out.b).e
          rw [hEEH.out] at rQ
          have hr : Rows wq 2 da dc (E.map edg) := own_rows rQ fun row hm => by rw [List.mem_map] at hm; obtain ⟨y, _, rfl⟩ := hm; rfl
          obtain ⟨b, o, hix, hbl, hrg⟩ := hr.ix 27 41 Try.underlying27 (by kernel_rfl) (fun wx => Try.sizeOf41 wx) k (row := edg p) (by simp [hp])
          rw [List.length_map] at hix
          have hrH : Hid (wq.rangeAt b o (edg p)) := hrg
          have huP : Hid (Try.prog.underlying 41 = _) := Try.underlying41
          have hiP : Hid ((Try.prog.info? 41).map (·.size) = some 2) := by show _ = _; kernel_rfl
          have hbx := boxed wq (.cells (edg p).toArray 41)
          have hnew := heap_alloc_new wq (.cells (edg p).toArray 41)
          have hsA := hs.out.later hbx
          have hcl : Hid ((wq.alloc (.cells (edg p).toArray 41)).cell? ⟨P, p.1, none⟩ = some (.bool (fLast l.length (E.take k) p.1)) ∧ (wq.alloc (.cells (edg p).toArray 41)).frozen? ⟨P, p.1, none⟩ = false) := hsA.cell (by omega)
          have hnx : Hid (SetB W1 ((wq.alloc (.cells (edg p).toArray 41)).setCell ⟨P, p.1, none⟩ (.bool false)) P (fLast l.length (E.take (k + 1)))) := by
            rw [take_one E k p hp]
            exact (hsA.put p.1 false).cong fun a => fLast_more l.length (E.take k) p a
          have hc0 : Hid ((wq.alloc (.cells (edg p).toArray 41)).cell? ⟨wq.heap.size, 0, none⟩ = some (.int .i64 (p.1 : Int))) := cell_of hnew rfl
          have xP := ix_set P p.1 (by omega)
          have y0 : ∀ wx, (Instr.indexAt 41 (.pointer (some ⟨wq.heap.size, 0, none⟩)) (.int .i64 0)).run Try.prog wx = .ok (.pointer (some ⟨wq.heap.size, 0, none⟩)) wx := fun wx => by (have u := Try.underlying41; have z := Try.sizeOf3; simp [Instr.indexAt, run_underlying u, asIntOf, go_sem, z])
          clear hr hrg hs hbx hnew hsA rQ hp hpm hbl
          go_wp2_with (first
            | (refine wpList_load_mid rfl 41 _ rfl b o rfl (edg p) _ hrH.out huP.out rfl hiP.out ?_)
            | (refine wpList_store_new rfl 41 _ _ rfl rfl _ (edg p).toArray rfl (by kernel_rfl) rfl (by simp [edg, Value.oneCell']) ?_; (have hc0' := hc0.out))
            | (refine wpList_putb rfl 4 _ _ rfl ⟨P, p.1, none⟩ rfl false rfl (by kernel_rfl) _ hcl.out.1 hcl.out.2 ?_; intro W3 hW3; (have s3 : Hid (SetB W1 W3 P (fLast l.length (E.take (k + 1)))) := by (rw [hW3]; exact hnx.out)); clear hW3 hnx hcl))
          go_roundw
          case rel => exact ⟨k + 1, by omega, by go_num, s3⟩
          case measure => simp [intOf]; omega
        · have hk2 : k = E.length := by omega
          subst hk2
          rw [List.take_length] at hs
          go_wp2_with (first
            | (refine wpList_load_row rfl 85 _ rfl P rfl _ _ _ _ hs.out.s huS.out rfl (infoSt _) ?_)
            | (go_at_call 46; (refine (cL _ _).mono ?_); rintro e w5 ⟨va, vc, rfl, h5⟩; (have h5H : Hid (LsS wq (lst (fLast l.length E) 256) va vc w5) := h5); clear h5))
          go_ret2
          exact ⟨va, vc, by rw [hEEH.out]; rfl, bthen rB.out.b (bthen hs.out.b h5H.out.be), by rw [hEEH.out]; exact own_mono_q h5H.out.ow (bthen rB.out.b hs.out.b).size⟩
/-- Whether nothing comes behind. -/
def lastB (B : Nat → Nat → Bool) (i : Nat) : Nat → Bool
  | 0 => true
  | k + 1 => lastB B i k && !B i k
theorem lastB_iff (B : Nat → Nat → Bool) (i : Nat) : ∀ k, lastB B i k = true ↔ ∀ j, j < k → B i j = false
  | 0 => by simp [lastB]
  | k + 1 => by
    rw [lastB, Bool.and_eq_true, lastB_iff B i k, Bool.not_eq_true']
    constructor
    · rintro ⟨h1, h2⟩ j hj
      by_cases e : j = k
      · rw [e]; exact h2
      · exact h1 j (by omega)
    · intro h
      exact ⟨fun j hj => h j (by omega), h k (by omega)⟩
theorem lasts_same {l : List Ev} (hlen : l.length ≤ 256) (hrt : ∀ x ∈ l, rightP x) {B : Nat → Nat → Bool} (hB : Tells (dpf l) B) : lst (fLast l.length (rel (evf l) l.length).2) 256 = lst (fun i => lastB B i l.length) l.length := by
  rw [lst_cut 256 hlen fun k h1 _ => by unfold fLast; have : decide (k < l.length) = false := by simp; omega
                                        rw [this, Bool.false_and]]
  refine lst_congr _ fun k hk => ?_
  rw [Bool.eq_iff_iff, lastB_iff]
  unfold fLast
  have hd : decide (k < l.length) = true := by simpa using hk
  rw [hd, Bool.true_and, Bool.not_eq_true', List.any_eq_false]
  constructor
  · intro h j hj
    rw [Bool.eq_false_iff]
    intro q
    obtain ⟨m, m1, m2⟩ := edge_first hB ((hB k j).mp q)
    have hkm := ((edgeB_iff _ _ _ _).mp m1).1
    have hmj : m ≤ j := by
      rcases m2 with rfl | m2
      · exact Nat.le_refl _
      · have := m2.lt; omega
    exact h (k, m) ((edges_mem hrt hB (k, m)).mpr ⟨hkm, by show m < l.length; omega, m1⟩) (by simp)
  · intro h p hp q
    obtain ⟨h1, h2, h3⟩ := (edges_mem hrt hB p).mp hp
    have h4 := h p.2 h2
    have h5 := (hB p.1 p.2).mpr (edgeB_hb hB h3)
    rw [beq_iff_eq] at q
    rw [q, h4] at h5
    cases h5
set_option maxHeartbeats 2000000 in
theorem rlasts_any (l : List Ev) (la : Option Addr) (lc : Nat) (w : World) (hl : Rows w 26 la lc (l.map Ev.cells)) (hlen : l.length ≤ 256) (B : Nat → Nat → Bool) (hB : Tells (dpf l) B) :
    Calls Try.prog 20 #[.slice la l.length lc] w fun e w' => ∃ va vc, e = .returned (.slice va (lst (fun i => lastB B i l.length) l.length).length vc) ∧ Rows w' 1 va vc ((lst (fun i => lastB B i l.length) l.length).map chCells) ∧ Below w.heap.size w w' := by
  have cM := rbef_any l la lc w hl hlen B hB
  have hlI : (l.length : Int) ≤ 256 := by omega
  obtain ⟨iN, hiN, hzN, hsN, hbN⟩ := info_q infoN_u
  obtain ⟨f, hf⟩ : ∃ f : Nat → Bool, f = fun i => lastB B i l.length := ⟨_, rfl⟩
  have hfH : Hid (∀ i, lastB B i l.length = f i) := fun i => by rw [hf]
  rw [← hf]
  clear hl hB hf
  go_enter Try.func20, Try.ntmps20
  go_wp2_with (first
    | (go_at_call 26; (with_reducible refine cM.mono ?_); rintro e w1 ⟨A, rb, rfl, hm'⟩; (have hm : Hid (RbS w w1 A l.length l.length rb B) := hm'); clear hm' cM))
  have s0 : Hid (LsS w1 (lst f 0) none 0 w1) := ⟨Below.refl _ _, own_nil_q _ _ _ _⟩
  go_loopw [4, 5] (fun o u wr => ∃ (i : Nat) (va : Option Addr) (vc : Nat), i ≤ l.length ∧ u = .int .i64 i ∧ o = .slice va (lst f i).length vc ∧ Hid (LsS w1 (lst f i) va vc wr)) (fun _ u _ => l.length - (intOf u).toNat)
  case atStart => exact ⟨0, none, 0, Nat.zero_le _, rfl, rfl, s0⟩
  case round =>
    obtain ⟨i, va, vc, hi, rfl, rfl, hs⟩ := hrel
    clear s0
    by_cases hlt : i < l.length
    · have hiI : (i : Int) < l.length := by omega
      have hmW : Hid (Mat wr w.heap.size A l.length l.length rb B) := hm.out.m.later hs.out.be
      have xA := ix_row A l.length i hlt
      have rA := hmW.out.row hlt hlt
      have hl0 : lastB B i 0 = true := rfl
      have hll := lst_len f i
      go_wp2_with fail
      go_loopw [6, 7] (fun o u wq => ∃ k : Nat, k ≤ l.length ∧ u = .int .i64 k ∧ o = .bool (lastB B i k) ∧ wq = wr) (fun _ u _ => l.length - (intOf u).toNat)
      case atStart => exact ⟨0, Nat.zero_le _, rfl, by rw [hl0], rfl⟩
      case round =>
        obtain ⟨k, hk, rfl, rfl, rfl⟩ := hrel
        by_cases hkn : k < l.length
        · have hkI : (k : Int) < l.length := by omega
          have xR := ix_bool (rb i) l.length k hkn
          have cR := (hmW.out.cell (i := i) (j := k) hlt hkn).1
          have hmore : Hid (lastB B i (k + 1) = (lastB B i k && !B i k)) := rfl
          obtain ⟨P, hP⟩ : ∃ P, lastB B i k = P := ⟨_, rfl⟩
          obtain ⟨Q, hQ⟩ : ∃ Q, B i k = Q := ⟨_, rfl⟩
          rw [hP, hQ] at hmore
          rw [hQ] at cR
          rw [hP]
          clear hP hQ hl0
          cases P with
          | false =>
            go_wp2
            go_roundw
            case rel => exact ⟨k + 1, by omega, by go_num, by rw [hmore.out]; rfl, trivial⟩
            case measure => simp [intOf]; omega
          | true =>
            go_wp2
            go_roundw
            case rel => exact ⟨k + 1, by omega, by go_num, by rw [hmore.out]; simp, trivial⟩
            case measure => simp [intOf]; omega
        · have hk2 : k = l.length := by omega
          subst hk2
          rw [hfH.out i]
          have hmore : Hid (lst f (i + 1) = lst f i ++ (if f i = true then [(i : Int)] else [])) := rfl
          clear xA rA
          obtain ⟨b, hb⟩ : ∃ b, f i = b := ⟨_, rfl⟩
          rw [hb]
          cases b with
          | true =>
            have hN : Hid (lst f (i + 1) = lst f i ++ [(i : Int)]) := by show _ = _; rw [hmore.out, if_pos hb]
            clear hmore hb
            generalize lst f i = L at *
            go_wp2_with (first
              | (at_builtin; (refine wpList_app1 rfl (.tmp 34) (.tmp 36) 30 rfl w1.heap.size 3 iN _ 1 8 Try.underlying30 hiN hzN hsN hbN rfl (by decide) va vc (L.map chCells) (by rw [List.length_map]; rfl) hs.out.ow (chCells (i : Int)) rfl rfl (one1u _) (by rw [List.length_map]; unfold maxLen; omega) (by rw [List.length_map]; omega) hs.out.be.size ?_); intro va' vc' w2 hg; rw [List.length_map]; (have hg2 : Hid (LsS w1 (L ++ [(i : Int)]) va' vc' w2) := hs.out.grown hg); clear hg))
            go_roundw
            case rel => exact ⟨i + 1, va', vc', by omega, by go_num, by rw [hN.out, List.length_append]; rfl, by rw [hN.out]; exact hg2⟩
            case measure => simp [intOf]; omega
          | false =>
            have hN : Hid (lst f (i + 1) = lst f i) := by show _ = _; rw [hmore.out, if_neg (by rw [hb]; exact Bool.false_ne_true), List.append_nil]
            clear hmore hb
            go_wp2
            go_roundw
            case rel => exact ⟨i + 1, va, vc, by omega, by go_num, by rw [hN.out], by rw [hN.out]; exact hs⟩
            case measure => simp [intOf]; omega
    · have hi2 : i = l.length := by omega
      subst hi2
      go_wp2
      go_ret
      exact ⟨va, vc, rfl, hs.out.rows, bthen hm.out.b hs.out.be⟩
end Go.Proofs.Ytkhhkgfaakgdfaa.pg
