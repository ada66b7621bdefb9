/- Orders that keep what happens before what, by the document. -/
import Derived.Test.YtkadlopcomjonaaDoorM33
namespace Go.Proofs.YtkadlopcomjonaaDoor.pg
open Go.ChangeShapes Go.WideShapes Go.ChangeAt Go.RowKit Go.Shelf
set_option linter.unusedVariables false
set_option linter.unusedSimpArgs false
set_option maxRecDepth 100000
/-- Where each stands, so far. -/
def atM (n : Nat) (ps : List Int) : Nat → List Int
  | 0 => List.replicate n (-1)
  | k + 1 => (atM n ps k).set (ps.getD k 0).toNat (k : Int)
theorem atM_len (n : Nat) (ps : List Int) : ∀ k, (atM n ps k).length = n
  | 0 => by simp [atM]
  | k + 1 => by simp [atM, atM_len n ps k]
theorem atM_more {n : Nat} {ps : List Int} {k a : Nat} (h : ps[k]? = some (a : Int)) : (atM n ps k).set a (k : Int) = atM n ps (k + 1) := by
  show _ = (atM n ps k).set (ps.getD k 0).toNat (k : Int)
  rw [List.getD_eq_getElem?_getD, h]
  rfl
/-- A place that is none, or that came before. -/
def badM (n : Nat) (ps : List Int) (k : Nat) : Prop := ∃ x, ps[k]? = some x ∧ (x < 0 ∨ (n : Int) ≤ x ∨ 0 ≤ (atM n ps k).getD x.toNat 0)
def keepM (n : Nat) (B : Nat → Nat → Bool) (ps : List Int) : Prop := (∀ k, ¬ badM n ps k) ∧ ∀ i j, i < n → j < n → i < j → B i j = true → (atM n ps ps.length).getD i 0 ≤ (atM n ps ps.length).getD j 0
/-- A list of numbers at a block. -/
structure NsM (w : World) (A : Nat) (s : List Int) (wr : World) : Prop where
  h : wr.heap[A]? = some (.cells (s.map fun x => Value.int .i64 x).toArray 3)
  b : Below w.heap.size w wr
  lo : w.heap.size ≤ A
theorem NsM.later {w wr w' : World} {A : Nat} {s : List Int} (h : NsM w A s wr) (hb : Below wr.heap.size wr w') : NsM w A s w' :=
  ⟨(hb.block _ (Array.getElem?_eq_some_iff.mp h.h).1).trans h.h, bthen h.b hb, h.lo⟩
theorem NsM.cell {w wr : World} {A : Nat} {s : List Int} (h : NsM w A s wr) {a : Nat} (ha : a < s.length) : wr.cell? ⟨A, a, none⟩ = some (.int .i64 (s.getD a 0)) ∧ wr.frozen? ⟨A, a, none⟩ = false := by
  refine ⟨?_, frozen_of_row _ _ _ _ _ h.h⟩
  rw [cell_of_row wr A a _ _ _ h.h]
  simp [List.getElem?_eq_getElem ha]
theorem NsM.set {w wr : World} {A : Nat} {s : List Int} (h : NsM w A s wr) (a : Nat) (v : Int) : NsM w A (s.set a v) (wr.setCell ⟨A, a, none⟩ (.int .i64 v)) := by
  refine ⟨?_, h.b.setCell (p := ⟨A, a, none⟩) h.lo _, h.lo⟩
  rw [setCell_eq_setRow wr A a _ _ _ _ h.h, setRow_heap wr A _ _ _ _ h.h]
  rw [List.setIfInBounds_toArray, List.map_set]
theorem rep_set {n k : Nat} (h : k < n) : (List.replicate k (-1 : Int) ++ List.replicate (n - k) 0).set k (-1) = List.replicate (k + 1) (-1) ++ List.replicate (n - (k + 1)) 0 := by
  obtain ⟨m, hm⟩ : ∃ m, n - k = m + 1 := ⟨n - k - 1, by omega⟩
  rw [List.set_append, if_neg (by simp), List.length_replicate, Nat.sub_self, hm, show n - (k + 1) = m by omega, List.replicate_succ, List.set_cons_zero, List.replicate_succ']
  simp
end Go.Proofs.YtkadlopcomjonaaDoor.pg
/- The canonical order, by the document. -/
namespace Go.Proofs.YtkadlopcomjonaaDoor.pg
open Go.ChangeShapes Go.WideShapes Go.ChangeAt Go.RowKit Go.Shelf
set_option linter.unusedVariables false
set_option linter.unusedSimpArgs false
set_option maxRecDepth 100000
/-- The best of the first m places that may come next, or none. -/
def BestM (B : Nat → Nat → Bool) (g : Nat → Nat) (S : Nat → Bool) (m : Nat) (p : Int) : Prop :=
  (p = -1 ∧ ∀ k, k < m → freeB B S k = false) ∨ ∃ i : Nat, p = (i : Int) ∧ i < m ∧ freeB B S i = true ∧ (∀ k, k < m → freeB B S k = true → g i ≤ g k) ∧ ∀ k, k < m → freeB B S k = true → g k = g i → i ≤ k
theorem BestM.zero (B : Nat → Nat → Bool) (g : Nat → Nat) (S : Nat → Bool) : BestM B g S 0 (-1) := .inl ⟨rfl, fun k hk => by omega⟩
theorem BestM.same {B : Nat → Nat → Bool} {g : Nat → Nat} {S : Nat → Bool} {m : Nat} {p : Int} (h : BestM B g S m p) (hf : freeB B S m = false) : BestM B g S (m + 1) p := by
  rcases h with ⟨h1, h2⟩ | ⟨i, h1, h2, h3, h4, h5⟩
  · refine .inl ⟨h1, fun k hk => ?_⟩
    by_cases e : k = m
    · rw [e]; exact hf
    · exact h2 k (by omega)
  · refine .inr ⟨i, h1, by omega, h3, fun k hk hq => ?_, fun k hk hq => ?_⟩
    · by_cases e : k = m
      · rw [e, hf] at hq; cases hq
      · exact h4 k (by omega) hq
    · by_cases e : k = m
      · rw [e, hf] at hq; cases hq
      · exact h5 k (by omega) hq
theorem BestM.first {B : Nat → Nat → Bool} {g : Nat → Nat} {S : Nat → Bool} {m : Nat} (h : BestM B g S m (-1)) (hf : freeB B S m = true) : BestM B g S (m + 1) (m : Int) := by
  rcases h with ⟨h1, h2⟩ | ⟨i, h1, _⟩
  · refine .inr ⟨m, rfl, by omega, hf, fun k hk hq => ?_, fun k hk hq _ => ?_⟩
    · by_cases e : k = m
      · rw [e]; exact Nat.le_refl _
      · rw [h2 k (by omega)] at hq; cases hq
    · by_cases e : k = m
      · omega
      · rw [h2 k (by omega)] at hq; cases hq
  · omega
theorem BestM.less {B : Nat → Nat → Bool} {g : Nat → Nat} {S : Nat → Bool} {m i : Nat} (h : BestM B g S m (i : Int)) (hf : freeB B S m = true) (hg : g m < g i) : BestM B g S (m + 1) (m : Int) := by
  rcases h with ⟨h1, _⟩ | ⟨j, h1, h2, h3, h4, h5⟩
  · omega
  · have : i = j := by omega
    subst this
    refine .inr ⟨m, rfl, by omega, hf, fun k hk hq => ?_, fun k hk hq he => ?_⟩
    · by_cases e : k = m
      · rw [e]; exact Nat.le_refl _
      · have := h4 k (by omega) hq; omega
    · by_cases e : k = m
      · omega
      · have := h4 k (by omega) hq; omega
theorem BestM.keep {B : Nat → Nat → Bool} {g : Nat → Nat} {S : Nat → Bool} {m i : Nat} (h : BestM B g S m (i : Int)) (hg : ¬ g m < g i) : BestM B g S (m + 1) (i : Int) := by
  rcases h with ⟨h1, _⟩ | ⟨j, h1, h2, h3, h4, h5⟩
  · omega
  · have : i = j := by omega
    subst this
    refine .inr ⟨i, rfl, by omega, h3, fun k hk hq => ?_, fun k hk hq he => ?_⟩
    · by_cases e : k = m
      · rw [e]; omega
      · exact h4 k (by omega) hq
    · by_cases e : k = m
      · omega
      · exact h5 k (by omega) hq he
theorem memS_full : ∀ (n : Nat) (L : List Nat), (∀ x, x < n → x ∈ L) → n ≤ L.length
  | 0, _, _ => Nat.zero_le _
  | n + 1, L, h => by
    have hn := h n (by omega)
    have ih := memS_full n (L.erase n) fun x hx => (List.mem_erase_of_ne (by omega)).mpr (h x (by omega))
    rw [List.length_erase_of_mem hn] at ih
    have := List.length_pos_of_mem hn
    omega
/-- What stands fast while the order grows. -/
structure FX (w : World) (n A Pb base : Nat) (rb : Nat → Nat) : Prop where
  a : A < base
  p : Pb < base
  r : ∀ i, i < n → rb i < base
  pa : Pb ≠ A
  pr : ∀ i, i < n → Pb ≠ rb i
  wp : w.heap.size ≤ Pb
/-- How all lies while the order grows: S is placed, L is out. -/
structure OS (w : World) (n A Pb base lo : Nat) (rb : Nat → Nat) (B : Nat → Nat → Bool) (S : Nat → Bool) (L : List Int) (va : Option Addr) (vc : Nat) (wr : World) : Prop where
  m : Mat wr lo A n n rb B
  p : wr.heap[Pb]? = some (objBl n S)
  o : OwnL wr base 3 1 va vc (L.map chCells)
  b : Below w.heap.size w wr
  bs : base ≤ wr.heap.size
section
variable {w : World} {n A Pb base lo : Nat} {rb : Nat → Nat} {B : Nat → Nat → Bool} {S : Nat → Bool} {L : List Int} {va : Option Addr} {vc : Nat} {wr : World}
theorem OS.later {w' : World} (h : OS w n A Pb base lo rb B S L va vc wr) (hb : Below wr.heap.size wr w') : OS w n A Pb base lo rb B S L va vc w' :=
  ⟨h.m.later hb, (hb.block _ (Array.getElem?_eq_some_iff.mp h.p).1).trans h.p, own_keep h.o fun b hb' => hb.block b (blk_lt h.o b hb').2, bthen h.b hb, Nat.le_trans h.bs hb.size⟩
theorem OS.mark (hf : FX w n A Pb base rb) (h : OS w n A Pb base lo rb B S L va vc wr) (i : Nat) : OS w n A Pb base lo rb B (insS S i) L va vc (wr.setCell ⟨Pb, i, none⟩ (.bool true)) :=
  ⟨h.m.keep fun b hb => Below.heap_setCell _ _ _ _ (by
    rcases hb with rfl | ⟨j, hj, rfl⟩
    · exact hf.pa.symm
    · exact (hf.pr j hj).symm), bl_ins h.p, own_keep h.o fun b hb' => Below.heap_setCell _ _ _ _ (by
      have h1 := (blk_lt h.o b hb').1
      have h2 := hf.p
      show b ≠ Pb
      omega), h.b.setCell (p := ⟨Pb, i, none⟩) hf.wp _, by rw [World.size_setCell]; exact h.bs⟩
theorem OS.grown {x : Int} {va' : Option Addr} {vc' : Nat} {w' : World} (hf : FX w n A Pb base rb) (h : OS w n A Pb base lo rb B S L va vc wr) (hg : Grown wr base 3 1 va (L.map chCells) (chCells x) va' vc' w') : OS w n A Pb base lo rb B S (L ++ [x]) va' vc' w' := by
  have hb := hg.be
  rw [Nat.min_eq_left h.bs] at hb
  refine ⟨h.m.keep fun b hb' => ?_, (hb.block _ hf.p).trans h.p, by rw [List.map_append]; exact hg.ow, h.b.trans (hb.mono (Nat.le_trans hf.wp (Nat.le_of_lt hf.p))), Nat.le_trans h.bs hb.size⟩
  rcases hb' with rfl | ⟨j, hj, rfl⟩
  · exact hb.block _ hf.a
  · exact hb.block _ (hf.r j hj)
end
theorem gof_less {l : List Ev} (hrt : ∀ x ∈ l, rightP x) {i j : Nat} (hi : i < l.length) (hj : j < l.length) : (evf l i).go < (evf l j).go ↔ gof l i < gof l j := by
  have h1 := (hrt _ (List.mem_of_getElem? (evf_at hi))).1.1
  have h2 := (hrt _ (List.mem_of_getElem? (evf_at hj))).1.1
  unfold gof
  omega
set_option maxHeartbeats 8000000 in
theorem rorder_any (l : List Ev) (la : Option Addr) (lc : Nat) (w : World) (hl : Rows w 26 la lc (l.map Ev.cells)) (hlen : l.length ≤ 256) (hrt : ∀ x ∈ l, rightP x) {B : Nat → Nat → Bool} (hB : Tells (dpf l) B) :
    Calls Tryd.prog 17 #[.slice la l.length lc] w fun e w' => ∃ (L : List Nat) (va : Option Addr) (vc : Nat), e = .returned (.slice va l.length vc) ∧ Hid (OrdL B (gof l) l.length L ∧ L.length = l.length ∧ Rows w' 1 va vc ((L.map fun x : Nat => (x : Int)).map chCells) ∧ Below w.heap.size w w') := by
  obtain ⟨iB, hiB, hzB, hsB, hbB⟩ := info_q infoBl
  obtain ⟨iN, hiN, hzN, hsN, hbN⟩ := info_q infoN_u
  have iBH : Hid (Tryd.prog.info? 4 = some iB ∧ iB.zero = some (.bool false) ∧ iB.size = 1 ∧ iB.bytes * l.length ≤ 281474976710656) := ⟨hiB, hzB, hsB, by rw [hbB]; omega⟩
  have iNH : Hid (Tryd.prog.info? 3 = some iN ∧ iN.zero = some (.int .i64 0) ∧ iN.size = 1 ∧ iN.bytes = 8) := ⟨hiN, hzN, hsN, hbN⟩
  have hlI : (l.length : Int) ≤ 256 := by omega
  have hlH : Hid (Rows w 26 la lc (l.map Ev.cells)) := hl
  have hrH : Hid (∀ x ∈ l, rightP x) := hrt
  have cB := rbef_any l la lc w hl hlen B hB
  have hBH : Hid (Tells (dpf l) B) := hB
  clear hiB hzB hsB hbB hiN hzN hsN hbN hl hrt hB
  go_enter Tryd.func17, Tryd.ntmps17
  go_wp2_with (first
    | (go_at_call 29; (refine cB.mono ?_); rintro e w1 ⟨A, rb, rfl, hR1⟩; (have hR1H : Hid (RbS w w1 A l.length l.length rb B) := hR1); clear hR1 cB)
    | (refine wpList_mk _ rfl _ _ 67 rfl 4 iB (.bool false) Tryd.underlying67 iBH.out.1 iBH.out.2.1 rfl iBH.out.2.2.1 l.length rfl rfl iBH.out.2.2.2 (by omega) ?_; intro W hwh hbW hsW))
  have hfx : Hid (FX w l.length A w1.heap.size W.heap.size rb) := by
    have h1 := hR1H.out.m.lt
    have h2 := hR1H.out.b.size
    exact ⟨by omega, by omega, fun i hi => by have := h1.2 i hi; omega, by omega, fun i hi => by have := h1.2 i hi; omega, h2⟩
  rw [boolRow_new] at hwh
  have hs0 : Hid (OS w l.length A w1.heap.size W.heap.size w.heap.size rb B (memS []) (([] : List Nat).map fun x : Nat => (x : Int)) none 0 W) := ⟨hR1H.out.m.later hbW, by rw [memS_nil]; exact hwh, own_nil_q _ _ _ _, bthen hR1H.out.b hbW, Nat.le_refl _⟩
  clear hwh hbW hsW hR1H iBH
  generalize W.heap.size = base at *
  generalize w1.heap.size = Pb at *
  obtain ⟨lo, hlo⟩ : ∃ lo, w.heap.size = lo := ⟨_, rfl⟩
  have hs0' : Hid (OS w l.length A Pb base lo rb B (memS []) (([] : List Nat).map fun x : Nat => (x : Int)) none 0 W) := by rw [← hlo]; exact hs0.out
  clear hlo hs0
  go_loopw [5] (fun v wr => ∃ (L : List Nat) (va : Option Addr) (vc : Nat), L.length ≤ l.length ∧ v = .slice va L.length vc ∧ Hid (OS w l.length A Pb base lo rb B (memS L) (L.map fun x : Nat => (x : Int)) va vc wr ∧ OrdL B (gof l) l.length L)) (fun v _ => l.length - (match v with | .slice _ n _ => n | _ => 0))
  case atStart => exact ⟨[], none, 0, Nat.zero_le _, rfl, ⟨hs0'.out, OrdL.nil _ _ _⟩⟩
  case round =>
    obtain ⟨L, va, vc, hLl, rfl, hs⟩ := hrel
    clear hs0'
    by_cases hlt : L.length < l.length
    · have hLI : (L.length : Int) < l.length := by omega
      have hor : Hid (OrdL B (gof l) l.length L) := hs.out.2
      have hs1 : Hid (OS w l.length A Pb base lo rb B (memS L) (L.map fun x : Nat => (x : Int)) va vc wr) := hs.out.1
      clear hs
      go_wp2_with fail
      go_loopw [6, 22] (fun pp kk wq => ∃ (k : Nat) (p : Int), k ≤ l.length ∧ pp = .int .i64 p ∧ kk = .int .i64 (k : Int) ∧ Hid (OS w l.length A Pb base lo rb B (memS L) (L.map fun x : Nat => (x : Int)) va vc wq ∧ BestM B (gof l) (memS L) k p)) (fun _ kk _ => l.length - (intOf kk).toNat)
      case atStart => exact ⟨0, -1, Nat.zero_le _, rfl, rfl, ⟨hs1.out, BestM.zero _ _ _⟩⟩
      case round =>
        rename World => wq
        obtain ⟨k, p, hk, rfl, rfl, hs⟩ := hrel
        clear hs1
        by_cases hkl : k < l.length
        · have hkI : (k : Int) < l.length := by omega
          have xP := ix_bool Pb l.length k hkl
          have cP := cell_ofK (k := k) hs.out.1.p (boolRow_at hkl)
          have hf0 : Hid (frT B (memS L) k 0 = !memS L k) := by show (!memS L k && true) = !memS L k; rw [Bool.and_true]
          generalize hSk : memS L k = sk at *
          clear hSk
          go_wp2_with fail
          go_loopw [8, 9] (fun f jj wz => ∃ (j : Nat) (fr : Bool), j ≤ k ∧ f = .bool fr ∧ jj = .int .i64 (j : Int) ∧ wz = wq ∧ Hid (frT B (memS L) k j = fr)) (fun _ jj _ => k - (intOf jj).toNat)
          case atStart => exact ⟨0, !sk, Nat.zero_le _, rfl, rfl, rfl, hf0⟩
          case round =>
            clear hf0
            rename World => wz
            obtain ⟨j, fr, hj, rfl, rfl, hwz, hfr⟩ := hrel
            subst hwz
            by_cases hjk : j < k
            · have hjI : (j : Int) < k := by omega
              cases fr with
              | true =>
                have xJ := ix_bool Pb l.length j (by omega)
                have cJ := cell_ofK (k := j) hs.out.1.p (boolRow_at (show j < l.length by omega))
                have xA := ix_row A l.length j (by omega)
                have cA := hs.out.1.m.row (show j < l.length by omega) (by omega)
                have xB := ix_bool (rb j) l.length k hkl
                have cB := (hs.out.1.m.cell (show j < l.length by omega) hkl).1
                have hnx : Hid (frT B (memS L) k (j + 1) = (memS L j || !B j k)) := by show _ = _; rw [frT_more, hfr.out, Bool.true_and]
                clear hfr
                generalize memS L j = sj at *
                generalize B j k = bj at *
                cases sj <;> cases bj <;>
                · go_wp2_with fail
                  go_roundw
                  case rel => exact ⟨j + 1, _, by omega, rfl, by go_num, trivial, hnx⟩
                  case measure => simp [intOf]; omega
              | false =>
                have hs2 : Hid (∀ nq, OS w l.length A Pb base lo rb B (memS L) (L.map fun x : Nat => (x : Int)) va vc (wz.drewN nq) ∧ BestM B (gof l) (memS L) (k + 1) p) := fun nq => ⟨hs.out.1.later (below_drewN (Below.refl _ _) _), hs.out.2.same (by rw [frT_all]; exact frT_no hfr.out (by omega))⟩
                clear hfr hs xP cP
                go_wp2_with fail
                go_quiet (fail)
                rename_i nq
                go_wp2
                go_roundw
                case rel => exact ⟨k + 1, p, by omega, rfl, by go_num, hs2.out nq⟩
                case measure => simp [intOf]; omega
            · have hke : j = k := by omega
              subst hke
              have hjI : ¬ ((j : Int) < j) := by omega
              cases fr with
              | false =>
                have hs2 : Hid (∀ nq, OS w l.length A Pb base lo rb B (memS L) (L.map fun x : Nat => (x : Int)) va vc (wz.drewN nq) ∧ BestM B (gof l) (memS L) (j + 1) p) := fun nq => ⟨hs.out.1.later (below_drewN (Below.refl _ _) _), hs.out.2.same (by rw [frT_all]; exact frT_no hfr.out (by omega))⟩
                clear hfr hs xP cP
                go_wp2_with fail
                go_quiet (fail)
                rename_i nq
                go_wp2
                go_roundw
                case rel => exact ⟨j + 1, p, by omega, rfl, by go_num, hs2.out nq⟩
                case measure => simp [intOf]; omega
              | true =>
                have hyes : Hid (freeB B (memS L) j = true) := hfr.out
                rcases (id hs.out.2 : BestM B (gof l) (memS L) j p) with ⟨rfl, _⟩ | ⟨i, rfl, hij, _⟩
                · have hs2 : Hid (∀ nq, OS w l.length A Pb base lo rb B (memS L) (L.map fun x : Nat => (x : Int)) va vc (wz.drewN nq) ∧ BestM B (gof l) (memS L) (j + 1) (j : Int)) := fun nq => ⟨hs.out.1.later (below_drewN (Below.refl _ _) _), hs.out.2.first hyes.out⟩
                  clear hfr hs xP cP
                  go_wp2_with fail
                  go_quiet (fail)
                  rename_i nq
                  go_wp2
                  go_roundw
                  case rel => exact ⟨j + 1, (j : Int), by omega, rfl, by go_num, hs2.out nq⟩
                  case measure => simp [intOf]; omega
                · have hil : i < l.length := by omega
                  obtain ⟨b1, o1, x1, l1, r1⟩ := evs_ix (hlH.out.later hs.out.1.b) j (evf l j) (evf_at hkl)
                  obtain ⟨b2, o2, x2, l2, r2⟩ := evs_ix (hlH.out.later hs.out.1.b) i (evf l i) (evf_at hil)
                  have c1 := r1 0 (.int .i64 (evf l j).go) rfl
                  have c2 := r2 0 (.int .i64 (evf l i).go) rfl
                  rw [Nat.add_zero] at c1 c2
                  have hi0 : ¬ ((i : Int) < 0) := by omega
                  have hcmp := gof_less hrH.out hkl hil
                  have hlt2 : Hid (∀ nq, gof l j < gof l i → OS w l.length A Pb base lo rb B (memS L) (L.map fun x : Nat => (x : Int)) va vc (wz.drewN nq) ∧ BestM B (gof l) (memS L) (j + 1) (j : Int)) := fun nq hg => ⟨hs.out.1.later (below_drewN (Below.refl _ _) _), hs.out.2.less hyes.out hg⟩
                  have hge2 : Hid (∀ nq, ¬ gof l j < gof l i → OS w l.length A Pb base lo rb B (memS L) (L.map fun x : Nat => (x : Int)) va vc (wz.drewN nq) ∧ BestM B (gof l) (memS L) (j + 1) (i : Int)) := fun nq hg => ⟨hs.out.1.later (below_drewN (Below.refl _ _) _), hs.out.2.keep hg⟩
                  clear hfr hs xP cP r1 r2
                  have hcH : Hid ((evf l j).go < (evf l i).go ↔ gof l j < gof l i) := hcmp
                  clear hcmp
                  generalize (evf l j).go = gj at *
                  generalize (evf l i).go = gi at *
                  by_cases hg : gj < gi
                  · have hgH : Hid (gof l j < gof l i) := hcH.out.mp hg
                    clear hge2 hcH
                    go_wp2_with fail
                    go_quiet (fail)
                    rename_i nq
                    go_wp2
                    go_roundw
                    case rel => exact ⟨j + 1, (j : Int), by omega, rfl, by go_num, hlt2.out nq hgH.out⟩
                    case measure => simp [intOf]; omega
                  · have hgH : Hid (¬ gof l j < gof l i) := fun q => hg (hcH.out.mpr q)
                    clear hlt2 hcH
                    go_wp2_with fail
                    go_quiet (fail)
                    rename_i nq
                    go_wp2
                    go_roundw
                    case rel => exact ⟨j + 1, (i : Int), by omega, rfl, by go_num, hge2.out nq hgH.out⟩
                    case measure => simp [intOf]; omega
        · have hke : k = l.length := by omega
          subst hke
          have hsome : ∃ x, x < l.length ∧ freeB B (memS L) x = true := free_some (by
            apply Classical.byContradiction
            intro q
            have hall : ∀ x, x < l.length → memS L x = true := fun x hx => by
              cases hm : memS L x with
              | true => rfl
              | false => exact absurd ⟨x, hx, hm⟩ q
            have := memS_full l.length L fun x hx => of_decide_eq_true (hall x hx)
            omega)
          obtain ⟨x, hp, hpk⟩ : ∃ x : Nat, p = (x : Int) ∧ Hid (Pick B (gof l) l.length (memS L) x) := by
            rcases (id hs.out.2 : BestM B (gof l) (memS L) l.length p) with ⟨_, h2⟩ | ⟨i, h1, h2, h3, h4, h5⟩
            · obtain ⟨y, hy, hf⟩ := hsome
              rw [h2 y hy] at hf
              cases hf
            · exact ⟨i, h1, ⟨h2, h3, h4, h5⟩⟩
          subst hp
          have hxl : x < l.length := hpk.out.lt
          have xP := ix_bool Pb l.length x hxl
          have cP := cell_ofK (k := x) hs.out.1.p (boolRow_at hxl)
          have fP : wq.frozen? ⟨Pb, x, none⟩ = false := frozen_of_row _ _ _ _ _ hs.out.1.p
          have hmk : Hid (OS w l.length A Pb base lo rb B (memS (L ++ [x])) (L.map fun x : Nat => (x : Int)) va vc (wq.setCell ⟨Pb, x, none⟩ (.bool true))) := by
            rw [memS_snoc]
            exact hs.out.1.mark hfx.out x
          have hLm : Hid (((L.map fun x : Nat => (x : Int)).map chCells).length = L.length) := by show _ = _; simp
          have hor2 : Hid (OrdL B (gof l) l.length (L ++ [x])) := hor.out.snoc hpk.out
          clear hs hsome
          go_wp2_with (first
            | (refine wpList_putb rfl 4 _ _ rfl ⟨Pb, x, none⟩ rfl true rfl (by kernel_rfl) _ cP fP ?_; intro W2 hW2; (have hm2 : Hid (OS w l.length A Pb base lo rb B (memS (L ++ [x])) (L.map fun x : Nat => (x : Int)) va vc W2) := by (rw [hW2]; exact hmk.out)); clear hW2 hmk cP fP)
            | (refine wpList_buildSlice rfl 49 3 1 _ rfl (chCells (x : Int)).toArray iN _ Tryd.underlying49 iNH.out.1 iNH.out.2.1 (by rw [iNH.out.2.2.1]; omega) (by rw [iNH.out.2.2.1]; omega) (by simp only [iNH.out.2.2.1]; kernel_rfl) ?_)
            | (at_builtin; (refine wpList_app1 rfl (.tmp 75) (.tmp 77) 49 rfl base 3 iN _ 1 8 Tryd.underlying49 iNH.out.1 iNH.out.2.1 iNH.out.2.2.1 iNH.out.2.2.2 rfl (by decide) va vc ((L.map fun x : Nat => (x : Int)).map chCells) (by rw [hLm.out]; rfl) hm2.out.o (chCells (x : Int)) rfl rfl (one1u _) (by rw [hLm.out]; unfold maxLen; omega) (by rw [hLm.out]; omega) hm2.out.bs ?_); intro va' vc' w3 hg; rw [hLm.out]; (have hg2 : Hid (OS w l.length A Pb base lo rb B (memS (L ++ [x])) ((L ++ [x]).map fun x : Nat => (x : Int)) va' vc' w3) := (by rw [List.map_append]; exact hm2.out.grown hfx.out hg)); clear hg))
          go_roundw
          case rel => exact ⟨L ++ [x], va', vc', by simp; omega, by simp, ⟨hg2.out, hor2.out⟩⟩
          case measure => simp; omega
    · have hle : L.length = l.length := by omega
      have hLI : ¬ ((L.length : Int) < l.length) := by omega
      have hfin : Hid (OrdL B (gof l) l.length L ∧ L.length = l.length ∧ Rows wr 1 va vc ((L.map fun x : Nat => (x : Int)).map chCells) ∧ Below w.heap.size w wr) := ⟨hs.out.2, hle, own_rows hs.out.1.o (len1u _), hs.out.1.b⟩
      clear hs
      rw [hle]
      clear hle hLI hLl hlt
      go_wp2
      go_ret
      exact ⟨L, va, vc, rfl, hfin⟩
end Go.Proofs.YtkadlopcomjonaaDoor.pg
/- The canonical order: Form, on both sides. -/
namespace Go.Proofs.YtkadlopcomjonaaDoor.pg
open Go.ChangeShapes Go.WideShapes Go.ChangeAt Go.RowKit Go.Shelf
set_option linter.unusedVariables false
set_option linter.unusedSimpArgs false
set_option maxRecDepth 100000
set_option maxHeartbeats 1000000 in
theorem form_bad (l : List Ev) (la : Option Addr) (lc : Nat) (w : World) (hl : Rows w 26 la lc (l.map Ev.cells)) (c : Int) (hc : checkP l c) (h0 : c = 2 ∨ c = 7) :
    Calls Tryd.prog 21 #[.slice la l.length lc] w fun e w' => e = .returned (.tuple #[.slice none 0 0, .int .i64 c]) ∧ Below w.heap.size w w' := by
  have c1 := klook_bad l la lc w hl c hc h0
  have d : (c != 0) = true := by rcases h0 with rfl | rfl <;> rfl
  have hzK : Hid (∀ w, (zeroValue 75).run Tryd.prog w = .ok (.agg #[.slice none 0 0, .slice none 0 0, .slice none 0 0, .slice none 0 0, .slice none 0 0, .slice none 0 0, .slice none 0 0, .slice none 0 0]) w) := fun w => by kernel_rfl
  clear hl hc h0
  go_enter Tryd.func21, Tryd.ntmps21
  go_wp2_with (first
    | (go_at_call 33; (with_reducible refine c1.mono ?_); rintro e w1 ⟨rfl, hb1⟩; (have hbH : Hid (Below w.heap.size w w1) := hb1); clear hb1)
    | (refine wpList_alloc_big rfl 75 rfl hzK.out ?_)
    | (refine wpList_store_row rfl 75 _ _ rfl w1.heap.size _ rfl rfl _ _ (heap_alloc_new w1 _) infoPa rfl (by simp [Value.oneCell']) ?_))
  go_ret2
  exact ⟨rfl, (bthen hbH.out (boxed w1 _)).trans (below_rowK hbH.out.size)⟩
/-- Form, as the package and the document tell it: one order. -/
theorem form_one {l : List Ev} {B : Nat → Nat → Bool} {L L' : List Nat} (h : OrdL B (gof l) l.length L) (h' : OrdL B (gof l) l.length L') (e : L.length = l.length) (e' : L'.length = l.length) : L = L' := h.same h' (by omega)
end Go.Proofs.YtkadlopcomjonaaDoor.pg
