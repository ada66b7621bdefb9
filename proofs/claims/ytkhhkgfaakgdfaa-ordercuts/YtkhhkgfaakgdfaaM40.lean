/- Linear of package order. -/
import Derived.Test.YtkhhkgfaakgdfaaM39
import Derived.Test.YtkhhkgfaakgdfaaM35
import Derived.Test.YtkhhkgfaakgdfaaM38
namespace Go.Proofs.Ytkhhkgfaakgdfaa.pg
open Go.ChangeShapes Go.WideShapes Go.ChangeAt Go.RowKit Go.Shelf
set_option linter.unusedVariables false
set_option linter.unusedSimpArgs false
set_option maxRecDepth 100000
attribute [local go_sem ↓] Go.wp_at_zero Go.wp_at_succ
/-- Where each is, as far as the list is read. -/
def atS (n : Nat) (ps : List Int) : Nat → List Int
  | 0 => List.replicate n 0
  | k + 1 => (atS n ps k).set (ps.getD k 0).toNat (k : Int)
theorem atS_len (n : Nat) (ps : List Int) : ∀ k, (atS n ps k).length = n
  | 0 => by simp [atS]
  | k + 1 => by rw [atS, List.length_set]; exact atS_len n ps k
theorem atS_more {n : Nat} {ps : List Int} {k a : Nat} (h : ps[k]? = some (a : Int)) : (atS n ps k).set a (k : Int) = atS n ps (k + 1) := by
  rw [atS, List.getD_eq_getElem?_getD, h]; rfl
def linOk (s : List Int) (p : Nat × Nat) : Bool := !decide (s.getD p.2 0 < s.getD p.1 0)
def linB (E : List (Nat × Nat)) (s : List Int) : Bool := E.all (linOk s)
def eqP (p q : Nat × Nat) : Bool := p.1 == q.1 && p.2 == q.2
theorem swp_is (s : List Int) (p : Nat × Nat) (h : p.1 < p.2) : eqP (if s.getD p.2 0 < s.getD p.1 0 then (p.2, p.1) else (p.1, p.2)) p = linOk s p := by
  unfold linOk eqP
  generalize s.getD p.2 0 = x
  generalize s.getD p.1 0 = y
  by_cases c : x < y
  · have : ¬ p.2 = p.1 := by omega
    simp [c, this]
  · simp [c]
theorem run_inP (p q : Nat × Nat) (w : World) : (Op.equalIn 10000 41 (.agg (edg p).toArray) (.agg (edg q).toArray)).run Try.prog w = .ok (eqP p q) w := by
  obtain ⟨i, hi⟩ := infoI_some
  have hc1 : Try.prog.cellsOf 3 = 1 := by kernel_rfl
  have u1 := Try.underlying3
  have a1 := Try.isAgg3
  have z1 := Try.sizeOf3
  obtain ⟨p1, p2⟩ := p
  obtain ⟨q1, q2⟩ := q
  rw [show (10000 : Nat) = 9999 + 1 from rfl, run_equalIn_array w 9999 _ _ Try.underlying41 hi, hc1]
  simp only [List.range, List.range.loop, Op.eqItems, edg]
  go_simp
  by_cases h0 : p1 = q1
  · subst h0
    by_cases h1 : p2 = q2
    · subst h1; simp [eqP]
    · have : ¬ ((p2 : Int) = (q2 : Int)) := by omega
      simp [eqP, h1, this]
  · have : ¬ ((p1 : Int) = (q1 : Int)) := by omega
    simp [eqP, h0, this]
theorem run_neP (p q : Nat × Nat) (w : World) : (binOp .neq 41 (.agg (edg p).toArray) (.agg (edg q).toArray)).run Try.prog w = .ok (.bool (!eqP p q)) w := by
  rw [run_neq_struct, run_inP]; rfl
set_option maxHeartbeats 1000000 in
theorem linear_err (l : List Ev) (la : Option Addr) (lc : Nat) (ps : List Int) (pa : Option Addr) (pc : Nat) (w : World) (hl : Rows w 26 la lc (l.map Ev.cells)) (hp : Rows w 1 pa pc (ps.map chCells)) (c : Int) (hc : lookP l ps c) :
    Calls Try.prog 28 #[.slice la l.length lc, .slice pa ps.length pc] w fun e w' => e = .returned (.tuple #[.bool false, .int .i64 c]) ∧ Below w.heap.size w w' := by
  have c1 := look_err l la lc ps pa pc w hl hp c hc
  have h7 := lookP_c hc
  clear hl hc hp
  rcases h7 with rfl | rfl | rfl
  all_goals
    go_enter Try.func28, Try.ntmps28
    go_wp2_with (first
      | (go_at_call 42; (refine c1.mono ?_); rintro e w1 ⟨rfl, hb'⟩; (have hb : Hid (Below w.heap.size w w1) := hb'); clear hb' c1)
      | (refine wpList_store_new rfl 78 _ _ rfl rfl _ _ rfl (by kernel_rfl) rfl (one3 _ _ _ _ _ _ _ _ _) ?_))
    go_ret2
    exact ⟨rfl, bthen hb.out (boxed _ _)⟩
set_option maxHeartbeats 4000000 in
theorem linear_ok (l : List Ev) (la : Option Addr) (lc : Nat) (ps : List Int) (pa : Option Addr) (pc : Nat) (w : World) (hl : Rows w 26 la lc (l.map Ev.cells)) (hp : Rows w 1 pa pc (ps.map chCells)) (hlen : l.length ≤ 256) (hrt : ∀ x ∈ l, rightP x) (hps : ps.length ≤ 256) (hin : ∀ p ∈ ps, 0 ≤ p ∧ p < l.length) (hn : ps.length = l.length) (hd : (lst (fOf ps) 256).length = l.length) (R : Bool) (hR : Hid (R = linB (rel (evf l) l.length).2 (atS l.length ps ps.length))) :
    Calls Try.prog 28 #[.slice la l.length lc, .slice pa ps.length pc] w fun e w' => e = .returned (.tuple #[.bool R, .int .i64 0]) ∧ Below w.heap.size w w' := by
  have c1 := look_any l la lc ps pa pc w hl hp hlen hrt hps hin
  have hpI := rows_len hp
  have hin2 : ∀ p ∈ ps, 0 ≤ p ∧ p < 256 := fun p hp => by have := hin p hp; omega
  have hpH : Hid (Rows w 1 pa pc (ps.map chCells)) := hp
  have hinH : Hid (∀ p ∈ ps, 0 ≤ p ∧ p < l.length) := hin
  have hlI2 : (l.length : Int) ≤ 256 := by omega
  have hne1 : ((ps.length : Int) != (l.length : Int)) = false := by rw [hn]; simp
  have hne2 : ((l.length : Int) != (l.length : Int)) = false := by simp
  obtain ⟨iN, hiN, hzN, hsN, hbN⟩ := info_q infoN_u
  have hb8 : iN.bytes * l.length ≤ 281474976710656 := by rw [hbN]; omega
  have hElH : Hid ((rel (evf l) l.length).2.length ≤ 65536) := by have := rel_edges (evf l) l.length hlen; show _ ≤ _; omega
  have hpr : Hid (∀ p ∈ (rel (evf l) l.length).2, p.1 < p.2 ∧ p.2 < l.length) := rel_pairs (evf l) l.length
  obtain ⟨G, hG⟩ : ∃ G, boolRow 256 (fOf ps) = G := ⟨_, rfl⟩
  have cO : ∀ wx, Below w.heap.size w wx → Calls Try.prog 51 #[.slice pa ps.length pc] wx fun e w' => e = .returned (.agg G) ∧ Below wx.heap.size wx w' := fun wx hb => by rw [← hG]; exact setOf_any ps pa pc wx (hpH.out.later hb) hin2
  have cL : ∀ wx, Calls Try.prog 46 #[.agg G] wx fun e w' => ∃ va vc, e = .returned (.slice va l.length vc) ∧ Below wx.heap.size wx w' := fun wx => by
    rw [← hG]
    exact (list_any _ wx).mono (by rintro e w' ⟨va, vc, rfl, h⟩; exact ⟨va, vc, by rw [hd], h.be⟩)
  have hnH : Hid (ps.length = l.length) := hn
  clear hl hp hin hrt hd hG hin2 hn
  go_enter Try.func28, Try.ntmps28
  go_wp2_with (first
    | (go_at_call 42; (refine c1.mono ?_); rintro e w1 ⟨ca, cc, da, dc, rfl, oc', oe', hb'⟩; (have rB : Hid (RelB w _ l la lc w1.heap.size ca cc da dc) := relB_new (Nat.le_refl _) oc' oe' hb'); clear oc' oe' hb' c1)
    | (refine wpList_store_new rfl 78 _ _ rfl rfl _ _ rfl (by kernel_rfl) rfl (one3 _ _ _ _ _ _ _ _ _) ?_)
    | (go_at_call 51; (refine (cO _ rB.out.b).mono ?_); rintro e w2 ⟨rfl, hb2⟩; (have r2 : Hid (RelB w w2 l la lc w1.heap.size ca cc da dc) := rB.out.later hb2); clear hb2 cO rB)
    | (go_at_call 46; (refine (cL _).mono ?_); rintro e w3 ⟨va, vc, rfl, hb3⟩; (have r3 : Hid (RelB w w3 l la lc w1.heap.size ca cc da dc) := r2.out.later hb3); clear hb3 cL r2)
    | (refine wpList_mk _ rfl _ _ 30 rfl 3 iN (.int .i64 0) Try.underlying30 hiN hzN rfl hsN l.length rfl rfl hb8 (by omega) ?_; intro W hwh hbW hsW))
  have s0 : Hid (HSt w l.length w3.heap.size da dc (rel (evf l) l.length).2 (atS l.length ps 0) W ∧ W.heap[w1.heap.size]? = some (.cells #[.slice la l.length lc, .slice ca l.length cc, .slice da (rel (evf l) l.length).2.length dc] 78)) := ⟨⟨by rw [hwh]; simp [atS], own_keep r3.out.e fun b hb' => hbW.block b (blk_lt r3.out.e b hb').2, bthen r3.out.b hbW, fun b hb' => (blk_lt r3.out.e b hb').2, r3.out.b.size⟩, (r3.out.later hbW).r⟩
  have hlt : Hid (w1.heap.size < w3.heap.size) := (Array.getElem?_eq_some_iff.mp r3.out.r).1
  clear hwh hbW hsW r3
  generalize w3.heap.size = A at *
  generalize w1.heap.size = Rr at *
  generalize (rel (evf l) l.length).2 = E at *
  have hEI : (E.length : Int) ≤ 65536 := by have := hElH.out; omega
  go_loopw [43] (fun u wr => ∃ k : Nat, k ≤ ps.length ∧ u = .int .i64 k ∧ Hid (HSt w l.length A da dc E (atS l.length ps k) wr ∧ wr.heap[Rr]? = some (.cells #[.slice la l.length lc, .slice ca l.length cc, .slice da E.length dc] 78))) (fun u _ => ps.length - (intOf u).toNat)
  case atStart => exact ⟨0, Nat.zero_le _, rfl, s0⟩
  case round =>
    obtain ⟨k, hk, rfl, hs⟩ := hrel
    clear s0
    by_cases hkl : k < ps.length
    · obtain ⟨y, hy, hym⟩ := get_lt ps k hkl
      obtain ⟨y0, y1⟩ := hinH.out y hym
      obtain ⟨b1, o1, hix1, hbl1, c1⟩ := ch_ix (hpH.out.later hs.out.1.b) k y hy
      obtain ⟨a, rfl⟩ := Int.eq_ofNat_of_zero_le y0
      have hkI : (k : Int) < ps.length := by omega
      have xA := ix_int A l.length a (by omega)
      have hcl : Hid (wr.cell? ⟨A, a, none⟩ = some (.int .i64 ((atS l.length ps k).getD a 0)) ∧ wr.frozen? ⟨A, a, none⟩ = false) := hs.out.1.cell (by rw [atS_len]; omega)
      have hnx : Hid (HSt w l.length A da dc E (atS l.length ps (k + 1)) (wr.setCell ⟨A, a, none⟩ (.int .i64 (k : Int))) ∧ (wr.setCell ⟨A, a, none⟩ (.int .i64 (k : Int))).heap[Rr]? = some (.cells #[.slice la l.length lc, .slice ca l.length cc, .slice da E.length dc] 78)) := by
        refine ⟨?_, (Below.heap_setCell _ _ _ _ (by show Rr ≠ A; have := hlt.out; omega)).trans hs.out.2⟩
        rw [← atS_more hy]
        exact hs.out.1.set a k
      clear hs hy hym y0 y1 hbl1
      go_wp2_with (first
        | (refine wpList_puti rfl 3 _ _ rfl ⟨A, a, none⟩ rfl (k : Int) rfl (by kernel_rfl) _ hcl.out.1 hcl.out.2 ?_; intro W3 hW3; (have s3 : Hid (HSt w l.length A da dc E (atS l.length ps (k + 1)) W3 ∧ W3.heap[Rr]? = some (.cells #[.slice la l.length lc, .slice ca l.length cc, .slice da E.length dc] 78)) := by (rw [hW3]; exact hnx.out)); clear hW3 hnx hcl))
      go_roundw
      case rel => exact ⟨k + 1, by omega, by go_num, s3⟩
      case measure => simp [intOf]; omega
    · have hk2 : k = ps.length := by omega
      subst hk2
      have hx2 := cell_of (k := 2) (v := .slice da E.length dc) hs.out.2 rfl
      have s1 : Hid (HSt w l.length A da dc E (atS l.length ps ps.length) wr) := hs.out.1
      clear hs hpH hinH
      have hsl := atS_len l.length ps ps.length
      generalize atS l.length ps ps.length = s at *
      go_wp2_with fail
      clear hx2
      go_loopw [56] (fun u wr => ∃ k : Nat, k ≤ E.length ∧ u = .int .i64 k ∧ Hid (HSt w l.length A da dc E s wr ∧ ∀ p ∈ E.take k, linOk s p = true)) (fun u _ => E.length - (intOf u).toNat)
      case atStart => exact ⟨0, Nat.zero_le _, rfl, ⟨s1.out, by simp⟩⟩
      case round =>
        obtain ⟨k, hk, rfl, hs⟩ := hrel
        clear s1
        by_cases hlt : k < E.length
        · obtain ⟨p, hp, hpm⟩ := get_lt E k hlt
          obtain ⟨p1, p2⟩ := hpr.out p hpm
          have hkI : (k : Int) < E.length := by omega
          have hr : Rows wr 2 da dc (E.map edg) := own_rows hs.out.1.e fun row hm => by rw [List.mem_map] at hm; obtain ⟨y, _, rfl⟩ := hm; rfl
          obtain ⟨b, o, hix, hbl, hrg⟩ := hr.ix 27 41 Try.underlying27 (by kernel_rfl) (fun wx => Try.sizeOf41 wx) k (row := edg p) (by simp [hp])
          rw [List.length_map] at hix
          have hrH : Hid (wr.rangeAt b o (edg p)) := hrg
          have huP : Hid (Try.prog.underlying 41 = _) := Try.underlying41
          have hiP : Hid ((Try.prog.info? 41).map (·.size) = some 2) := by show _ = _; kernel_rfl
          have hsP : Hid (HSt w l.length A da dc E s (wr.alloc (.cells (edg p).toArray 41))) := hs.out.1.later (boxed wr (.cells (edg p).toArray 41))
          have hPP : Hid ((wr.alloc (.cells (edg p).toArray 41)).heap[wr.heap.size]? = some (.cells (edg p).toArray 41)) := heap_alloc_new wr (.cells (edg p).toArray 41)
          have hall : Hid (∀ p ∈ E.take k, linOk s p = true) := hs.out.2
          clear hr hrg hs
          have hmore : linOk s p = true → Hid (∀ p ∈ E.take (k + 1), linOk s p = true) := fun h => by
            intro q hq
            rw [take_one E k p hp, List.mem_append, List.mem_singleton] at hq
            rcases hq with hq | rfl
            · exact hall.out q hq
            · exact h
          have hbad : linOk s p = false → Hid (R = false) := fun h => by
            show _ = _
            rw [hR.out]
            unfold linB
            rw [List.all_eq_false]
            exact ⟨p, hpm, by rw [h]; decide⟩
          obtain ⟨q, hq⟩ : ∃ q, q = if s.getD p.2 0 < s.getD p.1 0 then (p.2, p.1) else (p.1, p.2) := ⟨_, rfl⟩
          have hqe : eqP q p = linOk s p := by
            rw [hq]
            exact swp_is s p p1
          have heq : ∀ wx, (binOp .neq 41 (.agg (edg q).toArray) (.agg (edg p).toArray)).run Try.prog wx = .ok (.bool (!linOk s p)) wx := fun wx => by rw [run_neP, hqe]
          have cC : ∀ wx, HSt w l.length A da dc E s wx → Calls Try.prog 52 #[.agg (edg p).toArray, .slice (some ⟨A, 0, none⟩) l.length l.length] wx fun e w' => e = .returned (.agg (edg q).toArray) ∧ Below wx.heap.size wx w' := fun wx h => by
            have h1 := (h.cell (j := p.1) (by rw [hsl]; omega)).1
            have h2 := (h.cell (j := p.2) (by rw [hsl]; omega)).1
            exact placed_any p.1 p.2 l.length A _ _ wx (by omega) p2 (Array.getElem?_eq_some_iff.mp h.a).1 h1 h2 q hq
          go_wp2_with (first
            | (refine wpList_load_mid rfl 41 _ rfl b o rfl (edg p) _ hrH.out huP.out rfl hiP.out ?_)
            | (refine wpList_store_new rfl 41 _ _ rfl rfl _ (edg p).toArray rfl (by kernel_rfl) rfl (by simp [edg, Value.oneCell']) ?_))
          obtain ⟨W2, hW2⟩ : ∃ W2, wr.alloc (.cells (edg p).toArray 41) = W2 := ⟨_, rfl⟩
          rw [hW2] at hsP hPP ⊢
          clear hW2 hrH hix hq hqe
          obtain ⟨Sb, hSb⟩ : ∃ Sb, wr.heap.size = Sb := ⟨_, rfl⟩
          rw [hSb] at hPP ⊢
          clear hSb
          have z2 : ∀ sq : Cls (Bey W2), sq.w.rangeAt Sb 0 (edg p) := fun sq q v hv => cell_of ((sq.h.block Sb (Array.getElem?_eq_some_iff.mp hPP.out).1).trans hPP.out) (by rw [Nat.zero_add]; simpa using hv)
          have cC2 : ∀ sq : Cls (Bey W2), Calls Try.prog 52 #[.agg (edg p).toArray, .slice (some ⟨A, 0, none⟩) l.length l.length] sq.w fun e w' => e = .returned (.agg (edg q).toArray) ∧ Below sq.w.heap.size sq.w w' := fun sq => cC sq.w (hsP.out.later sq.h)
          have hneB := bey_some W2
          clear cC
          obtain ⟨v, hv⟩ : ∃ v, linOk s p = v := ⟨_, rfl⟩
          rw [hv] at heq hmore hbad
          clear hv
          simp only [Act.put, List.setIfInBounds_toArray, List.set_cons_zero, List.set_cons_succ]
          cases v
          · have hRf := hbad rfl
            clear hbad hmore
            simp only [Bool.not_false] at heq
            refine wp_region_cls (Bey W2) (by kernel_rfl) (by kernel_rfl) (bey_drew W2) ?_
            repeat (first
              | (go_big_quiet_want; (refine quiet_load_mid 41 _ rfl Sb 0 rfl (edg p) _ z2 huP.out rfl hiP.out ?_); (simp only [Act.put, List.setIfInBounds_toArray, List.set_cons_zero, List.set_cons_succ]); go_big_quiet_on)
              | go_big_quiet_step ((go_at_call 52; exact calls_bey (cC2 _))))
            refine wpQuiet_nil ?_
            intro _ hw'
            obtain ⟨sq, hw''⟩ := hw'
            subst hw''
            clear z2 cC2 hneB heq
            go_wp2
            go_ret2
            exact ⟨by rw [hRf.out]; rfl, bthen hsP.out.b sq.h⟩
          · have hmo := hmore rfl
            clear hbad hmore
            simp only [Bool.not_true] at heq
            refine wp_region_cls (Bey W2) (by kernel_rfl) (by kernel_rfl) (bey_drew W2) ?_
            repeat (first
              | (go_big_quiet_want; (refine quiet_load_mid 41 _ rfl Sb 0 rfl (edg p) _ z2 huP.out rfl hiP.out ?_); (simp only [Act.put, List.setIfInBounds_toArray, List.set_cons_zero, List.set_cons_succ]); go_big_quiet_on)
              | go_big_quiet_step ((go_at_call 52; exact calls_bey (cC2 _))))
            refine wpQuiet_nil ?_
            intro _ hw'
            obtain ⟨sq, hw''⟩ := hw'
            subst hw''
            clear z2 cC2 hneB heq
            go_wp2
            go_roundw
            case rel => exact ⟨k + 1, by omega, by go_num, ⟨hsP.out.later sq.h, hmo.out⟩⟩
            case measure => simp [intOf]; omega
        · have hk2 : k = E.length := by omega
          subst hk2
          have hRt : Hid (R = true) := by
            show _ = _
            rw [hR.out]
            unfold linB
            rw [List.all_eq_true]
            have := hs.out.2
            rwa [List.take_length] at this
          go_wp2
          go_ret2
          exact ⟨by rw [hRt.out]; rfl, hs.out.1.b⟩
end Go.Proofs.Ytkhhkgfaakgdfaa.pg
/- What OrderCuts says, of lists of places. -/
namespace Go.Proofs.Ytkhhkgfaakgdfaa.pg
open Go.ChangeShapes Go.WideShapes Go.ChangeAt Go.RowKit Go.Shelf
set_option linter.unusedVariables false
set_option linter.unusedSimpArgs false
theorem cloB_lt {d B : Nat → Nat → Bool} (hB : Tells d B) {n : Nat} {f : Nat → Bool} (hf : ∀ k, f k = true → k < n) (a : Nat) (h : cloB B n f a = true) : a < n := by
  rcases (cloB_iff B n f a).mp h with q | ⟨b, b1, b2, _⟩
  · exact hf a q
  · have := ((hB a b).mp b2).lt; omega
theorem fOf_lt {ps : List Int} {n : Nat} (hin : ∀ p ∈ ps, 0 ≤ p ∧ p < (n : Int)) (k : Nat) (h : fOf ps k = true) : k < n := by
  have := hin _ ((fOf_iff ps k).mp h); omega
theorem fOf_lst {f : Nat → Bool} (hf : ∀ k, f k = true → k < 256) : fOf (lst f 256) = f := by
  funext k
  rw [Bool.eq_iff_iff, fOf_iff, lst_mem]
  constructor
  · rintro ⟨j, _, h2, h3⟩
    have : k = j := by omega
    rw [this]; exact h2
  · intro h; exact ⟨k, hf k h, h, rfl⟩
theorem lst_in {f : Nat → Bool} {n : Nat} (hf : ∀ k, f k = true → k < n) : ∀ p ∈ lst f 256, 0 ≤ p ∧ p < (n : Int) := fun p hp => by
  obtain ⟨k, _, h2, rfl⟩ := (lst_mem f p 256).mp hp
  have := hf k h2
  omega
theorem cut_all {B : Nat → Nat → Bool} {n : Nat} {f : Nat → Bool} (h : cloB B n f = f) : true = (List.range 256).all fun k => cloB B n f k == f k := by rw [h]; simp
/-- All places, in their order. -/
def allL (n : Nat) : List Int := (List.range n).map fun k : Nat => (k : Int)
theorem allL_len (n : Nat) : (allL n).length = n := by simp [allL]
theorem allL_more (n : Nat) : allL (n + 1) = allL n ++ [(n : Int)] := by simp [allL, List.range_succ]
theorem allL_in (n : Nat) : ∀ p ∈ allL n, 0 ≤ p ∧ p < (n : Int) := fun p hp => by
  simp only [allL, List.mem_map, List.mem_range] at hp
  obtain ⟨k, h, rfl⟩ := hp
  omega
theorem lst_true : ∀ n, (lst (fun _ => true) n).length = n
  | 0 => rfl
  | n + 1 => by simp [lst, lst_true n]
theorem allL_set {n : Nat} (hn : n ≤ 256) : (lst (fOf (allL n)) 256).length = n := by
  have h : ∀ k, fOf (allL n) k = true ↔ k < n := fun k => by
    rw [fOf_iff]
    constructor
    · intro h; have := allL_in n _ h; omega
    · intro h; simp only [allL, List.mem_map, List.mem_range]; exact ⟨k, h, rfl⟩
  rw [lst_cut (m := n) 256 hn fun k h1 _ => by
    rw [Bool.eq_false_iff]; intro q; have := (h k).mp q; omega]
  rw [lst_congr (g := fun _ => true) n fun k hk => (h k).mpr hk]
  exact lst_true n
theorem atS_all (n : Nat) : ∀ k, k ≤ n → ∀ i, i < k → (atS n (allL n) k).getD i 0 = (i : Int)
  | 0, _, i, hi => by omega
  | k + 1, hk, i, hi => by
    have hg : ((allL n).getD k 0).toNat = k := by
      rw [List.getD_eq_getElem?_getD]
      simp [allL, List.getElem?_range (show k < n by omega)]
    rw [atS, hg, List.getD_eq_getElem?_getD, List.getElem?_set]
    by_cases c : k = i
    · subst c
      rw [if_pos rfl, if_pos (by rw [atS_len]; omega)]
      rfl
    · rw [if_neg c, ← List.getD_eq_getElem?_getD]
      exact atS_all n k (by omega) i (by omega)
theorem linB_all {n : Nat} {E : List (Nat × Nat)} (hE : ∀ p ∈ E, p.1 < p.2 ∧ p.2 < n) : true = linB E (atS n (allL n) n) := by
  symm
  unfold linB
  rw [List.all_eq_true]
  intro p hp
  obtain ⟨h1, h2⟩ := hE p hp
  unfold linOk
  rw [atS_all n n (Nat.le_refl _) p.1 (by omega), atS_all n n (Nat.le_refl _) p.2 h2]
  have : ¬ ((p.2 : Int) < (p.1 : Int)) := by omega
  simp [this]
section
variable {d B : Nat → Nat → Bool} (hB : Tells d B) {n i : Nat} (hi : i < n)
include hB hi
theorem past_f (k : Nat) : fOf (lst (fun k => B k i) n ++ [(i : Int)]) k = (B k i || k == i) := by
  rw [Bool.eq_iff_iff, fOf_iff, List.mem_append, lst_mem, List.mem_singleton, Bool.or_eq_true, beq_iff_eq]
  constructor
  · rintro (⟨j, _, h2, h3⟩ | h)
    · have : k = j := by omega
      rw [this]; exact .inl h2
    · right; omega
  · rintro (h | h)
    · have := ((hB k i).mp h).lt
      exact .inl ⟨k, by omega, h, rfl⟩
    · right; omega
theorem past_len : (lst (fun k => B k i) n).length ≤ i := by
  rw [lst_cut (m := i) n (by omega) fun k h1 _ => by
    rw [Bool.eq_false_iff]; intro q; have := ((hB k i).mp q).lt; omega]
  exact lst_len _ i
theorem past_cut : cloB B n (fOf (lst (fun k => B k i) n ++ [(i : Int)])) = fOf (lst (fun k => B k i) n ++ [(i : Int)]) := by
  funext a
  rw [Bool.eq_iff_iff, cloB_iff, past_f hB hi a]
  constructor
  · rintro (h | ⟨b, b1, b2, b3⟩)
    · exact h
    · rw [past_f hB hi b, Bool.or_eq_true, beq_iff_eq] at b3
      rw [Bool.or_eq_true]
      left
      rcases b3 with q | rfl
      · exact (hB a i).mpr (.then ((hB a b).mp b2) ((hB b i).mp q))
      · exact b2
  · exact .inl
end
theorem past_in {B : Nat → Nat → Bool} {n i : Nat} (hi : i < n) : ∀ p ∈ lst (fun k => B k i) n ++ [(i : Int)], 0 ≤ p ∧ p < (n : Int) := fun p hp => by
  rw [List.mem_append, List.mem_singleton, lst_mem] at hp
  rcases hp with ⟨k, h1, h2, rfl⟩ | rfl <;> omega
end Go.Proofs.Ytkhhkgfaakgdfaa.pg
