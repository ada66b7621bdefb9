/- Linear of package order. -/
import Derived.Test.YtkhhkgfaakgdfaaM39
import Derived.Test.YtkhhkgfaakgdfaaM36
namespace Go.Proofs.Ytkhhkgfaakgdfaa.pg
open Go.ChangeShapes Go.WideShapes Go.ChangeAt Go.RowKit Go.Shelf
set_option linter.unusedVariables false
set_option linter.unusedSimpArgs false
set_option maxRecDepth 100000
attribute [local go_sem ↓] Go.wp_at_zero Go.wp_at_succ
/-- Where each is, as far as the list is read. -/
def atS (n : Nat) (ps : List Int) : Nat → List Int
  | 0 => List.replicate n 0
  | k + 1 => (atS n ps k).set (ps.getD k 0).toNat (k : Int)
theorem atS_len (n : Nat) (ps : List Int) : ∀ k, (atS n ps k).length = n
  | 0 => by simp [atS]
  | k + 1 => by rw [atS, List.length_set]; exact atS_len n ps k
theorem atS_more {n : Nat} {ps : List Int} {k a : Nat} (h : ps[k]? = some (a : Int)) : (atS n ps k).set a (k : Int) = atS n ps (k + 1) := by
  rw [atS, List.getD_eq_getElem?_getD, h]; rfl
def linOk (s : List Int) (p : Nat × Nat) : Bool := !decide (s.getD p.2 0 < s.getD p.1 0)
def linB (E : List (Nat × Nat)) (s : List Int) : Bool := E.all (linOk s)
def eqP (p q : Nat × Nat) : Bool := p.1 == q.1 && p.2 == q.2
theorem swp_is (s : List Int) (p : Nat × Nat) (h : p.1 < p.2) : eqP (if s.getD p.2 0 < s.getD p.1 0 then (p.2, p.1) else (p.1, p.2)) p = linOk s p := by
  unfold linOk eqP
  generalize s.getD p.2 0 = x
  generalize s.getD p.1 0 = y
  by_cases c : x < y
  · have : ¬ p.2 = p.1 := by omega
    simp [c, this]
  · simp [c]
theorem run_inP (p q : Nat × Nat) (w : World) : (Op.equalIn 10000 41 (.agg (edg p).toArray) (.agg (edg q).toArray)).run Try.prog w = .ok (eqP p q) w := by
  obtain ⟨i, hi⟩ := infoI_some
  have hc1 : Try.prog.cellsOf 3 = 1 := by kernel_rfl
  have u1 := Try.underlying3
  have a1 := Try.isAgg3
  have z1 := Try.sizeOf3
  obtain ⟨p1, p2⟩ := p
  obtain ⟨q1, q2⟩ := q
  rw [show (10000 : Nat) = 9999 + 1 from rfl, run_equalIn_array w 9999 _ _ Try.underlying41 hi, hc1]
  simp only [List.range, List.range.loop, Op.eqItems, edg]
  go_simp
  by_cases h0 : p1 = q1
  · subst h0
    by_cases h1 : p2 = q2
    · subst h1; simp [eqP]
    · have : ¬ ((p2 : Int) = (q2 : Int)) := by omega
      simp [eqP, h1, this]
  · have : ¬ ((p1 : Int) = (q1 : Int)) := by omega
    simp [eqP, h0, this]
theorem run_neP (p q : Nat × Nat) (w : World) : (binOp .neq 41 (.agg (edg p).toArray) (.agg (edg q).toArray)).run Try.prog w = .ok (.bool (!eqP p q)) w := by
  rw [run_neq_struct, run_inP]; rfl
set_option maxHeartbeats 1000000 in
theorem linear_err (l : List Ev) (la : Option Addr) (lc : Nat) (ps : List Int) (pa : Option Addr) (pc : Nat) (w : World) (hl : Rows w 26 la lc (l.map Ev.cells)) (hp : Rows w 1 pa pc (ps.map chCells)) (c : Int) (hc : lookP l ps c) :
    Calls Try.prog 28 #[.slice la l.length lc, .slice pa ps.length pc] w fun e w' => e = .returned (.tuple #[.bool false, .int .i64 c]) ∧ Below w.heap.size w w' := by
  have c1 := look_err l la lc ps pa pc w hl hp c hc
  have h7 := lookP_c hc
  clear hl hc hp
  rcases h7 with rfl | rfl | rfl
  all_goals
    go_enter Try.func28, Try.ntmps28
    go_wp2_with (first
      | (go_at_call 42; (refine c1.mono ?_); rintro e w1 ⟨rfl, hb'⟩; (have hb : Hid (Below w.heap.size w w1) := hb'); clear hb' c1)
      | (refine wpList_store_new rfl 78 _ _ rfl rfl _ _ rfl (by kernel_rfl) rfl (one3 _ _ _ _ _ _ _ _ _) ?_))
    go_ret2
    exact ⟨rfl, bthen hb.out (boxed _ _)⟩
set_option maxHeartbeats 4000000 in
theorem linear_ok (l : List Ev) (la : Option Addr) (lc : Nat) (ps : List Int) (pa : Option Addr) (pc : Nat) (w : World) (hl : Rows w 26 la lc (l.map Ev.cells)) (hp : Rows w 1 pa pc (ps.map chCells)) (hlen : l.length ≤ 256) (hrt : ∀ x ∈ l, rightP x) (hps : ps.length ≤ 256) (hin : ∀ p ∈ ps, 0 ≤ p ∧ p < l.length) (hn : ps.length = l.length) (hd : (lst (fOf ps) 256).length = l.length) (R : Bool) (hR : Hid (R = linB (rel (evf l) l.length).2 (atS l.length ps ps.length))) :
    Calls Try.prog 28 #[.slice la l.length lc, .slice pa ps.length pc] w fun e w' => e = .returned (.tuple #[.bool R, .int .i64 0]) ∧ Below w.heap.size w w' := by
  have c1 := look_any l la lc ps pa pc w hl hp hlen hrt hps hin
  have hpI := rows_len hp
  have hin2 : ∀ p ∈ ps, 0 ≤ p ∧ p < 256 := fun p hp => by have := hin p hp; omega
  have hpH : Hid (Rows w 1 pa pc (ps.map chCells)) := hp
  have hinH : Hid (∀ p ∈ ps, 0 ≤ p ∧ p < l.length) := hin
  have hlI2 : (l.length : Int) ≤ 256 := by omega
  have hne1 : ((ps.length : Int) != (l.length : Int)) = false := by rw [hn]; simp
  have hne2 : ((l.length : Int) != (l.length : Int)) = false := by simp
  obtain ⟨iN, hiN, hzN, hsN, hbN⟩ := info_q infoN_u
  have hb8 : iN.bytes * l.length ≤ 281474976710656 := by rw [hbN]; omega
  have hElH : Hid ((rel (evf l) l.length).2.length ≤ 65536) := by have := rel_edges (evf l) l.length hlen; show _ ≤ _; omega
  have hpr : Hid (∀ p ∈ (rel (evf l) l.length).2, p.1 < p.2 ∧ p.2 < l.length) := rel_pairs (evf l) l.length
  obtain ⟨G, hG⟩ : ∃ G, boolRow 256 (fOf ps) = G := ⟨_, rfl⟩
  have cO : ∀ wx, Below w.heap.size w wx → Calls Try.prog 51 #[.slice pa ps.length pc] wx fun e w' => e = .returned (.agg G) ∧ Below wx.heap.size wx w' := fun wx hb => by rw [← hG]; exact setOf_any ps pa pc wx (hpH.out.later hb) hin2
  have cL : ∀ wx, Calls Try.prog 46 #[.agg G] wx fun e w' => ∃ va vc, e = .returned (.slice va l.length vc) ∧ Below wx.heap.size wx w' := fun wx => by
    rw [← hG]
    exact (list_any _ wx).mono (by rintro e w' ⟨va, vc, rfl, h⟩; exact ⟨va, vc, by rw [hd], h.be⟩)
  have hnH : Hid (ps.length = l.length) := hn
  clear hl hp hin hrt hd hG hin2 hn
  go_enter Try.func28, Try.ntmps28
  go_wp2_with (first
    | (go_at_call 42; (refine c1.mono ?_); rintro e w1 ⟨ca, cc, da, dc, rfl, oc', oe', hb'⟩; (have rB : Hid (RelB w _ l la lc w1.heap.size ca cc da dc) := relB_new (Nat.le_refl _) oc' oe' hb'); clear oc' oe' hb' c1)
    | (refine wpList_store_new rfl 78 _ _ rfl rfl _ _ rfl (by kernel_rfl) rfl (one3 _ _ _ _ _ _ _ _ _) ?_)
    | (go_at_call 51; (refine (cO _ rB.out.b).mono ?_); rintro e w2 ⟨rfl, hb2⟩; (have r2 : Hid (RelB w w2 l la lc w1.heap.size ca cc da dc) := rB.out.later hb2); clear hb2 cO rB)
    | (go_at_call 46; (refine (cL _).mono ?_); rintro e w3 ⟨va, vc, rfl, hb3⟩; (have r3 : Hid (RelB w w3 l la lc w1.heap.size ca cc da dc) := r2.out.later hb3); clear hb3 cL r2)
    | (refine wpList_mk _ rfl _ _ 30 rfl 3 iN (.int .i64 0) Try.underlying30 hiN hzN rfl hsN l.length rfl rfl hb8 (by omega) ?_; intro W hwh hbW hsW))
  have s0 : Hid (HSt w l.length w3.heap.size da dc (rel (evf l) l.length).2 (atS l.length ps 0) W ∧ W.heap[w1.heap.size]? = some (.cells #[.slice la l.length lc, .slice ca l.length cc, .slice da (rel (evf l) l.length).2.length dc] 78)) := ⟨⟨by rw [hwh]; simp [atS], own_keep r3.out.e fun b hb' => hbW.block b (blk_lt r3.out.e b hb').2, bthen r3.out.b hbW, fun b hb' => (blk_lt r3.out.e b hb').2, r3.out.b.size⟩, (r3.out.later hbW).r⟩
  have hlt : Hid (w1.heap.size < w3.heap.size) := (Array.getElem?_eq_some_iff.mp r3.out.r).1
  clear hwh hbW hsW r3
  generalize w3.heap.size = A at *
  generalize w1.heap.size = Rr at *
  generalize (rel (evf l) l.length).2 = E at *
  have hEI : (E.length : Int) ≤ 65536 := by have := hElH.out; omega
  go_loopw [43] (fun u wr => ∃ k : Nat, k ≤ ps.length ∧ u = .int .i64 k ∧ Hid (HSt w l.length A da dc E (atS l.length ps k) wr ∧ wr.heap[Rr]? = some (.cells #[.slice la l.length lc, .slice ca l.length cc, .slice da E.length dc] 78))) (fun u _ => ps.length - (intOf u).toNat)
  case atStart => exact ⟨0, Nat.zero_le _, rfl, s0⟩
  case round =>
    obtain ⟨k, hk, rfl, hs⟩ := hrel
    clear s0
    by_cases hkl : k < ps.length
    · obtain ⟨y, hy, hym⟩ := get_lt ps k hkl
      obtain ⟨y0, y1⟩ := hinH.out y hym
      obtain ⟨b1, o1, hix1, hbl1, c1⟩ := ch_ix (hpH.out.later hs.out.1.b) k y hy
      obtain ⟨a, rfl⟩ := Int.eq_ofNat_of_zero_le y0
      have hkI : (k : Int) < ps.length := by omega
      have xA := ix_int A l.length a (by omega)
      have hcl : Hid (wr.cell? ⟨A, a, none⟩ = some (.int .i64 ((atS l.length ps k).getD a 0)) ∧ wr.frozen? ⟨A, a, none⟩ = false) := hs.out.1.cell (by rw [atS_len]; omega)
      have hnx : Hid (HSt w l.length A da dc E (atS l.length ps (k + 1)) (wr.setCell ⟨A, a, none⟩ (.int .i64 (k : Int))) ∧ (wr.setCell ⟨A, a, none⟩ (.int .i64 (k : Int))).heap[Rr]? = some (.cells #[.slice la l.length lc, .slice ca l.length cc, .slice da E.length dc] 78)) := by
        refine ⟨?_, (Below.heap_setCell _ _ _ _ (by show Rr ≠ A; have := hlt.out; omega)).trans hs.out.2⟩
        rw [← atS_more hy]
        exact hs.out.1.set a k
      clear hs hy hym y0 y1 hbl1
      go_wp2_with (first
        | (refine wpList_puti rfl 3 _ _ rfl ⟨A, a, none⟩ rfl (k : Int) rfl (by kernel_rfl) _ hcl.out.1 hcl.out.2 ?_; intro W3 hW3; (have s3 : Hid (HSt w l.length A da dc E (atS l.length ps (k + 1)) W3 ∧ W3.heap[Rr]? = some (.cells #[.slice la l.length lc, .slice ca l.length cc, .slice da E.length dc] 78)) := by (rw [hW3]; exact hnx.out)); clear hW3 hnx hcl))
      go_roundw
      case rel => exact ⟨k + 1, by omega, by go_num, s3⟩
      case measure => simp [intOf]; omega
    · have hk2 : k = ps.length := by omega
      subst hk2
      have hx2 := cell_of (k := 2) (v := .slice da E.length dc) hs.out.2 rfl
      have s1 : Hid (HSt w l.length A da dc E (atS l.length ps ps.length) wr) := hs.out.1
      clear hs hpH hinH
      have hsl := atS_len l.length ps ps.length
      generalize atS l.length ps ps.length = s at *
      go_wp2_with fail
      clear hx2
      go_loopw [56] (fun u wr => ∃ k : Nat, k ≤ E.length ∧ u = .int .i64 k ∧ Hid (HSt w l.length A da dc E s wr ∧ ∀ p ∈ E.take k, linOk s p = true)) (fun u _ => E.length - (intOf u).toNat)
      case atStart => exact ⟨0, Nat.zero_le _, rfl, ⟨s1.out, by simp⟩⟩
      case round =>
        obtain ⟨k, hk, rfl, hs⟩ := hrel
        clear s1
        by_cases hlt : k < E.length
        · obtain ⟨p, hp, hpm⟩ := get_lt E k hlt
          obtain ⟨p1, p2⟩ := hpr.out p hpm
          have hkI : (k : Int) < E.length := by omega
          have hr : Rows wr 2 da dc (E.map edg) := own_rows hs.out.1.e fun row hm => by rw [List.mem_map] at hm; obtain ⟨y, _, rfl⟩ := hm; rfl
          obtain ⟨b, o, hix, hbl, hrg⟩ := hr.ix 27 41 Try.underlying27 (by kernel_rfl) (fun wx => Try.sizeOf41 wx) k (row := edg p) (by simp [hp])
          rw [List.length_map] at hix
          have hrH : Hid (wr.rangeAt b o (edg p)) := hrg
          have huP : Hid (Try.prog.underlying 41 = _) := Try.underlying41
          have hiP : Hid ((Try.prog.info? 41).map (·.size) = some 2) := by show _ = _; kernel_rfl
          have hsP : Hid (HSt w l.length A da dc E s (wr.alloc (.cells (edg p).toArray 41))) := hs.out.1.later (boxed wr (.cells (edg p).toArray 41))
          have hPP : Hid ((wr.alloc (.cells (edg p).toArray 41)).heap[wr.heap.size]? = some (.cells (edg p).toArray 41)) := heap_alloc_new wr (.cells (edg p).toArray 41)
          have hall : Hid (∀ p ∈ E.take k, linOk s p = true) := hs.out.2
          clear hr hrg hs
          have hmore : linOk s p = true → Hid (∀ p ∈ E.take (k + 1), linOk s p = true) := fun h => by
            intro q hq
            rw [take_one E k p hp, List.mem_append, List.mem_singleton] at hq
            rcases hq with hq | rfl
            · exact hall.out q hq
            · exact h
          have hbad : linOk s p = false → Hid (R = false) := fun h => by
            show _ = _
            rw [hR.out]
            unfold linB
            rw [List.all_eq_false]
            exact ⟨p, hpm, by rw [h]; decide⟩
          obtain ⟨q, hq⟩ : ∃ q, q = if s.getD p.2 0 < s.getD p.1 0 then (p.2, p.1) else (p.1, p.2) := ⟨_, rfl⟩
          have hqe : eqP q p = linOk s p := by
            rw [hq]
            exact swp_is s p p1
          have heq : ∀ wx, (binOp .neq 41 (.agg (edg q).toArray) (.agg (edg p).toArray)).run Try.prog wx = .ok (.bool (!linOk s p)) wx := fun wx => by rw [run_neP, hqe]
          have cC : ∀ wx, HSt w l.length A da dc E s wx → Calls Try.prog 52 #[.agg (edg p).toArray, .slice (some ⟨A, 0, none⟩) l.length l.length] wx fun e w' => e = .returned (.agg (edg q).toArray) ∧ Below wx.heap.size wx w' := fun wx h => by
            have h1 := (h.cell (j := p.1) (by rw [hsl]; omega)).1
            have h2 := (h.cell (j := p.2) (by rw [hsl]; omega)).1
            exact placed_any p.1 p.2 l.length A _ _ wx (by omega) p2 (Array.getElem?_eq_some_iff.mp h.a).1 h1 h2 q hq
          go_wp2_with (first
            | (refine wpList_load_mid rfl 41 _ rfl b o rfl (edg p) _ hrH.out huP.out rfl hiP.out ?_)
            | (refine wpList_store_new rfl 41 _ _ rfl rfl _ (edg p).toArray rfl (by kernel_rfl) rfl (by simp [edg, Value.oneCell']) ?_))
          obtain ⟨W2, hW2⟩ : ∃ W2, wr.alloc (.cells (edg p).toArray 41) = W2 := ⟨_, rfl⟩
          rw [hW2] at hsP hPP ⊢
          clear hW2 hrH hix hq hqe
          obtain ⟨Sb, hSb⟩ : ∃ Sb, wr.heap.size = Sb := ⟨_, rfl⟩
          rw [hSb] at hPP ⊢
          clear hSb
          have z2 : ∀ sq : Cls (Bey W2), sq.w.rangeAt Sb 0 (edg p) := fun sq q v hv => cell_of ((sq.h.block Sb (Array.getElem?_eq_some_iff.mp hPP.out).1).trans hPP.out) (by rw [Nat.zero_add]; simpa using hv)
          have cC2 : ∀ sq : Cls (Bey W2), Calls Try.prog 52 #[.agg (edg p).toArray, .slice (some ⟨A, 0, none⟩) l.length l.length] sq.w fun e w' => e = .returned (.agg (edg q).toArray) ∧ Below sq.w.heap.size sq.w w' := fun sq => cC sq.w (hsP.out.later sq.h)
          have hneB := bey_some W2
          clear cC
          obtain ⟨v, hv⟩ : ∃ v, linOk s p = v := ⟨_, rfl⟩
          rw [hv] at heq hmore hbad
          clear hv
          simp only [Act.put, List.setIfInBounds_toArray, List.set_cons_zero, List.set_cons_succ]
          cases v
          · have hRf := hbad rfl
            clear hbad hmore
            simp only [Bool.not_false] at heq
            refine wp_region_cls (Bey W2) (by kernel_rfl) (by kernel_rfl) (bey_drew W2) ?_
            repeat (first
              | (go_big_quiet_want; (refine quiet_load_mid 41 _ rfl Sb 0 rfl (edg p) _ z2 huP.out rfl hiP.out ?_); (simp only [Act.put, List.setIfInBounds_toArray, List.set_cons_zero, List.set_cons_succ]); go_big_quiet_on)
              | go_big_quiet_step ((go_at_call 52; exact calls_bey (cC2 _))))
            refine wpQuiet_nil ?_
            intro _ hw'
            obtain ⟨sq, hw''⟩ := hw'
            subst hw''
            clear z2 cC2 hneB heq
            go_wp2
            go_ret2
            exact ⟨by rw [hRf.out]; rfl, bthen hsP.out.b sq.h⟩
          · have hmo := hmore rfl
            clear hbad hmore
            simp only [Bool.not_true] at heq
            refine wp_region_cls (Bey W2) (by kernel_rfl) (by kernel_rfl) (bey_drew W2) ?_
            repeat (first
              | (go_big_quiet_want; (refine quiet_load_mid 41 _ rfl Sb 0 rfl (edg p) _ z2 huP.out rfl hiP.out ?_); (simp only [Act.put, List.setIfInBounds_toArray, List.set_cons_zero, List.set_cons_succ]); go_big_quiet_on)
              | go_big_quiet_step ((go_at_call 52; exact calls_bey (cC2 _))))
            refine wpQuiet_nil ?_
            intro _ hw'
            obtain ⟨sq, hw''⟩ := hw'
            subst hw''
            clear z2 cC2 hneB heq
            go_wp2
            go_roundw
            case rel => exact ⟨k + 1, by omega, by go_num, ⟨hsP.out.later sq.h, hmo.out⟩⟩
            case measure => simp [intOf]; omega
        · have hk2 : k = E.length := by omega
          subst hk2
          have hRt : Hid (R = true) := by
            show _ = _
            rw [hR.out]
            unfold linB
            rw [List.all_eq_true]
            have := hs.out.2
            rwa [List.take_length] at this
          go_wp2
          go_ret2
          exact ⟨by rw [hRt.out]; rfl, hs.out.1.b⟩
end Go.Proofs.Ytkhhkgfaakgdfaa.pg
/- The document's own Cut and Linear; Linear of a list that is no order. -/
namespace Go.Proofs.Ytkhhkgfaakgdfaa.pg
open Go.ChangeShapes Go.WideShapes Go.ChangeAt Go.RowKit Go.Shelf
set_option linter.unusedVariables false
set_option linter.unusedSimpArgs false
set_option maxRecDepth 100000
attribute [local go_sem ↓] Go.wp_at_zero Go.wp_at_succ
def anyJ (ps : List Int) (y : Int) (k : Nat) : Bool := (ps.take k).any fun x => y == x
theorem anyJ_more {ps : List Int} {x y : Int} {k : Nat} (h : ps[k]? = some x) : anyJ ps y (k + 1) = (anyJ ps y k || y == x) := by
  unfold anyJ
  rw [take_one ps k x h, List.any_append]
  simp
set_option maxHeartbeats 1000000 in
theorem rcut_err (l : List Ev) (la : Option Addr) (lc : Nat) (ps : List Int) (pa : Option Addr) (pc : Nat) (w : World) (hlen : l.length ≤ 256) (hp : Rows w 1 pa pc (ps.map chCells)) (c : Int) (hc : plR l.length ps false c) (h0 : c = 2 ∨ c = 1) :
    Calls Try.prog 32 #[.slice la l.length lc, .slice pa ps.length pc] w fun e w' => e = .returned (.tuple #[.bool false, .int .i64 c]) ∧ Below w.heap.size w w' := by
  have cP := rclo_err l la lc ps pa pc w hlen hp c hc h0
  clear hp hc
  rcases h0 with rfl | rfl
  all_goals
    go_enter Try.func32, Try.ntmps32
    go_wp2_with (first
      | (go_at_call 33; (with_reducible refine cP.mono ?_); rintro e w1 ⟨rfl, hb'⟩; (have hb : Hid (Below w.heap.size w w1) := hb'); clear hb' cP))
    go_ret2
    exact ⟨rfl, hb.out⟩
set_option maxHeartbeats 2000000 in
theorem rcut_ok (l : List Ev) (la : Option Addr) (lc : Nat) (ps : List Int) (pa : Option Addr) (pc : Nat) (w : World) (hp : Rows w 1 pa pc (ps.map chCells)) (c : List Int) (hcl : c.length ≤ 256)
    (c1 : Calls Try.prog 33 #[.slice la l.length lc, .slice pa ps.length pc] w fun e w' => ∃ va vc, e = .returned (.tuple #[.slice va c.length vc, .int .i64 0]) ∧ LsS w c va vc w') (R : Bool) (hR : Hid (R = c.all fun y => anyJ ps y ps.length)) :
    Calls Try.prog 32 #[.slice la l.length lc, .slice pa ps.length pc] w fun e w' => e = .returned (.tuple #[.bool R, .int .i64 0]) ∧ Below w.heap.size w w' := by
  have hpI := rows_len hp
  have hpH : Hid (Rows w 1 pa pc (ps.map chCells)) := hp
  have hcI : (c.length : Int) ≤ 256 := by omega
  clear hp
  go_enter Try.func32, Try.ntmps32
  go_wp2_with (first
    | (go_at_call 33; (with_reducible refine c1.mono ?_); rintro e w1 ⟨va, vc, rfl, hs1⟩; (have hs0 : Hid (LsS w c va vc w1) := hs1); clear hs1 c1))
  go_loopw [8] (fun u wr => ∃ i : Nat, i ≤ c.length ∧ u = .int .i64 i ∧ Hid (LsS w c va vc wr ∧ ∀ y ∈ c.take i, anyJ ps y ps.length = true)) (fun u _ => c.length - (intOf u).toNat)
  case atStart => exact ⟨0, Nat.zero_le _, rfl, ⟨hs0.out, by simp⟩⟩
  case round =>
    obtain ⟨i, hi, rfl, hs⟩ := hrel
    clear hs0
    by_cases hlt : i < c.length
    · obtain ⟨y, hy, hym⟩ := get_lt c i hlt
      have hkI : (i : Int) < c.length := by omega
      have hall : Hid (∀ y ∈ c.take i, anyJ ps y ps.length = true) := hs.out.2
      have hs1 : Hid (LsS w c va vc wr) := hs.out.1
      clear hs
      have h00 : anyJ ps y 0 = false := by simp [anyJ]
      go_wp2_with fail
      go_loopw [9, 10] (fun u v wr => ∃ k : Nat, k ≤ ps.length ∧ v = .int .i64 k ∧ u = .bool (anyJ ps y k) ∧ Hid (LsS w c va vc wr)) (fun _ v _ => ps.length - (intOf v).toNat)
      case atStart => exact ⟨0, Nat.zero_le _, rfl, by rw [h00], hs1⟩
      case round =>
        obtain ⟨k, hk2, rfl, rfl, hs2⟩ := hrel
        clear hs1 h00
        by_cases hltk : k < ps.length
        · obtain ⟨x, hx, hxm⟩ := get_lt ps k hltk
          have hkI2 : (k : Int) < ps.length := by omega
          obtain ⟨b1, o1, hix1, hbl1, v1⟩ := ch_ix hs2.out.rows i y hy
          obtain ⟨b2, o2, hix2, hbl2, v2⟩ := ch_ix (hpH.out.later hs2.out.be) k x hx
          have hN : Hid (anyJ ps y (k + 1) = (anyJ ps y k || y == x)) := anyJ_more hx
          obtain ⟨U, hU⟩ : ∃ U, anyJ ps y k = U := ⟨_, rfl⟩
          rw [hU] at hN ⊢
          clear hU hx hxm
          cases U with
          | true =>
            go_wp2_with fail
            go_quiet (fail)
            go_wp2
            go_roundw
            case rel => exact ⟨k + 1, by omega, by go_num, by rw [hN.out]; simp, hs2.out.later (below_drewN (Below.refl _ _) _)⟩
            case measure => simp [intOf]; omega
          | false =>
            obtain ⟨V, hV⟩ : ∃ V, (y == x) = V := ⟨_, rfl⟩
            rw [hV] at hN
            cases V with
            | true =>
              go_wp2_with fail
              go_quiet (fail)
              go_wp2
              go_roundw
              case rel => exact ⟨k + 1, by omega, by go_num, by rw [hN.out]; simp [hV], hs2.out.later (below_drewN (Below.refl _ _) _)⟩
              case measure => simp [intOf]; omega
            | false =>
              go_wp2_with fail
              go_quiet (fail)
              go_wp2
              go_roundw
              case rel => exact ⟨k + 1, by omega, by go_num, by rw [hN.out]; simp [hV], hs2.out.later (below_drewN (Below.refl _ _) _)⟩
              case measure => simp [intOf]; omega
        · have hk3 : k = ps.length := by omega
          subst hk3
          obtain ⟨U, hU⟩ : ∃ U, anyJ ps y ps.length = U := ⟨_, rfl⟩
          rw [hU]
          cases U with
          | true =>
            have hmo : Hid (∀ z ∈ c.take (i + 1), anyJ ps z ps.length = true) := by
              intro z hz
              rw [take_one c i y hy, List.mem_append, List.mem_singleton] at hz
              rcases hz with hz | rfl
              · exact hall.out z hz
              · exact hU
            clear hU
            go_wp2
            go_roundw
            case rel => exact ⟨i + 1, by omega, by go_num, ⟨hs2.out, hmo.out⟩⟩
            case measure => simp [intOf]; omega
          | false =>
            have hRf : Hid (R = false) := by
              show _ = _
              rw [hR.out, List.all_eq_false]
              exact ⟨y, hym, by rw [hU]; decide⟩
            clear hU
            go_wp2
            go_ret2
            exact ⟨by rw [hRf.out]; rfl, hs2.out.be⟩
    · have hk2 : i = c.length := by omega
      subst hk2
      have hRt : Hid (R = true) := by
        show _ = _
        rw [hR.out, List.all_eq_true]
        have := hs.out.2
        rwa [List.take_length] at this
      go_wp2
      go_ret2
      exact ⟨by rw [hRt.out]; rfl, hs.out.1.be⟩
set_option maxHeartbeats 1000000 in
theorem rlin_err (l : List Ev) (la : Option Addr) (lc : Nat) (ps : List Int) (pa : Option Addr) (pc : Nat) (w : World) (hlen : l.length ≤ 256) (hp : Rows w 1 pa pc (ps.map chCells)) (c : Int) (hc : plR l.length ps true c) (h0 : c = 2 ∨ c = 1) :
    Calls Try.prog 31 #[.slice la l.length lc, .slice pa ps.length pc] w fun e w' => e = .returned (.tuple #[.bool false, .int .i64 c]) ∧ Below w.heap.size w w' := by
  have cP := rplaces_any l la lc ps pa pc true w hlen hp c hc
  clear hp hc
  rcases h0 with rfl | rfl
  all_goals
    go_enter Try.func31, Try.ntmps31
    go_wp2_with (first
      | (go_at_call 54; (with_reducible refine cP.mono ?_); rintro e w1 ⟨rfl, hb'⟩; (have hb : Hid (Below w.heap.size w w1) := hb'); clear hb' cP))
    go_ret2
    exact ⟨rfl, hb.out⟩
/-- Nothing that happens before stands behind. -/
def upP (ps : List Int) (B : Nat → Nat → Bool) (i k : Nat) : Prop := B (ps.getD i 0).toNat (ps.getD k 0).toNat = false
set_option maxHeartbeats 2000000 in
theorem rlin_ok (l : List Ev) (la : Option Addr) (lc : Nat) (ps : List Int) (pa : Option Addr) (pc : Nat) (w : World) (hl : Rows w 26 la lc (l.map Ev.cells)) (hlen : l.length ≤ 256) (hp : Rows w 1 pa pc (ps.map chCells)) (hc : plR l.length ps true 0) (hin : ∀ p ∈ ps, 0 ≤ p ∧ p < l.length) {B : Nat → Nat → Bool} (hB : Tells (dpf l) B) (R : Bool) (hR : Hid (R = true ↔ ∀ i, i < ps.length → ∀ k, k < i → upP ps B i k)) :
    Calls Try.prog 31 #[.slice la l.length lc, .slice pa ps.length pc] w fun e w' => e = .returned (.tuple #[.bool R, .int .i64 0]) ∧ Below w.heap.size w w' := by
  have hpI := rows_len hp
  have hlI : (l.length : Int) ≤ 256 := by omega
  have hlH : Hid (Rows w 26 la lc (l.map Ev.cells)) := hl
  have hpH : Hid (Rows w 1 pa pc (ps.map chCells)) := hp
  have hinH : Hid (∀ p ∈ ps, 0 ≤ p ∧ p < l.length) := hin
  have cP := rplaces_any l la lc ps pa pc true w hlen hp 0 hc
  have cM : ∀ wx, Below w.heap.size w wx → Calls Try.prog 26 #[.slice la l.length lc] wx fun e w' => ∃ A rb, e = .returned (.slice (some ⟨A, 0, none⟩) l.length l.length) ∧ RbS wx w' A l.length l.length rb B := fun wx hb => rbef_any l la lc wx (hlH.out.later hb) hlen B hB
  clear hl hp hin hc hB
  go_enter Try.func31, Try.ntmps31
  go_wp2_with (first
    | (go_at_call 54; (with_reducible refine cP.mono ?_); rintro e w1 ⟨rfl, hb'⟩; (have hb : Hid (Below w.heap.size w w1) := hb'); clear hb' cP)
    | (go_at_call 26; (with_reducible refine (cM _ hb.out).mono ?_); rintro e w2 ⟨A, rb, rfl, hm7⟩; (have hm : Hid (Mat w2 w1.heap.size A l.length l.length rb B) := hm7.m); (have hb2 : Hid (Below w.heap.size w w2) := bthen hb.out hm7.b); clear hm7 cM))
  go_loopw [8] (fun u wr => ∃ i : Nat, i ≤ ps.length ∧ u = .int .i64 i ∧ Hid (Below w2.heap.size w2 wr ∧ ∀ j, j < i → ∀ k, k < j → upP ps B j k)) (fun u _ => ps.length - (intOf u).toNat)
  case atStart => exact ⟨0, Nat.zero_le _, rfl, ⟨Below.refl _ _, fun j hj => by omega⟩⟩
  case round =>
    obtain ⟨i, hi, rfl, hs⟩ := hrel
    by_cases hlt : i < ps.length
    · obtain ⟨y, hy, hym⟩ := get_lt ps i hlt
      have hkI : (i : Int) < ps.length := by omega
      have hall : Hid (∀ j, j < i → ∀ k, k < j → upP ps B j k) := hs.out.2
      have hs1 : Hid (Below w2.heap.size w2 wr) := hs.out.1
      obtain ⟨y0, y1⟩ := hinH.out y hym
      obtain ⟨b, rfl⟩ := Int.eq_ofNat_of_zero_le y0
      clear hs
      go_wp2_with fail
      go_loopw [9] (fun v wr => ∃ k : Nat, k ≤ i ∧ v = .int .i64 k ∧ Hid (Below w2.heap.size w2 wr ∧ ∀ q, q < k → upP ps B i q)) (fun v _ => i - (intOf v).toNat)
      case atStart => exact ⟨0, Nat.zero_le _, rfl, ⟨hs1.out, fun q hq => by omega⟩⟩
      case round =>
        obtain ⟨k, hk2, rfl, hs2⟩ := hrel
        clear hs1
        by_cases hltk : k < i
        · obtain ⟨x, hx, hxm⟩ := get_lt ps k (by omega)
          have hkI2 : (k : Int) < i := by omega
          obtain ⟨x0, x1⟩ := hinH.out x hxm
          obtain ⟨a, rfl⟩ := Int.eq_ofNat_of_zero_le x0
          obtain ⟨b1, o1, hix1, hbl1, v1⟩ := ch_ix (hpH.out.later (bthen hb2.out hs2.out.1)) i _ hy
          obtain ⟨b2, o2, hix2, hbl2, v2⟩ := ch_ix (hpH.out.later (bthen hb2.out hs2.out.1)) k _ hx
          have xA := ix_row A l.length b (by omega)
          have xR := ix_bool (rb b) l.length a (by omega)
          have u1 := (hm.out.later hs2.out.1).row (i := b) (by omega) (by omega)
          have u2 := ((hm.out.later hs2.out.1).cell (i := b) (j := a) (by omega) (by omega)).1
          have hup : Hid (upP ps B i k ↔ B b a = false) := by
            show _ ↔ _
            unfold upP
            rw [List.getD_eq_getElem?_getD, List.getD_eq_getElem?_getD, hy, hx]
            exact Iff.rfl
          obtain ⟨V, hV⟩ : ∃ V, B b a = V := ⟨_, rfl⟩
          rw [hV] at u2 hup
          clear hV hx hxm x0 x1
          cases V with
          | true =>
            have hRf : Hid (R = false) := by
              show _ = _
              rw [Bool.eq_false_iff]
              intro q
              exact Bool.noConfusion (hup.out.mp (hR.out.mp q i hlt k hltk))
            go_wp2_with fail
            go_quiet (fail)
            go_wp2
            go_ret2
            exact ⟨by rw [hRf.out]; rfl, below_drewN (bthen hb2.out hs2.out.1) _⟩
          | false =>
            have hmo : Hid (∀ q, q < k + 1 → upP ps B i q) := by
              intro q hq
              by_cases hqk : q = k
              · subst hqk; exact hup.out.mpr rfl
              · exact hs2.out.2 q (by omega)
            go_wp2_with fail
            go_quiet (fail)
            go_wp2
            go_roundw
            case rel => exact ⟨k + 1, by omega, by go_num, ⟨below_drewN hs2.out.1 _, hmo.out⟩⟩
            case measure => simp [intOf]; omega
        · have hk3 : k = i := by omega
          subst hk3
          have hmo : Hid (∀ j, j < k + 1 → ∀ q, q < j → upP ps B j q) := by
            intro j hj
            by_cases hjk : j = k
            · subst hjk; exact hs2.out.2
            · exact hall.out j (by omega)
          go_wp2
          go_roundw
          case rel => exact ⟨k + 1, by omega, by go_num, ⟨hs2.out.1, hmo.out⟩⟩
          case measure => simp [intOf]; omega
    · have hk2 : i = ps.length := by omega
      subst hk2
      have hRt : Hid (R = true) := by
        show _ = _
        rw [hR.out]
        exact hs.out.2
      go_wp2
      go_ret2
      exact ⟨by rw [hRt.out]; rfl, bthen hb2.out hs.out.1⟩
set_option maxHeartbeats 1000000 in
theorem linear_bad (l : List Ev) (la : Option Addr) (lc : Nat) (ps : List Int) (pa : Option Addr) (pc : Nat) (w : World) (hl : Rows w 26 la lc (l.map Ev.cells)) (hp : Rows w 1 pa pc (ps.map chCells)) (hlen : l.length ≤ 256) (hrt : ∀ x ∈ l, rightP x) (hps : ps.length ≤ 256) (hin : ∀ p ∈ ps, 0 ≤ p ∧ p < l.length) (hn : ps.length ≠ l.length ∨ (lst (fOf ps) 256).length ≠ l.length) :
    Calls Try.prog 28 #[.slice la l.length lc, .slice pa ps.length pc] w fun e w' => e = .returned (.tuple #[.bool false, .int .i64 1]) ∧ Below w.heap.size w w' := by
  have c1 := look_any l la lc ps pa pc w hl hp hlen hrt hps hin
  have hpI := rows_len hp
  have hin2 : ∀ p ∈ ps, 0 ≤ p ∧ p < 256 := fun p hp => by have := hin p hp; omega
  have hpH : Hid (Rows w 1 pa pc (ps.map chCells)) := hp
  have hlI2 : (l.length : Int) ≤ 256 := by omega
  obtain ⟨G, hG⟩ : ∃ G, boolRow 256 (fOf ps) = G := ⟨_, rfl⟩
  obtain ⟨q, hq⟩ : ∃ q, (lst (fOf ps) 256).length = q := ⟨_, rfl⟩
  have cO : ∀ wx, Below w.heap.size w wx → Calls Try.prog 51 #[.slice pa ps.length pc] wx fun e w' => e = .returned (.agg G) ∧ Below wx.heap.size wx w' := fun wx hb => by rw [← hG]; exact setOf_any ps pa pc wx (hpH.out.later hb) hin2
  have cL : ∀ wx, Calls Try.prog 46 #[.agg G] wx fun e w' => ∃ va vc, e = .returned (.slice va q vc) ∧ Below wx.heap.size wx w' := fun wx => by
    rw [← hG]
    exact (list_any _ wx).mono (by rintro e w' ⟨va, vc, rfl, h⟩; exact ⟨va, vc, by rw [hq], h.be⟩)
  rw [hq] at hn
  clear hl hp hin hrt hG hin2 hq
  by_cases h1 : ps.length = l.length
  · have hne1 : ((ps.length : Int) != (l.length : Int)) = false := by rw [h1]; simp
    have hne2 : ((q : Int) != (l.length : Int)) = true := by
      rcases hn with h | h
      · exact absurd h1 h
      · simp; omega
    clear hn h1
    go_enter Try.func28, Try.ntmps28
    go_wp2_with (first
      | (go_at_call 42; (refine c1.mono ?_); rintro e w1 ⟨ca, cc, da, dc, rfl, oc', oe', hb'⟩; (have rB : Hid (RelB w _ l la lc w1.heap.size ca cc da dc) := relB_new (Nat.le_refl _) oc' oe' hb'); clear oc' oe' hb' c1)
      | (refine wpList_store_new rfl 78 _ _ rfl rfl _ _ rfl (by kernel_rfl) rfl (one3 _ _ _ _ _ _ _ _ _) ?_)
      | (go_at_call 51; (refine (cO _ rB.out.b).mono ?_); rintro e w2 ⟨rfl, hb2⟩; (have r2 : Hid (Below w.heap.size w w2) := bthen rB.out.b hb2); clear hb2 cO rB)
      | (go_at_call 46; (refine (cL _).mono ?_); rintro e w3 ⟨va, vc, rfl, hb3⟩; (have r3 : Hid (Below w.heap.size w w3) := bthen r2.out hb3); clear hb3 cL r2))
    go_ret2
    exact ⟨rfl, r3.out⟩
  · have hne1 : ((ps.length : Int) != (l.length : Int)) = true := by simp; omega
    clear hn h1 cO cL
    go_enter Try.func28, Try.ntmps28
    go_wp2_with (first
      | (go_at_call 42; (refine c1.mono ?_); rintro e w1 ⟨ca, cc, da, dc, rfl, oc', oe', hb'⟩; (have rB : Hid (RelB w _ l la lc w1.heap.size ca cc da dc) := relB_new (Nat.le_refl _) oc' oe' hb'); clear oc' oe' hb' c1)
      | (refine wpList_store_new rfl 78 _ _ rfl rfl _ _ rfl (by kernel_rfl) rfl (one3 _ _ _ _ _ _ _ _ _) ?_))
    go_ret2
    exact ⟨rfl, rB.out.b⟩
end Go.Proofs.Ytkhhkgfaakgdfaa.pg
