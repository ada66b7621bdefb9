/- look of package order, whole. -/
import Derived.Test.YtafefnkgdnmjbaaGreatDoorM16
import Derived.Test.YtafefnkgdnmjbaaGreatDoorM6
namespace Go.Proofs.YtafefnkgdnmjbaaGreatDoor.pg
open Go.ChangeShapes Go.WideShapes Go.ChangeAt Go.RowKit Go.Shelf
set_option linter.unusedVariables false
set_option linter.unusedSimpArgs false
set_option maxRecDepth 100000
attribute [local go_sem ↓] Go.wp_at_zero Go.wp_at_succ
theorem infoR : (Tryz.prog.info? 138).map (·.size) = some 3 := by kernel_rfl
abbrev relV (ea : Option Addr) (en ec : Nat) (ca : Option Addr) (cn cc : Nat) (da : Option Addr) (dl dc : Nat) : Value := .agg #[.slice ea en ec, .slice ca cn cc, .slice da dl dc]
theorem results_rel {fn : Func} {p q : Tmp} (h : fn.results = #[.cell p 138, .tmp q]) (tmps : Array Value) (w : World) (B : Nat) (cs : Array Value) (v : Value) (hp : tmps.getD p undef = .pointer (some ⟨B, 0, none⟩)) (hq : tmps.getD q undef = v) (hs : cs.size = 3) (hB : w.heap[B]? = some (.cells cs 138)) :
    (results fn tmps).run Tryz.prog w = .ok (.tuple #[.agg cs, v]) w := by
  have hp' : tmps[p]?.getD undef = .pointer (some ⟨B, 0, none⟩) := by simpa using hp
  have hq' : tmps[q]?.getD undef = v := by simpa using hq
  simp [results, h, hp', hq', asAddr, run_loadVar_row w B _ 138 _ _ _ hB Tryz.underlying138 rfl (by rw [hs]; exact infoR)]
theorem one3 (ea : Option Addr) (en ec : Nat) (ca : Option Addr) (cn cc : Nat) (da : Option Addr) (dl dc : Nat) : (#[.slice ea en ec, .slice ca cn cc, .slice da dl dc] : Array Value).all (·.oneCell') = true := by simp [Value.oneCell']
/-- What look hands back of a right trace. -/
def LookPost (l : List Ev) (la : Option Addr) (lc : Nat) (w : World) (e : Ending) (w' : World) : Prop := ∃ ca cc da dc, e = .returned (.tuple #[relV la l.length lc ca l.length cc da (rel (evf l) l.length).2.length dc, .int .i64 0]) ∧ OwnL w' w.heap.size 114 6 ca cc ((rel (evf l) l.length).1.map Ck.cells) ∧ OwnL w' w.heap.size 71 2 da dc ((rel (evf l) l.length).2.map edg) ∧ Below w.heap.size w w'
set_option maxHeartbeats 2000000 in
theorem look_any (l : List Ev) (la : Option Addr) (lc : Nat) (ps : List Int) (pa : Option Addr) (pc : Nat) (w : World) (hl : Rows w 26 la lc (l.map Ev.cells)) (hp : Rows w 1 pa pc (ps.map chCells)) (hlen : l.length ≤ 256) (hrt : ∀ x ∈ l, rightP x) (hps : ps.length ≤ 256) (hin : ∀ p ∈ ps, 0 ≤ p ∧ p < l.length) :
    Calls Tryz.prog 79 #[.slice la l.length lc, .slice pa ps.length pc] w (LookPost l la lc w) := by
  have c1 : ∀ wx, Below w.heap.size w wx → Calls Tryz.prog 86 #[.slice la l.length lc] wx fun e w' => e = .returned (.int .i64 0) ∧ Below wx.heap.size wx w' := fun wx hb => check_any l la lc wx (hl.later hb) 0 (.inr (.inr ⟨hlen, hrt, rfl⟩))
  have hlI := rows_len hl
  have hpI := rows_len hp
  have hlH : Hid (Rows w 26 la lc (l.map Ev.cells)) := hl
  have hpH : Hid (Rows w 1 pa pc (ps.map chCells)) := hp
  have hinH : Hid (∀ p ∈ ps, 0 ≤ p ∧ p < l.length) := hin
  have hrtH : Hid (∀ x ∈ l, rightP x) := hrt
  have hlI2 : (l.length : Int) ≤ 256 := by omega
  have hpI2 : ¬ (256 : Int) < ps.length := by omega
  have bx := boxed w (.cells #[.slice none 0 0, .slice none 0 0, .slice none 0 0] 138)
  have hn := heap_alloc_new w (.cells #[.slice none 0 0, .slice none 0 0, .slice none 0 0] 138)
  clear hl hp hin hrt
  go_enter Tryz.func79, Tryz.ntmps79
  go_wp2_with (first
    | (go_at_call 86; (with_reducible refine (c1 _ bx).mono ?_); rintro e w1 ⟨rfl, hb1⟩))
  have hbw1 : Hid (Below w.heap.size w w1) := bthen bx hb1
  have hn1 : Hid (w1.heap[w.heap.size]? = some (.cells #[.slice none 0 0, .slice none 0 0, .slice none 0 0] 138)) := (hb1.block _ (by rw [World.size_alloc]; omega)).trans hn
  clear c1 bx hn hb1
  go_loopw [23] (fun u wr => ∃ k : Nat, k ≤ ps.length ∧ u = .int .i64 k ∧ wr = w1) (fun u _ => ps.length - (intOf u).toNat)
  case atStart => exact ⟨0, Nat.zero_le _, rfl, rfl⟩
  case round =>
    obtain ⟨k, hk, rfl, rfl⟩ := hrel
    by_cases hlt : k < ps.length
    · obtain ⟨y, hy, hym⟩ := get_lt ps k hlt
      obtain ⟨y0, y1⟩ := hinH.out y hym
      obtain ⟨b1, o1, hix1, hbl1, c1⟩ := ch_ix (hpH.out.later hbw1.out) k y hy
      have hkI : (k : Int) < ps.length := by omega
      have hy0 : ¬ y < 0 := by omega
      have hy1 : ¬ (l.length : Int) ≤ y := by omega
      clear y0 y1
      go_wp2
      go_roundw
      case rel => exact ⟨k + 1, by omega, by go_num, trivial⟩
      case measure => simp [intOf]; omega
    · have hk2 : k = ps.length := by omega
      subst hk2
      clear hlt
      go_wp2_with (first
        | (refine wpList_store_new rfl 138 _ _ rfl rfl _ _ rfl (by kernel_rfl) rfl rfl ?_))
      have hwR : w.heap.size < wr.heap.size := (Array.getElem?_eq_some_iff.mp hn1.out).1
      have s0 : Hid (LSt w l la lc wr.heap.size 0 none 0 none 0 (wr.alloc (objR la l.length lc none 0 0 none 0 0))) := ⟨heap_alloc_new _ _, own_nil_q _ _ _ _, own_nil_q _ _ _ _, fun b hb => by simp [blk] at hb, fun b hb => by simp [blk] at hb, bthen hbw1.out (boxed _ _), ⟨_, rfl, ((boxed wr _).block _ hwR).trans hn1.out⟩, hwR⟩
      generalize wr.alloc (objR la l.length lc none 0 0 none 0 0) = W0 at *
      generalize wr.heap.size = R at *
      clear hn1 hbw1
      go_loopw [41] (fun u wq => ∃ (j : Nat) (ca : Option Addr) (cc : Nat) (da : Option Addr) (dc : Nat), j ≤ l.length ∧ u = .int .i64 j ∧ Hid (LSt w l la lc R j ca cc da dc wq)) (fun u _ => l.length - (intOf u).toNat)
      case atStart => exact ⟨0, none, 0, none, 0, Nat.zero_le _, rfl, s0⟩
      case round =>
        rename World => wq
        obtain ⟨j, ca, cc, da, dc, hj, rfl, hs⟩ := hrel
        by_cases hlt : j < l.length
        · have hkI : (j : Int) < l.length := by omega
          have c2 : Calls Tryz.prog 112 #[.pointer (some ⟨R, 0, none⟩), .int .i64 (j : Int)] wq fun e w' => (∃ v, e = .returned v) ∧ ∃ ca' cc' da' dc', LSt w l la lc R (j + 1) ca' cc' da' dc' w' := add_look w l la lc R j ca cc da dc wq hlH.out hs.out hlen hrtH.out hlt
          clear hs
          go_wp2_with (go_at_call 112; (with_reducible refine c2.mono ?_); rintro e w2 ⟨⟨v, rfl⟩, ca', cc', da', dc', hs2'⟩; (have hs2 : Hid (LSt w l la lc R (j + 1) ca' cc' da' dc' w2) := hs2'); clear hs2' c2)
          go_roundw
          case rel => exact ⟨j + 1, ca', cc', da', dc', by omega, by go_num, hs2⟩
          case measure => simp [intOf]; omega
        · have hk2 : j = l.length := by omega
          subst hk2
          obtain ⟨o, ho, hrs⟩ := hs.out.rs
          have hrsH : Hid (wq.heap[w.heap.size]? = some (.cells o 138)) := hrs
          have hrl : Hid (wq.heap[R]? = some (objR la l.length lc ca l.length cc da (rel (evf l) l.length).2.length dc)) := hs.out.rl
          clear hlt hrs
          go_wp2_with (first
            | (refine wpList_load_row rfl 138 _ rfl R rfl _ _ _ _ hrl.out Tryz.underlying138 rfl infoR ?_)
            | (refine wpList_store_row rfl 138 _ _ rfl w.heap.size _ rfl rfl _ _ hrsH.out infoR ho (one3 _ _ _ _ _ _ _ _ _) ?_))
          have hsz := hs.out.be.size
          refine bodyPost_ret (results_rel Tryz.results79 _ _ w.heap.size #[.slice la l.length lc, .slice ca l.length cc, .slice da (rel (evf l) l.length).2.length dc] (.int .i64 0) rfl rfl rfl (setRow_heap wq w.heap.size _ _ _ _ hrsH.out)) rfl ?_
          refine ⟨ca, cc, da, dc, rfl, own_keep hs.out.ck fun b hb => setRow_other _ _ _ _ (by have := (hs.out.n1 b hb).2.2; omega), own_keep hs.out.ed fun b hb => setRow_other _ _ _ _ (by have := (hs.out.n2 b hb).2; omega), below_setRow hs.out.be (Nat.le_refl _) _⟩
end Go.Proofs.YtafefnkgdnmjbaaGreatDoor.pg
/- The clocks that look tells are the document's: they count the past. -/
namespace Go.Proofs.YtafefnkgdnmjbaaGreatDoor.pg
open Go.ChangeShapes Go.WideShapes Go.ChangeAt Go.RowKit Go.Shelf
set_option linter.unusedVariables false
set_option linter.unusedSimpArgs false
set_option maxRecDepth 100000
theorem of_join {x y : Ck} {a : Nat} (h : a < 6) : (x.join y).of a = max (x.of a) (y.of a) := by
  match a, h with
  | 0, _ => rfl
  | 1, _ => rfl
  | 2, _ => rfl
  | 3, _ => rfl
  | 4, _ => rfl
  | 5, _ => rfl
theorem of_tk {x : Ck} {g a : Nat} (hg : g < 6) (h : a < 6) : (tk x g).of a = x.of a + (if a = g then 1 else 0) := by
  unfold tk
  unfold Ck.of
  rw [put_list]
  have hl : x.list.length = 6 := rfl
  by_cases e : a = g
  · subst e
    rw [if_pos rfl]
    simp [List.getD_eq_getElem?_getD, List.getElem?_set, hl, hg, Ck.of]
  · rw [if_neg e]
    simp [List.getD_eq_getElem?_getD, List.getElem?_set, hl, hg, Ne.symm e]
theorem of_zero {a : Nat} (h : a < 6) : zeroK.of a = 0 := by
  match a, h with
  | 0, _ => rfl
  | 1, _ => rfl
  | 2, _ => rfl
  | 3, _ => rfl
  | 4, _ => rfl
  | 5, _ => rfl
def dpf (l : List Ev) (i j : Nat) : Bool := clash (evf l i).of (evf l j).of
def gof (l : List Ev) (i : Nat) : Nat := (evf l i).go.toNat
theorem own_meets (g : Int) : meets ⟨5, g, true⟩ ⟨5, g, true⟩ = true := by simp [meets]
theorem ord_ok {l : List Ev} (hrt : ∀ x ∈ l, rightP x) : Ord (dpf l) (gof l) l.length := by
  intro i j hij hj hg
  have hi := hrt _ (List.mem_of_getElem? (evf_at (l := l) (i := i) (by omega)))
  have hj2 := hrt _ (List.mem_of_getElem? (evf_at (l := l) (i := j) hj))
  have e : (evf l i).go = (evf l j).go := by
    have h1 := hi.1.1
    have h2 := hj2.1.1
    unfold gof at hg
    omega
  have q1 := hi.2.2.2
  have q2 := hj2.2.2.2
  rw [e] at q1
  exact clash_true q1 q2 (own_meets _)
section
variable {l : List Ev} (hrt : ∀ x ∈ l, rightP x) {B : Nat → Nat → Bool} (hB : Tells (dpf l) B)
include hrt
theorem gof_lt {i : Nat} (hi : i < l.length) : gof l i < 6 := by
  have := (hrt _ (List.mem_of_getElem? (evf_at hi))).1
  unfold gof
  omega
include hB
theorem told_is {cf : Nat → Ck} {j : Nat} (hj : j < l.length) (hcf : ∀ i, i < j → ∀ a, a < 6 → (cf i).of a = (ck B (gof l) i a : Int)) : ∀ k, k ≤ j → ∀ a, a < 6 → (told (evf l) cf j (dn j k)).1.of a = (cnt (fun q => gof l q == a && sB (dpf l) B j (j - k) q) j : Int)
  | 0, _, a, ha => by
    show zeroK.of a = _
    rw [of_zero ha, Nat.sub_zero, zero_eq hB]
    rfl
  | k + 1, hk, a, ha => by
    have ih := told_is hj hcf k (by omega)
    have hi : j - 1 - k < j := by omega
    have e1 : j - k = (j - 1 - k) + 1 := by omega
    have e2 : j - (k + 1) = j - 1 - k := by omega
    rw [dn_more (by omega), told_more, e2]
    rw [e1] at ih
    have hgi : gof l (j - 1 - k) < 6 := gof_lt hrt (by omega)
    have htest : (cf (j - 1 - k)).of (evf l (j - 1 - k)).go.toNat ≤ (told (evf l) cf j (dn j k)).1.of (evf l (j - 1 - k)).go.toNat ↔ sB (dpf l) B j (j - 1 - k + 1) (j - 1 - k) = true := by
      rw [← test_iff hB (ord_ok hrt) hi hj]
      have h1 := hcf (j - 1 - k) hi (gof l (j - 1 - k)) hgi
      have h2 := ih (gof l (j - 1 - k)) hgi
      unfold gof at h1 h2 ⊢
      rw [h1, h2]
      omega
    unfold stp
    by_cases c : (cf (j - 1 - k)).of (evf l (j - 1 - k)).go.toNat ≤ (told (evf l) cf j (dn j k)).1.of (evf l (j - 1 - k)).go.toNat ∨ clash (evf l (j - 1 - k)).of (evf l j).of = false
    · rw [if_pos c, ih a ha]
      have c2 : sB (dpf l) B j (j - 1 - k + 1) (j - 1 - k) = true ∨ dpf l (j - 1 - k) j = false := c.imp htest.mp id
      rw [keep_eq hB c2]
    · rw [if_neg c]
      have c2 : dpf l (j - 1 - k) j = true := by
        unfold dpf
        rw [← Bool.not_eq_false]
        exact fun q => c (.inr q)
      rw [of_join ha, ih a ha, hcf _ hi a ha, join_eq hB (ord_ok hrt) hi hj c2 a]
      rw [Int.max_def, Nat.max_def]
      split <;> split <;> omega
theorem rel_is : ∀ (j : Nat), j ≤ l.length → ∀ i x, (rel (evf l) j).1[i]? = some x → ∀ a, a < 6 → x.of a = (ck B (gof l) i a : Int)
  | 0, _, i, x, h, a, ha => by simp [rel] at h
  | j + 1, hj, i, x, h, a, ha => by
    have ih := rel_is j (by omega)
    have hl := rel_len (evf l) j
    rw [rel] at h
    by_cases e : i < j
    · rw [List.getElem?_append_left (by omega)] at h
      exact ih i x h a ha
    · rw [List.getElem?_append_right (by omega)] at h

      rw [hl] at h
      have hi : i = j := by
        apply Classical.byContradiction
        intro q
        rw [List.getElem?_eq_none (by simp; omega)] at h
        cases h
      subst hi
      rw [Nat.sub_self, List.getElem?_cons_zero, Option.some.injEq] at h
      rw [← h]
      have hgj : (evf l i).go.toNat < 6 := gof_lt hrt (by omega)
      rw [of_tk hgj ha, tick_eq hB]
      have := told_is hrt hB (cf := fun k => (rel (evf l) i).1.getD k zeroK) (j := i) (by omega) (fun k hk b hb => ih k _ (by
        rw [List.getD_eq_getElem?_getD, List.getElem?_eq_getElem (by omega)]; rfl) b hb) i (Nat.le_refl _) a ha
      rw [Nat.sub_self] at this
      rw [this]
      show _ = ((_ + (if a = gof l i then 1 else 0) : Nat) : Int)
      unfold gof
      split <;> simp
end
end Go.Proofs.YtafefnkgdnmjbaaGreatDoor.pg
/- How package order compares two edges. -/
namespace Go.Proofs.YtafefnkgdnmjbaaGreatDoor.pg
open Go.ChangeShapes Go.WideShapes Go.ChangeAt Go.RowKit Go.Shelf
set_option linter.unusedVariables false
set_option linter.unusedSimpArgs false
set_option maxRecDepth 100000
attribute [local go_sem ↓] Go.wp_at_zero Go.wp_at_succ
def cmp2 (a b : Nat × Nat) : Int := if cmpP a.1 b.1 = 0 then cmpP a.2 b.2 else cmpP a.1 b.1
theorem cmpP_val (a b : Int) : cmpP a b = -1 ∧ a < b ∨ cmpP a b = 0 ∧ a = b ∨ cmpP a b = 1 ∧ b < a := by
  unfold cmpP
  split
  · exact .inl ⟨rfl, by assumption⟩
  · split
    · exact .inr (.inr ⟨rfl, by omega⟩)
    · exact .inr (.inl ⟨rfl, by omega⟩)
set_option maxHeartbeats 1000000 in
theorem compare2_any (a b : Nat × Nat) (A B : Nat) (w : World) (a0 : w.cell? ⟨A, 0, none⟩ = some (.int .i64 (a.1 : Int))) (a1 : w.cell? ⟨A, 1, none⟩ = some (.int .i64 (a.2 : Int))) (b0 : w.cell? ⟨B, 0, none⟩ = some (.int .i64 (b.1 : Int))) (b1 : w.cell? ⟨B, 1, none⟩ = some (.int .i64 (b.2 : Int))) :
    Calls Tryz.prog 122 #[.slice (some ⟨A, 0, none⟩) 2 2, .slice (some ⟨B, 0, none⟩) 2 2] w fun e w' => e = .returned (.int .i64 (cmp2 a b)) ∧ w' = w := by
  have c1 : ∀ (x y : Int) wx, Calls Tryz.prog 52 #[.int .i64 x, .int .i64 y] wx _ := fun x y wx => cmp_any x y wx
  go_enter Tryz.func122, Tryz.ntmps122
  go_wp2
  go_loopw [11] (fun u wr => wr = w ∧ (u = .int .i64 0 ∨ u = .int .i64 1 ∧ Hid (cmpP a.1 b.1 = 0) ∨ u = .int .i64 2 ∧ Hid (cmpP a.1 b.1 = 0 ∧ cmpP a.2 b.2 = 0))) (fun u _ => 2 - (intOf u).toNat)
  case atStart => exact ⟨rfl, .inl rfl⟩
  case round =>
    obtain ⟨rfl, rfl | ⟨rfl, h0⟩ | ⟨rfl, h0⟩⟩ := hrel
    · by_cases e : cmpP a.1 b.1 = 0
      · have c2 : ∀ wx, Calls Tryz.prog 52 #[.int .i64 (a.1 : Int), .int .i64 (b.1 : Int)] wx fun e w' => e = .returned (.int .i64 0) ∧ w' = wx := fun wx => by rw [← e]; exact c1 _ _ wx
        have hh : Hid (cmpP a.1 b.1 = 0) := e
        clear e c1
        go_wp2_with (go_at_call 52; (with_reducible refine (c2 _).mono ?_); rintro e w1 ⟨rfl, rfl⟩)
        go_roundw
        case rel => exact ⟨trivial, .inr (.inl ⟨rfl, hh⟩)⟩
        case measure => simp [intOf]
      · have h2 : Hid (cmp2 a b = cmpP a.1 b.1) := by show _ = _; unfold cmp2; rw [if_neg e]
        have e2 : (cmpP a.1 b.1 == 0) = false := by simpa using e
        have c2 := c1 a.1 b.1
        generalize cmpP a.1 b.1 = r at *
        clear c1
        go_wp2_with (go_at_call 52; (with_reducible refine (c2 _).mono ?_); rintro e w1 ⟨rfl, rfl⟩)
        go_ret
        exact ⟨by rw [h2.out]; rfl, rfl⟩
    · by_cases e : cmpP a.2 b.2 = 0
      · have c2 : ∀ wx, Calls Tryz.prog 52 #[.int .i64 (a.2 : Int), .int .i64 (b.2 : Int)] wx fun e w' => e = .returned (.int .i64 0) ∧ w' = wx := fun wx => by rw [← e]; exact c1 _ _ wx
        have hh : Hid (cmpP a.1 b.1 = 0 ∧ cmpP a.2 b.2 = 0) := ⟨h0.out, e⟩
        clear e c1
        go_wp2_with (go_at_call 52; (with_reducible refine (c2 _).mono ?_); rintro e w1 ⟨rfl, rfl⟩)
        go_roundw
        case rel => exact ⟨trivial, .inr (.inr ⟨rfl, hh⟩)⟩
        case measure => simp [intOf]
      · have h2 : Hid (cmp2 a b = cmpP a.2 b.2) := by show _ = _; unfold cmp2; rw [if_pos h0.out]
        have e2 : (cmpP a.2 b.2 == 0) = false := by simpa using e
        have c2 := c1 a.2 b.2
        generalize cmpP a.2 b.2 = r at *
        clear c1
        go_wp2_with (go_at_call 52; (with_reducible refine (c2 _).mono ?_); rintro e w1 ⟨rfl, rfl⟩)
        go_ret
        exact ⟨by rw [h2.out]; rfl, rfl⟩
    · have h2 : Hid (cmp2 a b = 0) := by show _ = _; unfold cmp2; rw [if_pos h0.out.1]; exact h0.out.2
      go_wp2
      go_ret
      exact ⟨by rw [h2.out]; rfl, rfl⟩
abbrev objEdge (p : Nat × Nat) : Obj := .cells #[.int .i64 (p.1 : Int), .int .i64 (p.2 : Int)] 71
theorem sub2 (B : Nat) : ∀ wx, (Instr.sliceAt 71 (.pointer (some ⟨B, 0, none⟩)) none none none).run Tryz.prog wx = .ok (.slice (some ⟨B, 0, none⟩) 2 2) wx := by
  intro wx
  have u := Tryz.underlying71
  have z := Tryz.sizeOf3
  simp [Instr.sliceAt, run_underlying u, asIntOf, go_sem, z]
set_option maxHeartbeats 1000000 in
theorem cmpE_any (a b : Nat × Nat) (w : World) : Calls Tryz.prog 121 #[.agg (edg a).toArray, .agg (edg b).toArray] w fun e w' => e = .returned (.int .i64 (cmp2 a b)) ∧ ∃ q, w' = ((w.alloc (objEdge a)).alloc (objEdge b)).drewN q := by
  have s1 := sub2 w.heap.size
  have s2 := sub2 (w.heap.size + 1)
  have h1 : ((w.alloc (objEdge a)).alloc (objEdge b)).heap[w.heap.size]? = some (objEdge a) := (Below.heap_alloc _ _ _ (by simp [World.size_alloc])).trans (heap_alloc_new w _)
  have h2 : ((w.alloc (objEdge a)).alloc (objEdge b)).heap[w.heap.size + 1]? = some (objEdge b) := by
    have := heap_alloc_new (w.alloc (objEdge a)) (objEdge b)
    rwa [World.size_alloc] at this
  have c1 : ∀ wx, wx.heap[w.heap.size]? = some (objEdge a) → wx.heap[w.heap.size + 1]? = some (objEdge b) → Calls Tryz.prog 122 #[.slice (some ⟨w.heap.size, 0, none⟩) 2 2, .slice (some ⟨w.heap.size + 1, 0, none⟩) 2 2] wx fun e w' => e = .returned (.int .i64 (cmp2 a b)) ∧ w' = wx := fun wx q1 q2 => compare2_any a b _ _ wx (cell_of q1 rfl) (cell_of q1 rfl) (cell_of q2 rfl) (cell_of q2 rfl)
  generalize cmp2 a b = r at *
  show Calls Tryz.prog 121 #[.agg #[.int .i64 (a.1 : Int), .int .i64 (a.2 : Int)], .agg #[.int .i64 (b.1 : Int), .int .i64 (b.2 : Int)]] w _
  go_enter Tryz.func121, Tryz.ntmps121
  go_wp2_with fail
  generalize hWW : (w.alloc (objEdge a)).alloc (objEdge b) = W at *
  refine wp_region_held_drew (S := fun _ => True) (by kernel_rfl) trivial (fun hH => ?_)
  refine reg_move (i := 0) rfl (by kernel_rfl) (by kernel_rfl) (by kernel_rfl) (fun _ _ _ _ h => h) rfl (.slice (some ⟨w.heap.size, 0, none⟩) 2 2) (fun wx => by unfold execOp; exact run_value_of (s1 wx)) hH ?_
  simp only [Act.put, List.getElem_toArray, List.getElem_cons_succ, List.getElem_cons_zero, List.setIfInBounds_toArray, List.set_cons_zero, List.set_cons_succ]
  refine reg_move (i := 1) rfl (by kernel_rfl) (by kernel_rfl) (by kernel_rfl) (fun _ _ _ _ h => h) rfl (.slice (some ⟨w.heap.size + 1, 0, none⟩) 2 2) (fun wx => by unfold execOp; exact run_value_of (s2 wx)) hH ?_
  simp only [Act.put, List.getElem_toArray, List.getElem_cons_succ, List.getElem_cons_zero, List.setIfInBounds_toArray, List.set_cons_zero, List.set_cons_succ]
  refine reg_call2 (i := 2) (by kernel_rfl) rfl rfl 122 _ _ _ _ rfl (.slice (some ⟨w.heap.size, 0, none⟩) 2 2) (.slice (some ⟨w.heap.size + 1, 0, none⟩) 2 2) rfl rfl (cf_fn Tryz.func122 (by kernel_rfl) (by kernel_rfl) _ _) _ (c1 _ h1 h2) ?_
  rintro e w1 ⟨rfl, rfl⟩
  refine ⟨_, rfl, trivial, fun _ => ?_⟩
  simp only [Act.put, List.getElem_toArray, List.getElem_cons_succ, List.getElem_cons_zero, List.setIfInBounds_toArray, List.set_cons_zero, List.set_cons_succ]
  refine reg_move (i := 3) rfl (by kernel_rfl) (by kernel_rfl) (by kernel_rfl) (fun _ _ _ _ h => h) rfl _ (fun _ => rfl) trivial ?_
  simp only [Act.put, List.getElem_toArray, List.getElem_cons_succ, List.getElem_cons_zero, List.setIfInBounds_toArray, List.set_cons_zero, List.set_cons_succ]
  refine wpAnyH_done (by kernel_rfl) ?_ _
  go_wp2
  go_ret
  exact ⟨rfl, 1, by rw [hWW]; rfl⟩
end Go.Proofs.YtafefnkgdnmjbaaGreatDoor.pg
