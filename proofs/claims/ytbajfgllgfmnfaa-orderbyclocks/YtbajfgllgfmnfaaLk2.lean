/- look of package order, whole. -/
import Derived.Test.YtbajfgllgfmnfaaLk1
import Derived.Test.YtbajfgllgfmnfaaMem
namespace Go.Proofs.Ytbajfgllgfmnfaa.pg
open Go.ChangeShapes Go.WideShapes Go.ChangeAt Go.RowKit Go.Shelf
set_option linter.unusedVariables false
set_option linter.unusedSimpArgs false
set_option maxRecDepth 100000
attribute [local go_sem ↓] Go.wp_at_zero Go.wp_at_succ
theorem infoR : (Try.prog.info? 69).map (·.size) = some 3 := by kernel_rfl
abbrev relV (ea : Option Addr) (en ec : Nat) (ca : Option Addr) (cn cc : Nat) (da : Option Addr) (dl dc : Nat) : Value := .agg #[.slice ea en ec, .slice ca cn cc, .slice da dl dc]
theorem results_rel {fn : Func} {p q : Tmp} (h : fn.results = #[.cell p 69, .tmp q]) (tmps : Array Value) (w : World) (B : Nat) (cs : Array Value) (v : Value) (hp : tmps.getD p undef = .pointer (some ⟨B, 0, none⟩)) (hq : tmps.getD q undef = v) (hs : cs.size = 3) (hB : w.heap[B]? = some (.cells cs 69)) :
    (results fn tmps).run Try.prog w = .ok (.tuple #[.agg cs, v]) w := by
  have hp' : tmps[p]?.getD undef = .pointer (some ⟨B, 0, none⟩) := by simpa using hp
  have hq' : tmps[q]?.getD undef = v := by simpa using hq
  simp [results, h, hp', hq', asAddr, run_loadVar_row w B _ 69 _ _ _ hB Try.underlying69 rfl (by rw [hs]; exact infoR)]
theorem one3 (ea : Option Addr) (en ec : Nat) (ca : Option Addr) (cn cc : Nat) (da : Option Addr) (dl dc : Nat) : (#[.slice ea en ec, .slice ca cn cc, .slice da dl dc] : Array Value).all (·.oneCell') = true := by simp [Value.oneCell']
/-- What look hands back of a right trace. -/
def LookPost (l : List Ev) (la : Option Addr) (lc : Nat) (w : World) (e : Ending) (w' : World) : Prop := ∃ ca cc da dc, e = .returned (.tuple #[relV la l.length lc ca l.length cc da (rel (evf l) l.length).2.length dc, .int .i64 0]) ∧ OwnL w' w.heap.size 40 6 ca cc ((rel (evf l) l.length).1.map Ck.cells) ∧ OwnL w' w.heap.size 41 2 da dc ((rel (evf l) l.length).2.map edg) ∧ Below w.heap.size w w'
set_option maxHeartbeats 2000000 in
theorem look_any (l : List Ev) (la : Option Addr) (lc : Nat) (ps : List Int) (pa : Option Addr) (pc : Nat) (w : World) (hl : Rows w 26 la lc (l.map Ev.cells)) (hp : Rows w 1 pa pc (ps.map chCells)) (hlen : l.length ≤ 256) (hrt : ∀ x ∈ l, rightP x) (hps : ps.length ≤ 256) (hin : ∀ p ∈ ps, 0 ≤ p ∧ p < l.length) :
    Calls Try.prog 32 #[.slice la l.length lc, .slice pa ps.length pc] w (LookPost l la lc w) := by
  have c1 : ∀ wx, Below w.heap.size w wx → Calls Try.prog 46 #[.slice la l.length lc] wx fun e w' => e = .returned (.int .i64 0) ∧ Below wx.heap.size wx w' := fun wx hb => check_any l la lc wx (hl.later hb) 0 (.inr (.inr ⟨hlen, hrt, rfl⟩))
  have hlI := rows_len hl
  have hpI := rows_len hp
  have hlH : Hid (Rows w 26 la lc (l.map Ev.cells)) := hl
  have hpH : Hid (Rows w 1 pa pc (ps.map chCells)) := hp
  have hinH : Hid (∀ p ∈ ps, 0 ≤ p ∧ p < l.length) := hin
  have hrtH : Hid (∀ x ∈ l, rightP x) := hrt
  have hlI2 : (l.length : Int) ≤ 256 := by omega
  have hpI2 : ¬ (256 : Int) < ps.length := by omega
  have bx := boxed w (.cells #[.slice none 0 0, .slice none 0 0, .slice none 0 0] 69)
  have hn := heap_alloc_new w (.cells #[.slice none 0 0, .slice none 0 0, .slice none 0 0] 69)
  clear hl hp hin hrt
  go_enter Try.func32, Try.ntmps32
  go_wp2_with (first
    | (go_at_call 46; (with_reducible refine (c1 _ bx).mono ?_); rintro e w1 ⟨rfl, hb1⟩))
  have hbw1 : Hid (Below w.heap.size w w1) := bthen bx hb1
  have hn1 : Hid (w1.heap[w.heap.size]? = some (.cells #[.slice none 0 0, .slice none 0 0, .slice none 0 0] 69)) := (hb1.block _ (by rw [World.size_alloc]; omega)).trans hn
  clear c1 bx hn hb1
  go_loopw [23] (fun u wr => ∃ k : Nat, k ≤ ps.length ∧ u = .int .i64 k ∧ wr = w1) (fun u _ => ps.length - (intOf u).toNat)
  case atStart => exact ⟨0, Nat.zero_le _, rfl, rfl⟩
  case round =>
    obtain ⟨k, hk, rfl, rfl⟩ := hrel
    by_cases hlt : k < ps.length
    · obtain ⟨y, hy, hym⟩ := get_lt ps k hlt
      obtain ⟨y0, y1⟩ := hinH.out y hym
      obtain ⟨b1, o1, hix1, hbl1, c1⟩ := ch_ix (hpH.out.later hbw1.out) k y hy
      have hkI : (k : Int) < ps.length := by omega
      have hy0 : ¬ y < 0 := by omega
      have hy1 : ¬ (l.length : Int) ≤ y := by omega
      clear y0 y1
      go_wp2
      go_roundw
      case rel => exact ⟨k + 1, by omega, by go_num, trivial⟩
      case measure => simp [intOf]; omega
    · have hk2 : k = ps.length := by omega
      subst hk2
      clear hlt
      go_wp2_with (first
        | (refine wpList_store_new rfl 69 _ _ rfl rfl _ _ rfl (by kernel_rfl) rfl rfl ?_))
      have hwR : w.heap.size < wr.heap.size := (Array.getElem?_eq_some_iff.mp hn1.out).1
      have s0 : Hid (LSt w l la lc wr.heap.size 0 none 0 none 0 (wr.alloc (objR la l.length lc none 0 0 none 0 0))) := ⟨heap_alloc_new _ _, own_nil_q _ _ _ _, own_nil_q _ _ _ _, fun b hb => by simp [blk] at hb, fun b hb => by simp [blk] at hb, bthen hbw1.out (boxed _ _), ⟨_, rfl, ((boxed wr _).block _ hwR).trans hn1.out⟩, hwR⟩
      generalize wr.alloc (objR la l.length lc none 0 0 none 0 0) = W0 at *
      generalize wr.heap.size = R at *
      clear hn1 hbw1
      go_loopw [41] (fun u wq => ∃ (j : Nat) (ca : Option Addr) (cc : Nat) (da : Option Addr) (dc : Nat), j ≤ l.length ∧ u = .int .i64 j ∧ Hid (LSt w l la lc R j ca cc da dc wq)) (fun u _ => l.length - (intOf u).toNat)
      case atStart => exact ⟨0, none, 0, none, 0, Nat.zero_le _, rfl, s0⟩
      case round =>
        rename World => wq
        obtain ⟨j, ca, cc, da, dc, hj, rfl, hs⟩ := hrel
        by_cases hlt : j < l.length
        · have hkI : (j : Int) < l.length := by omega
          have c2 : Calls Try.prog 47 #[.pointer (some ⟨R, 0, none⟩), .int .i64 (j : Int)] wq fun e w' => (∃ v, e = .returned v) ∧ ∃ ca' cc' da' dc', LSt w l la lc R (j + 1) ca' cc' da' dc' w' := add_look w l la lc R j ca cc da dc wq hlH.out hs.out hlen hrtH.out hlt
          clear hs
          go_wp2_with (go_at_call 47; (with_reducible refine c2.mono ?_); rintro e w2 ⟨⟨v, rfl⟩, ca', cc', da', dc', hs2'⟩; (have hs2 : Hid (LSt w l la lc R (j + 1) ca' cc' da' dc' w2) := hs2'); clear hs2' c2)
          go_roundw
          case rel => exact ⟨j + 1, ca', cc', da', dc', by omega, by go_num, hs2⟩
          case measure => simp [intOf]; omega
        · have hk2 : j = l.length := by omega
          subst hk2
          obtain ⟨o, ho, hrs⟩ := hs.out.rs
          have hrsH : Hid (wq.heap[w.heap.size]? = some (.cells o 69)) := hrs
          have hrl : Hid (wq.heap[R]? = some (objR la l.length lc ca l.length cc da (rel (evf l) l.length).2.length dc)) := hs.out.rl
          clear hlt hrs
          go_wp2_with (first
            | (refine wpList_load_row rfl 69 _ rfl R rfl _ _ _ _ hrl.out Try.underlying69 rfl infoR ?_)
            | (refine wpList_store_row rfl 69 _ _ rfl w.heap.size _ rfl rfl _ _ hrsH.out infoR ho (one3 _ _ _ _ _ _ _ _ _) ?_))
          have hsz := hs.out.be.size
          refine bodyPost_ret (results_rel Try.results32 _ _ w.heap.size #[.slice la l.length lc, .slice ca l.length cc, .slice da (rel (evf l) l.length).2.length dc] (.int .i64 0) rfl rfl rfl (setRow_heap wq w.heap.size _ _ _ _ hrsH.out)) rfl ?_
          refine ⟨ca, cc, da, dc, rfl, own_keep hs.out.ck fun b hb => setRow_other _ _ _ _ (by have := (hs.out.n1 b hb).2.2; omega), own_keep hs.out.ed fun b hb => setRow_other _ _ _ _ (by have := (hs.out.n2 b hb).2; omega), below_setRow hs.out.be (Nat.le_refl _) _⟩
end Go.Proofs.Ytbajfgllgfmnfaa.pg
