/- Edges of package order. -/
import Derived.Test.YtkhhkgfaakgdfaaM29
import Derived.Test.YtkhhkgfaakgdfaaM24
import Derived.Test.YtkhhkgfaakgdfaaM25
namespace Go.Proofs.Ytkhhkgfaakgdfaa.pg
open Go.ChangeShapes Go.WideShapes Go.ChangeAt Go.RowKit Go.Shelf
set_option linter.unusedVariables false
set_option linter.unusedSimpArgs false
set_option maxRecDepth 100000
attribute [local go_sem ↓] Go.wp_at_zero Go.wp_at_succ
set_option maxHeartbeats 1000000 in
theorem ins_nil (w : World) : Calls Try.prog 79 #[.slice none 0 0, .int .i64 0, .int .i64 0, .func (.func 44) #[] #[]] w fun e w' => (∃ v, e = .returned v) ∧ w' = w := by
  go_enter Try.func79, Try.ntmps79
  go_wp2
  go_loopw [8] (fun u wr => u = .int .i64 1 ∧ wr = w) (fun _ _ => 0)
  case atStart => exact ⟨rfl, rfl⟩
  case round =>
    obtain ⟨rfl, rfl⟩ := hrel
    go_wp2
    go_end0
    exact ⟨⟨_, rfl⟩, rfl⟩
set_option maxHeartbeats 1000000 in
theorem pdq_nil (n : Int) (w : World) : Calls Try.prog 66 #[.slice none 0 0, .int .i64 0, .int .i64 0, .int .i64 n, .func (.func 44) #[] #[]] w fun e w' => (∃ v, e = .returned v) ∧ w' = w := by
  have c1 := ins_nil w
  go_enter Try.func66, Try.ntmps66
  go_wp2_with fail
  refine wp_loop_once ?_
  go_wp2_with (go_at_call 79; (with_reducible refine c1.mono ?_); rintro e w' ⟨⟨v, rfl⟩, rfl⟩)
  exact bodyPost_ret (results_none rfl _ _ _) rfl ⟨⟨_, rfl⟩, rfl⟩
theorem len0 (w : World) : Calls Try.prog 67 #[.int .u64 0] w fun e w' => (∃ n, e = .returned (.int .i64 n)) ∧ w' = w := by
  have h := Try.bits_Len 0 w (by omega) (by omega)
  exact h.mono fun e w' ⟨he, hw⟩ => ⟨⟨_, he⟩, hw⟩
set_option maxHeartbeats 1000000 in
theorem sort_nil (w : World) : Calls Try.prog 43 #[.slice none 0 0, .func (.func 44) #[] #[]] w fun e w' => (∃ v, e = .returned v) ∧ w' = w := by
  have c1 := len0 w
  have c2 := fun n => pdq_nil n w
  go_enter Try.func43, Try.ntmps43
  go_wp2_with (first | (go_at_call 67; (with_reducible refine c1.mono ?_); rintro e w' ⟨⟨v, rfl⟩, rfl⟩) | (go_at_call 66; (with_reducible refine (c2 _).mono ?_); rintro e w' ⟨⟨v2, rfl⟩, rfl⟩))
  go_end0
  exact ⟨⟨_, rfl⟩, rfl⟩
theorem own_nil_is {w : World} {lo e k cap : Nat} {L : List (List Value)} (h : OwnL w lo e k none cap L) : L = [] ∧ cap = 0 := by
  rcases own_block h with ⟨_, h1, h2⟩ | ⟨g, h1, _⟩
  · exact ⟨List.length_eq_zero_iff.mp h1, h2⟩
  · cases h1
/-- Sorting a list of the call's own, nil too. -/
theorem sortE_any (da : Option Addr) (cap lo : Nat) (E : List (Nat × Nat)) (w : World) (hE : OwnL w lo 41 2 da cap (E.map edg)) (hlen : E.length ≤ 65536) :
    Calls Try.prog 43 #[.slice da E.length cap, .func (.func 44) #[] #[]] w fun e w' => (∃ v, e = .returned v) ∧ ∃ D : List (Nat × Nat), D.Perm E ∧ D.Pairwise lex ∧ Rows w' 2 da cap (D.map edg) ∧ (∀ b, b < w.heap.size → b ∉ blk da → w'.heap[b]? = w.heap[b]?) ∧ Below lo w w' := by
  cases da with
  | none =>
    obtain ⟨h1, rfl⟩ := own_nil_is hE
    have hE0 : E = [] := by simpa using h1
    subst hE0
    exact (sort_nil w).mono fun e w' ⟨hv, hw⟩ => ⟨hv, [], .refl _, .nil, by rw [hw]; exact ⟨by simp, by omega, fun _ => ⟨rfl, rfl⟩, .inl rfl⟩, fun b _ _ => by rw [hw], by rw [hw]; exact Below.refl _ _⟩
  | some ad =>
    rcases own_block hE with ⟨h1, _⟩ | ⟨g, h1, h2, h3⟩
    · cases h1
    · cases h1
      exact (sort_any g cap lo E w hE hlen).mono fun e w' ⟨he, D, q1, q2, q3, q4, q5⟩ => ⟨⟨_, he⟩, D, q1, q2, q3, fun b b1 b2 => q4 b b1 fun q => b2 (by simp [blk, q]), q5⟩
set_option maxHeartbeats 1000000 in
theorem edges_ok (l : List Ev) (la : Option Addr) (lc : Nat) (w : World) (hl : Rows w 26 la lc (l.map Ev.cells)) (hlen : l.length ≤ 256) (hrt : ∀ x ∈ l, rightP x) :
    Calls Try.prog 12 #[.slice la l.length lc] w fun e w' => ∃ da dc, ∃ D : List (Nat × Nat), e = .returned (.tuple #[.slice da D.length dc, .int .i64 0]) ∧ D.Perm (rel (evf l) l.length).2 ∧ D.Pairwise lex ∧ Rows w' 2 da dc (D.map edg) ∧ Below w.heap.size w w' := by
  have c1 : Calls Try.prog 42 #[.slice la l.length lc, .slice none 0 0] w (LookPost l la lc w) := look_any l la lc [] none 0 w hl (rows_nil1 w) hlen hrt (by simp) (by simp)
  have hEl : (rel (evf l) l.length).2.length ≤ 65536 := by have := rel_edges (evf l) l.length hlen; omega
  have hElH : Hid ((rel (evf l) l.length).2.length ≤ 65536) := hEl
  clear hl hrt hEl
  go_enter Try.func12, Try.ntmps12
  go_wp2_with (first
    | (go_at_call 42; (with_reducible refine c1.mono ?_); rintro e w1 ⟨ca, cc, da, dc, rfl, _, oe', hb'⟩; (have oe : Hid (OwnL (w1.alloc (.cells #[.slice la l.length lc, .slice ca l.length cc, .slice da (rel (evf l) l.length).2.length dc] 78)) w.heap.size 41 2 da dc ((rel (evf l) l.length).2.map edg)) := own_keep oe' fun b hb' => (boxed w1 _).block b (blk_lt oe' b hb').2); (have hb : Hid (Below w.heap.size w (w1.alloc (.cells #[.slice la l.length lc, .slice ca l.length cc, .slice da (rel (evf l) l.length).2.length dc] 78))) := bthen hb' (boxed _ _)); (have hn : (w1.alloc (.cells #[.slice la l.length lc, .slice ca l.length cc, .slice da (rel (evf l) l.length).2.length dc] 78)).heap[w1.heap.size]? = some (.cells #[.slice la l.length lc, .slice ca l.length cc, .slice da (rel (evf l) l.length).2.length dc] 78) := heap_alloc_new _ _); (have hx := cell_of (k := 2) (v := .slice da (rel (evf l) l.length).2.length dc) hn rfl); (have hnb : Hid (w1.heap.size ∉ blk da) := fun q => by have := (blk_lt oe' _ q).2; omega); (have hnH : Hid _ := hn); clear oe' hb' c1 hn)
    | (refine wpList_store_new rfl 78 _ _ rfl rfl _ _ rfl (by kernel_rfl) rfl (one3 _ _ _ _ _ _ _ _ _) ?_)
    | (go_at_call 43; (refine (sortE_any da dc w.heap.size _ _ oe.out hElH.out).mono ?_); rintro e w2 ⟨⟨v, rfl⟩, D, q1, q2, q3, q4, q5⟩; (have hx2 := cell_of (k := 2) (v := .slice da (rel (evf l) l.length).2.length dc) ((q4 _ (by rw [World.size_alloc]; omega) hnb.out).trans hnH.out) rfl); (have qH : Hid (D.Perm (rel (evf l) l.length).2 ∧ D.Pairwise lex ∧ Rows w2 2 da dc (D.map edg) ∧ Below w.heap.size w w2) := ⟨q1, q2, q3, hb.out.trans q5⟩); clear q1 q2 q3 q4 q5))
  go_ret2
  exact ⟨da, dc, D, by rw [qH.out.1.length_eq]; rfl, qH.out⟩
end Go.Proofs.Ytkhhkgfaakgdfaa.pg
/- look of package order, of places that are wrong; and what every call that looks answers then. -/
namespace Go.Proofs.Ytkhhkgfaakgdfaa.pg
open Go.ChangeShapes Go.WideShapes Go.ChangeAt Go.RowKit Go.Shelf
set_option linter.unusedVariables false
set_option linter.unusedSimpArgs false
set_option maxRecDepth 100000
attribute [local go_sem ↓] Go.wp_at_zero Go.wp_at_succ
/-- What look tells of events and places that are not right. -/
def lookP (l : List Ev) (ps : List Int) (c : Int) : Prop := (checkP l c ∧ (c = 2 ∨ c = 7)) ∨ (checkP l 0 ∧ (256 < ps.length ∧ c = 2 ∨ ps.length ≤ 256 ∧ (∃ p ∈ ps, ¬ (0 ≤ p ∧ p < l.length)) ∧ c = 1))
def inR (l : List Ev) (p : Int) : Prop := 0 ≤ p ∧ p < l.length
theorem look_ex {l : List Ev} (ps : List Int) : (checkP l 0 ∧ ps.length ≤ 256 ∧ ∀ p ∈ ps, 0 ≤ p ∧ p < l.length) ∨ ∃ c, lookP l ps c := by
  obtain ⟨c, hc⟩ := check_ex l
  by_cases h0 : c = 0
  · subst h0
    by_cases h1 : ps.length ≤ 256
    · by_cases h2 : ∀ p ∈ ps, 0 ≤ p ∧ p < l.length
      · exact .inl ⟨hc, h1, h2⟩
      · right
        refine ⟨1, .inr ⟨hc, .inr ⟨h1, ?_, rfl⟩⟩⟩
        apply Classical.byContradiction
        intro q
        exact h2 fun p hp => Classical.byContradiction fun q2 => q ⟨p, hp, q2⟩
    · exact .inr ⟨2, .inr ⟨hc, .inl ⟨by omega, rfl⟩⟩⟩
  · exact .inr ⟨c, .inl ⟨hc, by rcases hc with ⟨_, q⟩ | ⟨_, _, q⟩ | ⟨_, _, q⟩ <;> omega⟩⟩
set_option maxHeartbeats 2000000 in
theorem look_long (l : List Ev) (la : Option Addr) (lc : Nat) (n : Nat) (pa : Option Addr) (pc : Nat) (w : World) (hl : Rows w 26 la lc (l.map Ev.cells)) (hc : checkP l 0) (hn : 256 < n) (hnI : (n : Int) ≤ 9223372036854775807) :
    Calls Try.prog 42 #[.slice la l.length lc, .slice pa n pc] w fun e w' => e = .returned (.tuple #[relZ, .int .i64 2]) ∧ Below w.heap.size w w' := by
  have c1 : ∀ wx, Below w.heap.size w wx → Calls Try.prog 35 #[.slice la l.length lc] wx fun e w' => e = .returned (.int .i64 0) ∧ Below wx.heap.size wx w' := fun wx hb => check_any l la lc wx (hl.later hb) 0 hc
  have hlI := rows_len hl
  have hnI2 : (256 : Int) < n := by omega
  have bx := boxed w (.cells #[.slice none 0 0, .slice none 0 0, .slice none 0 0] 78)
  have hn := heap_alloc_new w (.cells #[.slice none 0 0, .slice none 0 0, .slice none 0 0] 78)
  clear hl hc
  go_enter Try.func42, Try.ntmps42
  go_wp2_with (first
    | (go_at_call 35; (with_reducible refine (c1 _ bx).mono ?_); rintro e w1 ⟨rfl, hb1⟩; (have hn1 : Hid (w1.heap[w.heap.size]? = some (.cells #[.slice none 0 0, .slice none 0 0, .slice none 0 0] 78)) := (hb1.block _ (by rw [World.size_alloc]; omega)).trans hn); (have hbw1 : Hid (Below w.heap.size w w1) := bthen bx hb1); clear hb1 c1 bx hn)
    | (refine wpList_store_row rfl 78 _ _ rfl w.heap.size _ rfl rfl _ _ hn1.out infoR rfl (one3 _ _ _ _ _ _ _ _ _) ?_))
  exact bodyPost_ret (results_rel Try.results42 _ _ w.heap.size #[.slice none 0 0, .slice none 0 0, .slice none 0 0] _ rfl rfl rfl (setRow_heap _ w.heap.size _ _ _ _ hn1.out)) rfl ⟨rfl, below_setRow hbw1.out (Nat.le_refl _) _⟩
set_option maxHeartbeats 2000000 in
theorem look_out (l : List Ev) (la : Option Addr) (lc : Nat) (ps : List Int) (pa : Option Addr) (pc : Nat) (w : World) (hl : Rows w 26 la lc (l.map Ev.cells)) (hp : Rows w 1 pa pc (ps.map chCells)) (hc : checkP l 0) (hps : ps.length ≤ 256) (hin : ∃ p ∈ ps, ¬ (0 ≤ p ∧ p < l.length)) :
    Calls Try.prog 42 #[.slice la l.length lc, .slice pa ps.length pc] w fun e w' => e = .returned (.tuple #[relZ, .int .i64 1]) ∧ Below w.heap.size w w' := by
  have c1 : ∀ wx, Below w.heap.size w wx → Calls Try.prog 35 #[.slice la l.length lc] wx fun e w' => e = .returned (.int .i64 0) ∧ Below wx.heap.size wx w' := fun wx hb => check_any l la lc wx (hl.later hb) 0 hc
  have hlI := rows_len hl
  have hpI := rows_len hp
  have hpH : Hid (Rows w 1 pa pc (ps.map chCells)) := hp
  have hinH : Hid (∃ p ∈ ps, ¬ (0 ≤ p ∧ p < l.length)) := hin
  have hpI2 : ¬ (256 : Int) < ps.length := by omega
  have bx := boxed w (.cells #[.slice none 0 0, .slice none 0 0, .slice none 0 0] 78)
  have hn := heap_alloc_new w (.cells #[.slice none 0 0, .slice none 0 0, .slice none 0 0] 78)
  clear hl hp hin hc
  go_enter Try.func42, Try.ntmps42
  go_wp2_with (first
    | (go_at_call 35; (with_reducible refine (c1 _ bx).mono ?_); rintro e w1 ⟨rfl, hb1⟩))
  have hbw1 : Hid (Below w.heap.size w w1) := bthen bx hb1
  have hn1 : Hid (w1.heap[w.heap.size]? = some (.cells #[.slice none 0 0, .slice none 0 0, .slice none 0 0] 78)) := (hb1.block _ (by rw [World.size_alloc]; omega)).trans hn
  clear c1 bx hn hb1
  go_loopw [23] (fun u wr => ∃ k : Nat, k ≤ ps.length ∧ u = .int .i64 k ∧ wr = w1 ∧ Hid (∀ p ∈ ps.take k, 0 ≤ p ∧ p < l.length)) (fun u _ => ps.length - (intOf u).toNat)
  case atStart => exact ⟨0, Nat.zero_le _, rfl, rfl, fun p hp => by simp at hp⟩
  case round =>
    obtain ⟨k, hk, rfl, rfl, hall⟩ := hrel
    by_cases hlt : k < ps.length
    · obtain ⟨y, hy, hym⟩ := get_lt ps k hlt
      obtain ⟨b1, o1, hix1, hbl1, c1⟩ := ch_ix (hpH.out.later hbw1.out) k y hy
      have hkI : (k : Int) < ps.length := by omega
      have hmore : Hid (0 ≤ y ∧ y < l.length → ∀ p ∈ ps.take (k + 1), 0 ≤ p ∧ p < l.length) := fun q p hp => by
        rw [take_one ps k y hy, List.mem_append, List.mem_singleton] at hp
        rcases hp with hp | rfl
        · exact hall.out p hp
        · exact q
      clear hall hy hym
      by_cases y0 : y < 0
      · go_wp2_with (first
          | (refine wpList_store_row rfl 78 _ _ rfl w.heap.size _ rfl rfl _ _ hn1.out infoR rfl (one3 _ _ _ _ _ _ _ _ _) ?_))
        exact bodyPost_ret (results_rel Try.results42 _ _ w.heap.size #[.slice none 0 0, .slice none 0 0, .slice none 0 0] _ rfl rfl rfl (setRow_heap _ w.heap.size _ _ _ _ hn1.out)) rfl ⟨rfl, below_setRow hbw1.out (Nat.le_refl _) _⟩
      · have y0d : decide (y < 0) = false := by simpa using y0
        by_cases y1 : (l.length : Int) ≤ y
        · clear y0
          go_wp2_with (first
            | (refine wpList_store_row rfl 78 _ _ rfl w.heap.size _ rfl rfl _ _ hn1.out infoR rfl (one3 _ _ _ _ _ _ _ _ _) ?_))
          exact bodyPost_ret (results_rel Try.results42 _ _ w.heap.size #[.slice none 0 0, .slice none 0 0, .slice none 0 0] _ rfl rfl rfl (setRow_heap _ w.heap.size _ _ _ _ hn1.out)) rfl ⟨rfl, below_setRow hbw1.out (Nat.le_refl _) _⟩
        · have hm2 : Hid (∀ p ∈ ps.take (k + 1), 0 ≤ p ∧ p < l.length) := hmore.out ⟨by omega, by omega⟩
          go_wp2
          go_roundw
          case rel => exact ⟨k + 1, by omega, by go_num, trivial, hm2⟩
          case measure => simp [intOf]; omega
    · exfalso
      have hk2 : k = ps.length := by omega
      subst hk2
      rw [List.take_length] at hall
      obtain ⟨p, hp, hq⟩ := hinH.out
      exact hq (hall.out p hp)
/-- look, of whatever is wrong. -/
theorem look_err (l : List Ev) (la : Option Addr) (lc : Nat) (ps : List Int) (pa : Option Addr) (pc : Nat) (w : World) (hl : Rows w 26 la lc (l.map Ev.cells)) (hp : Rows w 1 pa pc (ps.map chCells)) (c : Int) (hc : lookP l ps c) :
    Calls Try.prog 42 #[.slice la l.length lc, .slice pa ps.length pc] w fun e w' => e = .returned (.tuple #[relZ, .int .i64 c]) ∧ Below w.heap.size w w' := by
  rcases hc with ⟨h1, h2⟩ | ⟨h0, ⟨h1, rfl⟩ | ⟨h1, h2, rfl⟩⟩
  · exact look_bad l la lc _ w hl c h1 h2
  · exact look_long l la lc ps.length pa pc w hl h0 h1 (rows_len hp)
  · exact look_out l la lc ps pa pc w hl hp h0 h1 h2
theorem lookP_c {l : List Ev} {ps : List Int} {c : Int} (h : lookP l ps c) : c = 1 ∨ c = 2 ∨ c = 7 := by
  rcases h with ⟨_, h | h⟩ | ⟨_, ⟨_, h⟩ | ⟨_, _, h⟩⟩ <;> omega
/-- One or two places, laid for a call. -/
theorem rows_ij (w : World) (i j : Int) : Rows (w.alloc (.cells #[.int .i64 i, .int .i64 j] 3)) 1 (some ⟨w.heap.size, 0, none⟩) 2 (([i, j]).map chCells) := by
  have hn := heap_alloc_new w (.cells #[.int .i64 i, .int .i64 j] 3)
  refine ⟨by simp, by omega, by simp, .inr ⟨_, _, rfl, by rw [World.size_alloc]; omega, fun k row hk => ?_⟩⟩
  match k with
  | 0 => simp [chCells] at hk; subst hk; refine ⟨rfl, fun q u hq => ?_⟩; match q with
    | 0 => simp at hq; subst hq; exact cell_of hn rfl
    | q + 1 => simp at hq
  | 1 => simp [chCells] at hk; subst hk; refine ⟨rfl, fun q u hq => ?_⟩; match q with
    | 0 => simp at hq; subst hq; exact cell_of hn rfl
    | q + 1 => simp at hq
  | k + 2 => simp at hk
theorem rows_one1 (w : World) (i : Int) : Rows (w.alloc (.cells #[.int .i64 i] 3)) 1 (some ⟨w.heap.size, 0, none⟩) 1 (([i]).map chCells) := by
  have hn := heap_alloc_new w (.cells #[.int .i64 i] 3)
  refine ⟨by simp, by omega, by simp, .inr ⟨_, _, rfl, by rw [World.size_alloc]; omega, fun k row hk => ?_⟩⟩
  match k with
  | 0 => simp [chCells] at hk; subst hk; refine ⟨rfl, fun q u hq => ?_⟩; match q with
    | 0 => simp at hq; subst hq; exact cell_of hn rfl
    | q + 1 => simp at hq
  | k + 1 => simp at hk
set_option maxHeartbeats 1000000 in
theorem before_err (l : List Ev) (la : Option Addr) (lc : Nat) (i j : Int) (w : World) (hl : Rows w 26 la lc (l.map Ev.cells)) (c : Int) (hc : lookP l [i, j] c) :
    Calls Try.prog 22 #[.slice la l.length lc, .int .i64 i, .int .i64 j] w fun e w' => e = .returned (.tuple #[.bool false, .int .i64 c]) ∧ Below w.heap.size w w' := by
  have bx := boxed w (.cells #[.int .i64 i, .int .i64 j] 3)
  have c1 := look_err l la lc [i, j] _ 2 _ (hl.later bx) (rows_ij w i j) c hc
  have h7 := lookP_c hc
  clear hl hc
  rcases h7 with rfl | rfl | rfl
  all_goals
    go_enter Try.func22, Try.ntmps22
    go_wp2_with (first
      | (go_at_call 42; (refine c1.mono ?_); rintro e w1 ⟨rfl, hb'⟩; (have hb : Hid (Below w.heap.size w w1) := bthen bx hb'); clear hb' c1 bx)
      | (refine wpList_store_new rfl 78 _ _ rfl rfl _ _ rfl (by kernel_rfl) rfl (one3 _ _ _ _ _ _ _ _ _) ?_))
    go_ret2
    exact ⟨rfl, bthen hb.out (boxed _ _)⟩
set_option maxHeartbeats 1000000 in
theorem apart_err (l : List Ev) (la : Option Addr) (lc : Nat) (i j : Int) (w : World) (hl : Rows w 26 la lc (l.map Ev.cells)) (c : Int) (hc : lookP l [i, j] c) :
    Calls Try.prog 23 #[.slice la l.length lc, .int .i64 i, .int .i64 j] w fun e w' => e = .returned (.tuple #[.bool false, .int .i64 c]) ∧ Below w.heap.size w w' := by
  have bx := boxed w (.cells #[.int .i64 i, .int .i64 j] 3)
  have c1 := look_err l la lc [i, j] _ 2 _ (hl.later bx) (rows_ij w i j) c hc
  have h7 := lookP_c hc
  clear hl hc
  rcases h7 with rfl | rfl | rfl
  all_goals
    go_enter Try.func23, Try.ntmps23
    go_wp2_with (first
      | (go_at_call 42; (refine c1.mono ?_); rintro e w1 ⟨rfl, hb'⟩; (have hb : Hid (Below w.heap.size w w1) := bthen bx hb'); clear hb' c1 bx)
      | (refine wpList_store_new rfl 78 _ _ rfl rfl _ _ rfl (by kernel_rfl) rfl (one3 _ _ _ _ _ _ _ _ _) ?_))
    go_ret2
    exact ⟨rfl, bthen hb.out (boxed _ _)⟩
set_option maxHeartbeats 1000000 in
theorem past_err (l : List Ev) (la : Option Addr) (lc : Nat) (i : Int) (w : World) (hl : Rows w 26 la lc (l.map Ev.cells)) (c : Int) (hc : lookP l [i] c) :
    Calls Try.prog 24 #[.slice la l.length lc, .int .i64 i] w fun e w' => e = .returned (.tuple #[.slice none 0 0, .int .i64 c]) ∧ Below w.heap.size w w' := by
  have bx := boxed w (.cells #[.int .i64 i] 3)
  have c1 := look_err l la lc [i] _ 1 _ (hl.later bx) (rows_one1 w i) c hc
  have h7 := lookP_c hc
  clear hl hc
  rcases h7 with rfl | rfl | rfl
  all_goals
    go_enter Try.func24, Try.ntmps24
    go_wp2_with (first
      | (go_at_call 42; (refine c1.mono ?_); rintro e w1 ⟨rfl, hb'⟩; (have hb : Hid (Below w.heap.size w w1) := bthen bx hb'); clear hb' c1 bx)
      | (refine wpList_store_new rfl 78 _ _ rfl rfl _ _ rfl (by kernel_rfl) rfl (one3 _ _ _ _ _ _ _ _ _) ?_))
    go_ret2
    exact ⟨rfl, bthen hb.out (boxed _ _)⟩
end Go.Proofs.Ytkhhkgfaakgdfaa.pg
