/- The edges, sorted. -/
import Derived.Test.YtkadlopcomjonaaM23
import Derived.Shelf.SlSortCmp.WholeK
import Derived.Test.YtkadlopcomjonaaShelf
import Derived.Test.YtkadlopcomjonaaM18
namespace Go.Proofs.Ytkadlopcomjonaa.pg
open Go.ChangeShapes Go.WideShapes Go.ChangeAt Go.RowKit Go.Shelf
set_option linter.unusedVariables false
set_option linter.unusedSimpArgs false
set_option maxRecDepth 100000
theorem cmp2_lt (x y : Nat × Nat) : Go.Proofs.ltOf cmp2 x y = decide (x.1 < y.1 ∨ x.1 = y.1 ∧ x.2 < y.2) := by
  unfold Go.Proofs.ltOf cmp2
  rcases cmpP_val x.1 y.1 with ⟨h, q⟩ | ⟨h, q⟩ | ⟨h, q⟩ <;> rcases cmpP_val x.2 y.2 with ⟨h2, q2⟩ | ⟨h2, q2⟩ | ⟨h2, q2⟩ <;> simp [h, h2] <;> omega
theorem cmp2_swo : Go.Sort.SWO (Go.Proofs.ltOf cmp2) where
  irrefl x := by rw [cmp2_lt]; simp
  trans x y z h1 h2 := by rw [cmp2_lt] at *; simp at *; omega
  ntrans x y z h1 h2 := by rw [cmp2_lt] at *; simp at *; omega
theorem cmpE_lays (blk off size : Nat) (w : World) : CmpLays Try.prog 77 #[] edg 2 cmp2 blk off size w :=
  fun m os dk hs x y => (cmpE_any x y _).mono fun e w' ⟨he, q, hq⟩ => ⟨he, q, #[objEdge x, objEdge y], by rw [hq, Go.Sort.alloc_eq_grow, Go.Sort.alloc_eq_grow, Go.Sort.grow_grow]; rfl⟩
end Go.Proofs.Ytkadlopcomjonaa.pg
/- What sorting leaves of the edges. -/
namespace Go.Proofs.Ytkadlopcomjonaa.pg
open Go.ChangeShapes Go.WideShapes Go.ChangeAt Go.RowKit Go.Shelf
set_option linter.unusedVariables false
set_option linter.unusedSimpArgs false
set_option maxRecDepth 100000
theorem own_holds {w : World} {lo g cap : Nat} {E : List (Nat × Nat)} (h : OwnL w lo 94 2 (some ⟨g, 0, none⟩) cap (E.map edg)) : Go.Sort.HoldsK edg 2 w g 0 E.toArray := by
  intro t ht
  rw [Go.Sort.size_flatK] at ht
  have hlt : t < E.length * 2 := by simpa using ht
  rw [Go.Sort.get_flatK _ _ _ _ ht, Nat.zero_add]
  have hi : t / 2 < E.length := by omega
  have hc := World.ownsRow.cellAt h t (by rw [List.length_map]; exact hlt)
  have ht2 : t = t / 2 * 2 + t % 2 := by omega
  constructor
  · rw [hc]
    conv => lhs; rw [ht2]
    rw [flatten_at (k := 2) (E.map edg) (fun row hr => by rw [List.mem_map] at hr; obtain ⟨y, _, rfl⟩ := hr; rfl) (t / 2) (edg E[t / 2]) (by rw [List.getElem?_map, List.getElem?_eq_getElem hi]; rfl) (t % 2) (by omega)]
    have e1 : E.toArray[t / 2]! = E[t / 2] := by simp [hi]
    rw [e1]
    have h2 : t % 2 < (edg E[t / 2]).length := by show t % 2 < 2; omega
    have h3 : (edg E[t / 2])[t % 2]! = (edg E[t / 2])[t % 2]'h2 := getElem!_pos (edg E[t / 2]) (t % 2) h2
    rw [List.getElem?_eq_getElem h2, h3]
    rfl
  · rcases h.2 with ⟨h1, _⟩ | ⟨g', cap', cur, h1, _, hg, _⟩
    · simp only [Value.slice.injEq] at h1
      cases h1.1
    · simp only [Value.slice.injEq, Option.some.injEq, Addr.mk.injEq, and_true, true_and] at h1
      rw [h1.1]
      exact frozen_of_row _ _ _ _ _ hg
/-- By the first place, then the second one. -/
def lex (x y : Nat × Nat) : Prop := x.1 < y.1 ∨ x.1 = y.1 ∧ x.2 ≤ y.2
theorem sort_any (g cap lo : Nat) (E : List (Nat × Nat)) (w : World) (hE : OwnL w lo 94 2 (some ⟨g, 0, none⟩) cap (E.map edg)) (hlen : E.length ≤ 65536) :
    Calls Try.prog 76 #[.slice (some ⟨g, 0, none⟩) E.length cap, .func (.func 77) #[] #[]] w fun e w' => e = .returned (.tuple #[]) ∧ ∃ D : List (Nat × Nat), D.Perm E ∧ D.Pairwise lex ∧ Rows w' 2 (some ⟨g, 0, none⟩) cap (D.map edg) ∧ (∀ b, b < w.heap.size → b ≠ g → w'.heap[b]? = w.heap[b]?) ∧ Below lo w w' := by
  have eg : ∀ args w, (callFunc 77 args).run Try.prog w = .ok (.enter 77 args) w := enters_of Try.func77 (by kernel_rfl) rfl
  have hgl := blk_lt hE g (by simp [blk])
  have hr := own_rows hE fun row hm => by rw [List.mem_map] at hm; obtain ⟨y, _, rfl⟩ := hm; rfl
  have hcon := Try.slices_SortFunc 2 Try.isAgg94 Try.sizeOf94 edg (fun _ => rfl) one2 cmp2 cmp2_swo 77 #[] g 0 cap E.toArray w eg (cmpE_lays g 0 _ w) (own_holds hE) hgl.2 (by simp; omega)
  change Calls Try.prog 76 _ _ _ at hcon
  simp only [List.size_toArray] at hcon
  refine hcon.mono ?_
  rintro e w' ⟨rfl, d', n, os, hp, hs, rfl⟩
  obtain ⟨h1, h2, h3⟩ := hp
  have hsz : d'.toList.length = E.length := by rw [Array.length_toList, h1]; simp
  have hk : Go.Sort.HoldsK edg 2 (Go.Sort.grow (Go.Sort.putRowK edg 2 (Go.Sort.ahead w n) g 0 d') os) g 0 d' := Go.Sort.holdsK_grow edg 2 _ os g 0 d' (by show g < (Go.Sort.putRow id (Go.Sort.ahead w n) g 0 _).heap.size; rw [Go.Sort.size_putRow]; exact hgl.2) (Go.Sort.holdsK_putRowK edg 2 (Go.Sort.ahead w n) g 0 E.toArray d' (own_holds hE) h1)
  have hblk : ∀ b, b < w.heap.size → b ≠ g → (Go.Sort.grow (Go.Sort.putRowK edg 2 (Go.Sort.ahead w n) g 0 d') os).heap[b]? = w.heap[b]? := fun b q1 q2 => by
    simp only [Go.Sort.grow, Go.Sort.putRowK, Go.Sort.putRow, Go.Sort.mapBlock, Go.Sort.ahead]
    rw [Array.getElem?_append_left (by simp; exact q1), Array.getElem?_modify, if_neg (Ne.symm q2)]
  refine ⟨rfl, d'.toList, ?_, ?_, ?_, hblk, ?_⟩
  · have e1 : d'.extract 0 E.length = d' := by rw [show E.length = d'.size by rw [h1]; simp]; simp
    have e2 : E.toArray.extract 0 E.length = E.toArray := by simp
    rw [e1, e2] at h3
    simpa using h3
  · rw [List.pairwise_iff_getElem]
    intro i j hi hj hij
    have q := hs i j (Nat.zero_le _) hij (by omega)
    rw [cmp2_lt, decide_eq_false_iff_not] at q
    have e1 : d'[i]! = d'.toList[i] := by rw [getElem!_pos d' i (by simpa using hi)]; rfl
    have e2 : d'[j]! = d'.toList[j] := by rw [getElem!_pos d' j (by simpa using hj)]; rfl
    rw [e1, e2] at q
    unfold lex
    omega
  · refine ⟨by rw [List.length_map, hsz]; have := hr.1; rwa [List.length_map] at this, hr.2.1, by simp, .inr ⟨g, 0, rfl, ?_, fun i row hi => ?_⟩⟩
    · show g < (Go.Sort.grow _ os).heap.size
      simp only [Go.Sort.grow, Array.size_append, Go.Sort.putRowK, Go.Sort.size_putRow]
      have := hgl.2
      show g < w.heap.size + os.size
      omega
    · rw [List.getElem?_map, Option.map_eq_some_iff] at hi
      obtain ⟨x, hx, rfl⟩ := hi
      have hil : i < d'.size := by have := (List.getElem?_eq_some_iff.mp hx).1; simpa using this
      have hxe : d'[i]! = x := by
        rw [getElem!_pos d' i hil]
        have := (List.getElem?_eq_some_iff.mp hx).2
        simpa using this
      refine ⟨rfl, fun j u hj => ?_⟩
      have hj2 : j < 2 := (List.getElem?_eq_some_iff.mp hj).1
      have := (hk.cell hil hj2).1
      rw [hxe] at this
      rw [show 0 + (i * 2 + j) = 0 + i * 2 + j by omega]
      refine Eq.trans this ?_
      have q := (List.getElem?_eq_some_iff.mp hj)
      have h3 : (edg x)[j]! = (edg x)[j]'q.1 := getElem!_pos (edg x) j q.1
      rw [h3, q.2]
  · refine ⟨rfl, rfl, rfl, ?_, fun b hb => hblk b (by have := hgl.1; have := hgl.2; omega) (by have := hgl.1; omega)⟩
    simp only [sortWorldK, Go.Sort.grow, Array.size_append, Go.Sort.putRowK, Go.Sort.size_putRow]
    show w.heap.size ≤ w.heap.size + os.size
    omega
end Go.Proofs.Ytkadlopcomjonaa.pg
/- Edges of package order. -/
namespace Go.Proofs.Ytkadlopcomjonaa.pg
open Go.ChangeShapes Go.WideShapes Go.ChangeAt Go.RowKit Go.Shelf
set_option linter.unusedVariables false
set_option linter.unusedSimpArgs false
set_option maxRecDepth 100000
attribute [local go_sem ↓] Go.wp_at_zero Go.wp_at_succ
set_option maxHeartbeats 1000000 in
theorem ins_nil (w : World) : Calls Try.prog 102 #[.slice none 0 0, .int .i64 0, .int .i64 0, .func (.func 77) #[] #[]] w fun e w' => (∃ v, e = .returned v) ∧ w' = w := by
  go_enter Try.func102, Try.ntmps102
  go_wp2
  go_loopw [8] (fun u wr => u = .int .i64 1 ∧ wr = w) (fun _ _ => 0)
  case atStart => exact ⟨rfl, rfl⟩
  case round =>
    obtain ⟨rfl, rfl⟩ := hrel
    go_wp2
    go_end0
    exact ⟨⟨_, rfl⟩, rfl⟩
set_option maxHeartbeats 1000000 in
theorem pdq_nil (n : Int) (w : World) : Calls Try.prog 93 #[.slice none 0 0, .int .i64 0, .int .i64 0, .int .i64 n, .func (.func 77) #[] #[]] w fun e w' => (∃ v, e = .returned v) ∧ w' = w := by
  have c1 := ins_nil w
  go_enter Try.func93, Try.ntmps93
  go_wp2_with fail
  refine wp_loop_once ?_
  go_wp2_with (go_at_call 102; (with_reducible refine c1.mono ?_); rintro e w' ⟨⟨v, rfl⟩, rfl⟩)
  exact bodyPost_ret (results_none rfl _ _ _) rfl ⟨⟨_, rfl⟩, rfl⟩
theorem len0 (w : World) : Calls Try.prog 68 #[.int .u64 0] w fun e w' => (∃ n, e = .returned (.int .i64 n)) ∧ w' = w := by
  have h := Try.bits_Len 0 w (by omega) (by omega)
  exact h.mono fun e w' ⟨he, hw⟩ => ⟨⟨_, he⟩, hw⟩
set_option maxHeartbeats 1000000 in
theorem sort_nil (w : World) : Calls Try.prog 76 #[.slice none 0 0, .func (.func 77) #[] #[]] w fun e w' => (∃ v, e = .returned v) ∧ w' = w := by
  have c1 := len0 w
  have c2 := fun n => pdq_nil n w
  go_enter Try.func76, Try.ntmps76
  go_wp2_with (first | (go_at_call 68; (with_reducible refine c1.mono ?_); rintro e w' ⟨⟨v, rfl⟩, rfl⟩) | (go_at_call 93; (with_reducible refine (c2 _).mono ?_); rintro e w' ⟨⟨v2, rfl⟩, rfl⟩))
  go_end0
  exact ⟨⟨_, rfl⟩, rfl⟩
theorem own_nil_is {w : World} {lo e k cap : Nat} {L : List (List Value)} (h : OwnL w lo e k none cap L) : L = [] ∧ cap = 0 := by
  rcases own_block h with ⟨_, h1, h2⟩ | ⟨g, h1, _⟩
  · exact ⟨List.length_eq_zero_iff.mp h1, h2⟩
  · cases h1
/-- Sorting a list of the call's own, nil too. -/
theorem sortE_any (da : Option Addr) (cap lo : Nat) (E : List (Nat × Nat)) (w : World) (hE : OwnL w lo 94 2 da cap (E.map edg)) (hlen : E.length ≤ 65536) :
    Calls Try.prog 76 #[.slice da E.length cap, .func (.func 77) #[] #[]] w fun e w' => (∃ v, e = .returned v) ∧ ∃ D : List (Nat × Nat), D.Perm E ∧ D.Pairwise lex ∧ Rows w' 2 da cap (D.map edg) ∧ (∀ b, b < w.heap.size → b ∉ blk da → w'.heap[b]? = w.heap[b]?) ∧ Below lo w w' := by
  cases da with
  | none =>
    obtain ⟨h1, rfl⟩ := own_nil_is hE
    have hE0 : E = [] := by simpa using h1
    subst hE0
    exact (sort_nil w).mono fun e w' ⟨hv, hw⟩ => ⟨hv, [], .refl _, .nil, by rw [hw]; exact ⟨by simp, by omega, fun _ => ⟨rfl, rfl⟩, .inl rfl⟩, fun b _ _ => by rw [hw], by rw [hw]; exact Below.refl _ _⟩
  | some ad =>
    rcases own_block hE with ⟨h1, _⟩ | ⟨g, h1, h2, h3⟩
    · cases h1
    · cases h1
      exact (sort_any g cap lo E w hE hlen).mono fun e w' ⟨he, D, q1, q2, q3, q4, q5⟩ => ⟨⟨_, he⟩, D, q1, q2, q3, fun b b1 b2 => q4 b b1 fun q => b2 (by simp [blk, q]), q5⟩
set_option maxHeartbeats 1000000 in
theorem edges_ok (l : List Ev) (la : Option Addr) (lc : Nat) (w : World) (hl : Rows w 26 la lc (l.map Ev.cells)) (hlen : l.length ≤ 256) (hrt : ∀ x ∈ l, rightP x) :
    Calls Try.prog 47 #[.slice la l.length lc] w fun e w' => ∃ da dc, ∃ D : List (Nat × Nat), e = .returned (.tuple #[.slice da D.length dc, .int .i64 0]) ∧ D.Perm (rel (evf l) l.length).2 ∧ D.Pairwise lex ∧ Rows w' 2 da dc (D.map edg) ∧ Below w.heap.size w w' := by
  have c1 : Calls Try.prog 58 #[.slice la l.length lc, .slice none 0 0] w (LookPost l la lc w) := look_any l la lc [] none 0 w hl (rows_nil1 w) hlen hrt (by simp) (by simp)
  have hEl : (rel (evf l) l.length).2.length ≤ 65536 := by have := rel_edges (evf l) l.length hlen; omega
  have hElH : Hid ((rel (evf l) l.length).2.length ≤ 65536) := hEl
  clear hl hrt hEl
  go_enter Try.func47, Try.ntmps47
  go_wp2_with (first
    | (go_at_call 58; (with_reducible refine c1.mono ?_); rintro e w1 ⟨ca, cc, da, dc, rfl, _, oe', hb'⟩; (have oe : Hid (OwnL (w1.alloc (.cells #[.slice la l.length lc, .slice ca l.length cc, .slice da (rel (evf l) l.length).2.length dc] 104)) w.heap.size 94 2 da dc ((rel (evf l) l.length).2.map edg)) := own_keep oe' fun b hb' => (boxed w1 _).block b (blk_lt oe' b hb').2); (have hb : Hid (Below w.heap.size w (w1.alloc (.cells #[.slice la l.length lc, .slice ca l.length cc, .slice da (rel (evf l) l.length).2.length dc] 104))) := bthen hb' (boxed _ _)); (have hn : (w1.alloc (.cells #[.slice la l.length lc, .slice ca l.length cc, .slice da (rel (evf l) l.length).2.length dc] 104)).heap[w1.heap.size]? = some (.cells #[.slice la l.length lc, .slice ca l.length cc, .slice da (rel (evf l) l.length).2.length dc] 104) := heap_alloc_new _ _); (have hx := cell_of (k := 2) (v := .slice da (rel (evf l) l.length).2.length dc) hn rfl); (have hnb : Hid (w1.heap.size ∉ blk da) := fun q => by have := (blk_lt oe' _ q).2; omega); (have hnH : Hid _ := hn); clear oe' hb' c1 hn)
    | (refine wpList_store_new rfl 104 _ _ rfl rfl _ _ rfl (by kernel_rfl) rfl (one3 _ _ _ _ _ _ _ _ _) ?_)
    | (go_at_call 76; (refine (sortE_any da dc w.heap.size _ _ oe.out hElH.out).mono ?_); rintro e w2 ⟨⟨v, rfl⟩, D, q1, q2, q3, q4, q5⟩; (have hx2 := cell_of (k := 2) (v := .slice da (rel (evf l) l.length).2.length dc) ((q4 _ (by rw [World.size_alloc]; omega) hnb.out).trans hnH.out) rfl); (have qH : Hid (D.Perm (rel (evf l) l.length).2 ∧ D.Pairwise lex ∧ Rows w2 2 da dc (D.map edg) ∧ Below w.heap.size w w2) := ⟨q1, q2, q3, hb.out.trans q5⟩); clear q1 q2 q3 q4 q5))
  go_ret2
  exact ⟨da, dc, D, by rw [qH.out.1.length_eq]; rfl, qH.out⟩
end Go.Proofs.Ytkadlopcomjonaa.pg
