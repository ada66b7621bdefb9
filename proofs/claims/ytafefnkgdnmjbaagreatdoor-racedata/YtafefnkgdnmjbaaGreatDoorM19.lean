/- The edges, sorted. -/
import Derived.Test.YtafefnkgdnmjbaaGreatDoorM17
import Derived.Shelf.SlSortCmp.WholeK
import Derived.Test.YtafefnkgdnmjbaaGreatDoorShelf
namespace Go.Proofs.YtafefnkgdnmjbaaGreatDoor.pg
open Go.ChangeShapes Go.WideShapes Go.ChangeAt Go.RowKit Go.Shelf
set_option linter.unusedVariables false
set_option linter.unusedSimpArgs false
set_option maxRecDepth 100000
theorem cmp2_lt (x y : Nat × Nat) : Go.Proofs.ltOf cmp2 x y = decide (x.1 < y.1 ∨ x.1 = y.1 ∧ x.2 < y.2) := by
  unfold Go.Proofs.ltOf cmp2
  rcases cmpP_val x.1 y.1 with ⟨h, q⟩ | ⟨h, q⟩ | ⟨h, q⟩ <;> rcases cmpP_val x.2 y.2 with ⟨h2, q2⟩ | ⟨h2, q2⟩ | ⟨h2, q2⟩ <;> simp [h, h2] <;> omega
theorem cmp2_swo : Go.Sort.SWO (Go.Proofs.ltOf cmp2) where
  irrefl x := by rw [cmp2_lt]; simp
  trans x y z h1 h2 := by rw [cmp2_lt] at *; simp at *; omega
  ntrans x y z h1 h2 := by rw [cmp2_lt] at *; simp at *; omega
theorem cmpE_lays (blk off size : Nat) (w : World) : CmpLays Tryz.prog 121 #[] edg 2 cmp2 blk off size w :=
  fun m os dk hs x y => (cmpE_any x y _).mono fun e w' ⟨he, q, hq⟩ => ⟨he, q, #[objEdge x, objEdge y], by rw [hq, Go.Sort.alloc_eq_grow, Go.Sort.alloc_eq_grow, Go.Sort.grow_grow]; rfl⟩
end Go.Proofs.YtafefnkgdnmjbaaGreatDoor.pg
/- What sorting leaves of the edges. -/
namespace Go.Proofs.YtafefnkgdnmjbaaGreatDoor.pg
open Go.ChangeShapes Go.WideShapes Go.ChangeAt Go.RowKit Go.Shelf
set_option linter.unusedVariables false
set_option linter.unusedSimpArgs false
set_option maxRecDepth 100000
theorem own_holds {w : World} {lo g cap : Nat} {E : List (Nat × Nat)} (h : OwnL w lo 71 2 (some ⟨g, 0, none⟩) cap (E.map edg)) : Go.Sort.HoldsK edg 2 w g 0 E.toArray := by
  intro t ht
  rw [Go.Sort.size_flatK] at ht
  have hlt : t < E.length * 2 := by simpa using ht
  rw [Go.Sort.get_flatK _ _ _ _ ht, Nat.zero_add]
  have hi : t / 2 < E.length := by omega
  have hc := World.ownsRow.cellAt h t (by rw [List.length_map]; exact hlt)
  have ht2 : t = t / 2 * 2 + t % 2 := by omega
  constructor
  · rw [hc]
    conv => lhs; rw [ht2]
    rw [flatten_at (k := 2) (E.map edg) (fun row hr => by rw [List.mem_map] at hr; obtain ⟨y, _, rfl⟩ := hr; rfl) (t / 2) (edg E[t / 2]) (by rw [List.getElem?_map, List.getElem?_eq_getElem hi]; rfl) (t % 2) (by omega)]
    have e1 : E.toArray[t / 2]! = E[t / 2] := by simp [hi]
    rw [e1]
    have h2 : t % 2 < (edg E[t / 2]).length := by show t % 2 < 2; omega
    have h3 : (edg E[t / 2])[t % 2]! = (edg E[t / 2])[t % 2]'h2 := getElem!_pos (edg E[t / 2]) (t % 2) h2
    rw [List.getElem?_eq_getElem h2, h3]
    rfl
  · rcases h.2 with ⟨h1, _⟩ | ⟨g', cap', cur, h1, _, hg, _⟩
    · simp only [Value.slice.injEq] at h1
      cases h1.1
    · simp only [Value.slice.injEq, Option.some.injEq, Addr.mk.injEq, and_true, true_and] at h1
      rw [h1.1]
      exact frozen_of_row _ _ _ _ _ hg
/-- By the first place, then the second one. -/
def lex (x y : Nat × Nat) : Prop := x.1 < y.1 ∨ x.1 = y.1 ∧ x.2 ≤ y.2
theorem sort_any (g cap lo : Nat) (E : List (Nat × Nat)) (w : World) (hE : OwnL w lo 71 2 (some ⟨g, 0, none⟩) cap (E.map edg)) (hlen : E.length ≤ 65536) :
    Calls Tryz.prog 120 #[.slice (some ⟨g, 0, none⟩) E.length cap, .func (.func 121) #[] #[]] w fun e w' => e = .returned (.tuple #[]) ∧ ∃ D : List (Nat × Nat), D.Perm E ∧ D.Pairwise lex ∧ Rows w' 2 (some ⟨g, 0, none⟩) cap (D.map edg) ∧ (∀ b, b < w.heap.size → b ≠ g → w'.heap[b]? = w.heap[b]?) ∧ Below lo w w' := by
  have eg : ∀ args w, (callFunc 121 args).run Tryz.prog w = .ok (.enter 121 args) w := enters_of Tryz.func121 (by kernel_rfl) rfl
  have hgl := blk_lt hE g (by simp [blk])
  have hr := own_rows hE fun row hm => by rw [List.mem_map] at hm; obtain ⟨y, _, rfl⟩ := hm; rfl
  have hcon := Tryz.slices_SortFunc 2 Tryz.isAgg71 Tryz.sizeOf71 edg (fun _ => rfl) one2 cmp2 cmp2_swo 121 #[] g 0 cap E.toArray w eg (cmpE_lays g 0 _ w) (own_holds hE) hgl.2 (by simp; omega)
  change Calls Tryz.prog 120 _ _ _ at hcon
  simp only [List.size_toArray] at hcon
  refine hcon.mono ?_
  rintro e w' ⟨rfl, d', n, os, hp, hs, rfl⟩
  obtain ⟨h1, h2, h3⟩ := hp
  have hsz : d'.toList.length = E.length := by rw [Array.length_toList, h1]; simp
  have hk : Go.Sort.HoldsK edg 2 (Go.Sort.grow (Go.Sort.putRowK edg 2 (Go.Sort.ahead w n) g 0 d') os) g 0 d' := Go.Sort.holdsK_grow edg 2 _ os g 0 d' (by show g < (Go.Sort.putRow id (Go.Sort.ahead w n) g 0 _).heap.size; rw [Go.Sort.size_putRow]; exact hgl.2) (Go.Sort.holdsK_putRowK edg 2 (Go.Sort.ahead w n) g 0 E.toArray d' (own_holds hE) h1)
  have hblk : ∀ b, b < w.heap.size → b ≠ g → (Go.Sort.grow (Go.Sort.putRowK edg 2 (Go.Sort.ahead w n) g 0 d') os).heap[b]? = w.heap[b]? := fun b q1 q2 => by
    simp only [Go.Sort.grow, Go.Sort.putRowK, Go.Sort.putRow, Go.Sort.mapBlock, Go.Sort.ahead]
    rw [Array.getElem?_append_left (by simp; exact q1), Array.getElem?_modify, if_neg (Ne.symm q2)]
  refine ⟨rfl, d'.toList, ?_, ?_, ?_, hblk, ?_⟩
  · have e1 : d'.extract 0 E.length = d' := by rw [show E.length = d'.size by rw [h1]; simp]; simp
    have e2 : E.toArray.extract 0 E.length = E.toArray := by simp
    rw [e1, e2] at h3
    simpa using h3
  · rw [List.pairwise_iff_getElem]
    intro i j hi hj hij
    have q := hs i j (Nat.zero_le _) hij (by omega)
    rw [cmp2_lt, decide_eq_false_iff_not] at q
    have e1 : d'[i]! = d'.toList[i] := by rw [getElem!_pos d' i (by simpa using hi)]; rfl
    have e2 : d'[j]! = d'.toList[j] := by rw [getElem!_pos d' j (by simpa using hj)]; rfl
    rw [e1, e2] at q
    unfold lex
    omega
  · refine ⟨by rw [List.length_map, hsz]; have := hr.1; rwa [List.length_map] at this, hr.2.1, by simp, .inr ⟨g, 0, rfl, ?_, fun i row hi => ?_⟩⟩
    · show g < (Go.Sort.grow _ os).heap.size
      simp only [Go.Sort.grow, Array.size_append, Go.Sort.putRowK, Go.Sort.size_putRow]
      have := hgl.2
      show g < w.heap.size + os.size
      omega
    · rw [List.getElem?_map, Option.map_eq_some_iff] at hi
      obtain ⟨x, hx, rfl⟩ := hi
      have hil : i < d'.size := by have := (List.getElem?_eq_some_iff.mp hx).1; simpa using this
      have hxe : d'[i]! = x := by
        rw [getElem!_pos d' i hil]
        have := (List.getElem?_eq_some_iff.mp hx).2
        simpa using this
      refine ⟨rfl, fun j u hj => ?_⟩
      have hj2 : j < 2 := (List.getElem?_eq_some_iff.mp hj).1
      have := (hk.cell hil hj2).1
      rw [hxe] at this
      rw [show 0 + (i * 2 + j) = 0 + i * 2 + j by omega]
      refine Eq.trans this ?_
      have q := (List.getElem?_eq_some_iff.mp hj)
      have h3 : (edg x)[j]! = (edg x)[j]'q.1 := getElem!_pos (edg x) j q.1
      rw [h3, q.2]
  · refine ⟨rfl, rfl, rfl, ?_, fun b hb => hblk b (by have := hgl.1; have := hgl.2; omega) (by have := hgl.1; omega)⟩
    simp only [sortWorldK, Go.Sort.grow, Array.size_append, Go.Sort.putRowK, Go.Sort.size_putRow]
    show w.heap.size ≤ w.heap.size + os.size
    omega
end Go.Proofs.YtafefnkgdnmjbaaGreatDoor.pg
/- Clocks and Before of package order. -/
namespace Go.Proofs.YtafefnkgdnmjbaaGreatDoor.pg
open Go.ChangeShapes Go.WideShapes Go.ChangeAt Go.RowKit Go.Shelf
set_option linter.unusedVariables false
set_option linter.unusedSimpArgs false
set_option maxRecDepth 100000
attribute [local go_sem ↓] Go.wp_at_zero Go.wp_at_succ
abbrev relZ : Value := relV none 0 0 none 0 0 none 0 0
set_option maxHeartbeats 1000000 in
theorem look_bad (l : List Ev) (la : Option Addr) (lc : Nat) (ps : Value) (w : World) (hl : Rows w 26 la lc (l.map Ev.cells)) (c : Int) (hc : checkP l c) (h0 : c = 2 ∨ c = 7) :
    Calls Tryz.prog 79 #[.slice la l.length lc, ps] w fun e w' => e = .returned (.tuple #[relZ, .int .i64 c]) ∧ Below w.heap.size w w' := by
  have c1 : ∀ wx, Below w.heap.size w wx → Calls Tryz.prog 86 #[.slice la l.length lc] wx fun e w' => e = .returned (.int .i64 c) ∧ Below wx.heap.size wx w' := fun wx hb => check_any l la lc wx (hl.later hb) c hc
  have hlI := rows_len hl
  have bx := boxed w (.cells #[.slice none 0 0, .slice none 0 0, .slice none 0 0] 138)
  have hn := heap_alloc_new w (.cells #[.slice none 0 0, .slice none 0 0, .slice none 0 0] 138)
  clear hl hc
  rcases h0 with rfl | rfl
  all_goals
    go_enter Tryz.func79, Tryz.ntmps79
    go_wp2_with (first
      | (go_at_call 86; (with_reducible refine (c1 _ bx).mono ?_); rintro e w1 ⟨rfl, hb1⟩; (have hn1 : Hid (w1.heap[w.heap.size]? = some (.cells #[.slice none 0 0, .slice none 0 0, .slice none 0 0] 138)) := (hb1.block _ (by rw [World.size_alloc]; omega)).trans hn); (have hbw1 : Hid (Below w.heap.size w w1) := bthen bx hb1); clear hb1 c1 bx hn)
      | (refine wpList_store_row rfl 138 _ _ rfl w.heap.size _ rfl rfl _ _ hn1.out infoR rfl (one3 _ _ _ _ _ _ _ _ _) ?_))
    exact bodyPost_ret (results_rel Tryz.results79 _ _ w.heap.size #[.slice none 0 0, .slice none 0 0, .slice none 0 0] _ rfl rfl rfl (setRow_heap _ w.heap.size _ _ _ _ hn1.out)) rfl ⟨rfl, below_setRow hbw1.out (Nat.le_refl _) _⟩
/-- Whether a place happens before another one, by the clocks. -/
def befK (C : List Ck) (l : List Ev) (i j : Nat) : Bool := decide (i < j) && decide ((C.getD i zeroK).of (evf l i).go.toNat ≤ (C.getD j zeroK).of (evf l i).go.toNat)
end Go.Proofs.YtafefnkgdnmjbaaGreatDoor.pg
