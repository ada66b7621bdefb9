/- Sorting accesses. -/
import Derived.Test.YtkadlopcomjonaaM44
import Derived.Test.YtkadlopcomjonaaM25
namespace Go.Proofs.Ytkadlopcomjonaa.pg
open Go.ChangeShapes Go.WideShapes Go.ChangeAt Go.RowKit Go.Shelf
set_option linter.unusedVariables false
set_option linter.unusedSimpArgs false
set_option maxRecDepth 100000
attribute [local go_sem ↓] Go.wp_at_zero Go.wp_at_succ
theorem oneA (x : Acc) : ∀ u ∈ Acc.cells x, u.oneCell' = true := by intro u hu; simp [Acc.cells] at hu; rcases hu with rfl | rfl | rfl <;> rfl
theorem cmpA_lt (x y : Acc) : Go.Proofs.ltOf cmpA x y = bef x y := by
  have h := cmpA_bef x y
  unfold Go.Proofs.ltOf
  cases hb : bef x y with
  | true =>
    have : ¬ 0 ≤ cmpA x y := fun q => by rw [h.mp q] at hb; cases hb
    simp; omega
  | false =>
    have := h.mpr hb
    simp; omega
theorem cmpA_swo : Go.Sort.SWO (Go.Proofs.ltOf cmpA) where
  irrefl x := by rw [cmpA_lt]; simp [bef]
  trans x y z h1 h2 := by rw [cmpA_lt] at *; simp [bef] at *; omega
  ntrans x y z h1 h2 := by rw [cmpA_lt] at *; simp [bef] at *; omega
set_option maxHeartbeats 1000000 in
theorem compareW_any (x y : Acc) (w : World) : Calls Try.prog 36 #[x.val, y.val] w fun e w' => e = .returned (.int .i64 (cmpA x y)) ∧ ∃ q, w' = (((w.alloc (objA x)).alloc (objA y)).drewN q).alloc (.cells #[.int .i64 (cmpP x.kind y.kind), .int .i64 (cmpP x.num y.num)] 3) := by
  obtain ⟨iN, hiN, hzN, hsN, hbN⟩ := info_q infoN_u
  have bA := (boxA_new w x).later (boxed (w.alloc (objA x)) (objA y))
  have bB := boxA_new (w.alloc (objA x)) y
  rw [World.size_alloc] at bB
  go_enter Try.func36, Try.ntmps36
  go_wp2_with fail
  generalize hWW : (w.alloc (objA x)).alloc (objA y) = W at *
  have hS : Hid (BoxA W.drew w.heap.size x ∧ BoxA W.drew (w.heap.size + 1) y) := ⟨bA.later (bey_drew W), bB.later (bey_drew W)⟩
  clear bA bB
  refine wp_region_noPanic ?_
  refine wp_region_held_drew (S := fun w' => BoxA w' w.heap.size x ∧ BoxA w' (w.heap.size + 1) y) (by kernel_rfl) hS.out (fun _ => ?_)
  refine reg_move (i := 0) rfl (by kernel_rfl) (by kernel_rfl) (by kernel_rfl) (fun _ _ _ _ h => h) rfl (.pointer (some ⟨w.heap.size, 0, none⟩)) (fun _ => rfl) hS.out ?_
  simp only [Act.put, List.getElem_toArray, List.getElem_cons_succ, List.getElem_cons_zero, List.setIfInBounds_toArray, List.set_cons_zero, List.set_cons_succ]
  refine reg_load1 (i := 1) rfl (by kernel_rfl) (by kernel_rfl) (by kernel_rfl) (fun _ _ _ _ h => h) rfl 3 _ rfl ⟨w.heap.size, 0, none⟩ rfl _ Try.underlying3 rfl (.int .i64 x.kind) (fun w' h' => h'.1.1) hS.out ?_
  simp only [Act.put, List.getElem_toArray, List.getElem_cons_succ, List.getElem_cons_zero, List.setIfInBounds_toArray, List.set_cons_zero, List.set_cons_succ]
  refine reg_move (i := 2) rfl (by kernel_rfl) (by kernel_rfl) (by kernel_rfl) (fun _ _ _ _ h => h) rfl (.pointer (some ⟨w.heap.size + 1, 0, none⟩)) (fun _ => rfl) hS.out ?_
  simp only [Act.put, List.getElem_toArray, List.getElem_cons_succ, List.getElem_cons_zero, List.setIfInBounds_toArray, List.set_cons_zero, List.set_cons_succ]
  refine reg_load1 (i := 3) rfl (by kernel_rfl) (by kernel_rfl) (by kernel_rfl) (fun _ _ _ _ h => h) rfl 3 _ rfl ⟨w.heap.size + 1, 0, none⟩ rfl _ Try.underlying3 rfl (.int .i64 y.kind) (fun w' h' => h'.2.1) hS.out ?_
  simp only [Act.put, List.getElem_toArray, List.getElem_cons_succ, List.getElem_cons_zero, List.setIfInBounds_toArray, List.set_cons_zero, List.set_cons_succ]
  refine reg_move (i := 5) rfl (by kernel_rfl) (by kernel_rfl) (by kernel_rfl) (fun _ _ _ _ h => h) rfl (.pointer (some ⟨w.heap.size, 1, none⟩)) (fun _ => rfl) hS.out ?_
  simp only [Act.put, List.getElem_toArray, List.getElem_cons_succ, List.getElem_cons_zero, List.setIfInBounds_toArray, List.set_cons_zero, List.set_cons_succ]
  refine reg_load1 (i := 6) rfl (by kernel_rfl) (by kernel_rfl) (by kernel_rfl) (fun _ _ _ _ h => h) rfl 3 _ rfl ⟨w.heap.size, 1, none⟩ rfl _ Try.underlying3 rfl (.int .i64 x.num) (fun w' h' => h'.1.2.1) hS.out ?_
  simp only [Act.put, List.getElem_toArray, List.getElem_cons_succ, List.getElem_cons_zero, List.setIfInBounds_toArray, List.set_cons_zero, List.set_cons_succ]
  refine reg_move (i := 7) rfl (by kernel_rfl) (by kernel_rfl) (by kernel_rfl) (fun _ _ _ _ h => h) rfl (.pointer (some ⟨w.heap.size + 1, 1, none⟩)) (fun _ => rfl) hS.out ?_
  simp only [Act.put, List.getElem_toArray, List.getElem_cons_succ, List.getElem_cons_zero, List.setIfInBounds_toArray, List.set_cons_zero, List.set_cons_succ]
  refine reg_load1 (i := 8) rfl (by kernel_rfl) (by kernel_rfl) (by kernel_rfl) (fun _ _ _ _ h => h) rfl 3 _ rfl ⟨w.heap.size + 1, 1, none⟩ rfl _ Try.underlying3 rfl (.int .i64 y.num) (fun w' h' => h'.2.2.1) hS.out ?_
  simp only [Act.put, List.getElem_toArray, List.getElem_cons_succ, List.getElem_cons_zero, List.setIfInBounds_toArray, List.set_cons_zero, List.set_cons_succ]
  refine reg_call2 (i := 4) (by kernel_rfl) rfl rfl 70 _ _ _ _ rfl (.int .i64 x.kind) (.int .i64 y.kind) rfl rfl (cf_fn Try.func70 (by kernel_rfl) (by kernel_rfl) _ _) _ (cmp_any x.kind y.kind _) ?_
  rintro e w1 ⟨rfl, rfl⟩
  refine ⟨_, rfl, hS.out, fun _ => ?_⟩
  simp only [Act.put, List.getElem_toArray, List.getElem_cons_succ, List.getElem_cons_zero, List.setIfInBounds_toArray, List.set_cons_zero, List.set_cons_succ]
  refine reg_call2 (i := 9) (by kernel_rfl) rfl rfl 70 _ _ _ _ rfl (.int .i64 x.num) (.int .i64 y.num) rfl rfl (cf_fn Try.func70 (by kernel_rfl) (by kernel_rfl) _ _) _ (cmp_any x.num y.num _) ?_
  rintro e w1 ⟨rfl, rfl⟩
  refine ⟨_, rfl, hS.out, fun _ => ?_⟩
  simp only [Act.put, List.getElem_toArray, List.getElem_cons_succ, List.getElem_cons_zero, List.setIfInBounds_toArray, List.set_cons_zero, List.set_cons_succ]
  refine reg_one (i := 10) (by kernel_rfl) rfl rfl ?_
  refine wpList_buildSlice rfl 39 3 2 _ rfl #[.int .i64 (cmpP x.kind y.kind), .int .i64 (cmpP x.num y.num)] iN _ Try.underlying39 hiN hzN (by rw [hsN]; omega) (by rw [hsN]; omega) (by simp only [hsN]; kernel_rfl) (wpList_nil (And.intro ⟨hS.out.1.later (boxed _ _), hS.out.2.later (boxed _ _)⟩ fun _ => ?_))
  simp only [Act.put, List.getElem_toArray, List.getElem_cons_succ, List.getElem_cons_zero, List.setIfInBounds_toArray, List.set_cons_zero, List.set_cons_succ]
  refine reg_call1 (i := 11) (by kernel_rfl) rfl rfl 69 _ _ rfl (.slice (some ⟨W.drew.heap.size, 0, none⟩) 2 2) rfl (cf_fn Try.func69 (by kernel_rfl) (by kernel_rfl) _ _) _ (or_any (cmpP x.kind y.kind) (cmpP x.num y.num) _ _ (World.cell?_alloc_at _ _ _ _ rfl) (World.cell?_alloc_at _ _ _ _ rfl)) ?_
  rintro e w1 ⟨rfl, rfl⟩
  refine ⟨_, rfl, ⟨hS.out.1.later (boxed _ _), hS.out.2.later (boxed _ _)⟩, fun _ => ?_⟩
  simp only [Act.put, List.getElem_toArray, List.getElem_cons_succ, List.getElem_cons_zero, List.setIfInBounds_toArray, List.set_cons_zero, List.set_cons_succ]
  refine reg_move (i := 12) rfl (by kernel_rfl) (by kernel_rfl) (by kernel_rfl) (fun _ _ _ _ h => h) rfl _ (fun _ => rfl) ⟨hS.out.1.later (boxed _ _), hS.out.2.later (boxed _ _)⟩ ?_
  simp only [Act.put, List.getElem_toArray, List.getElem_cons_succ, List.getElem_cons_zero, List.setIfInBounds_toArray, List.set_cons_zero, List.set_cons_succ]
  refine wpAnyH_done (by kernel_rfl) (NoPanic.normal ?_) _
  go_wp2
  go_ret
  exact ⟨rfl, 1, by rw [hWW]; rfl⟩
theorem cmpA_lays [Inhabited Acc] (blk off size : Nat) (w : World) : CmpLays Try.prog 36 #[] Acc.cells 3 cmpA blk off size w :=
  fun m os dk hs x y => (compareW_any x y _).mono fun e w' ⟨he, q, hq⟩ => ⟨he, q, #[objA x, objA y, .cells #[.int .i64 (cmpP x.kind y.kind), .int .i64 (cmpP x.num y.num)] 3], by rw [hq, Go.Sort.alloc_eq_grow, Go.Sort.alloc_eq_grow, Go.Sort.alloc_eq_grow, Go.Sort.grow_grow]; exact Go.Sort.grow_grow ((Go.Proofs.sortWorldK Acc.cells 3 w blk off m dk os).drewN q) (#[objA x] ++ #[objA y]) _⟩
theorem own_holdsA [Inhabited Acc] {w : World} {lo g cap : Nat} {E : List Acc} (h : OwnL w lo 67 3 (some ⟨g, 0, none⟩) cap (E.map Acc.cells)) : Go.Sort.HoldsK Acc.cells 3 w g 0 E.toArray := by
  intro t ht
  rw [Go.Sort.size_flatK] at ht
  have hlt : t < E.length * 3 := by simpa using ht
  rw [Go.Sort.get_flatK _ _ _ _ ht, Nat.zero_add]
  have hi : t / 3 < E.length := by omega
  have hc := World.ownsRow.cellAt h t (by rw [List.length_map]; exact hlt)
  have ht2 : t = t / 3 * 3 + t % 3 := by omega
  constructor
  · rw [hc]
    conv => lhs; rw [ht2]
    rw [flatten_at (k := 3) (E.map Acc.cells) (fun row hr => by rw [List.mem_map] at hr; obtain ⟨y, _, rfl⟩ := hr; rfl) (t / 3) (Acc.cells E[t / 3]) (by rw [List.getElem?_map, List.getElem?_eq_getElem hi]; rfl) (t % 3) (by omega)]
    have e1 : E.toArray[t / 3]! = E[t / 3] := by simp [hi]
    rw [e1]
    have h2 : t % 3 < (Acc.cells E[t / 3]).length := by show t % 3 < 3; omega
    have h3 : (Acc.cells E[t / 3])[t % 3]! = (Acc.cells E[t / 3])[t % 3]'h2 := getElem!_pos (Acc.cells E[t / 3]) (t % 3) h2
    rw [List.getElem?_eq_getElem h2, h3]
    rfl
  · rcases h.2 with ⟨h1, _⟩ | ⟨g', cap', cur, h1, _, hg, _⟩
    · simp only [Value.slice.injEq] at h1
      cases h1.1
    · simp only [Value.slice.injEq, Option.some.injEq, Addr.mk.injEq, and_true, true_and] at h1
      rw [h1.1]
      exact frozen_of_row _ _ _ _ _ hg
theorem sortA_one (g cap lo : Nat) (E : List Acc) (w : World) (hE : OwnL w lo 67 3 (some ⟨g, 0, none⟩) cap (E.map Acc.cells)) (hlen : E.length ≤ 65536) :
    Calls Try.prog 35 #[.slice (some ⟨g, 0, none⟩) E.length cap, .func (.func 36) #[] #[]] w fun e w' => e = .returned (.tuple #[]) ∧ ∃ D : List Acc, D.Perm E ∧ D.Pairwise (fun x y => bef y x = false) ∧ Rows w' 3 (some ⟨g, 0, none⟩) cap (D.map Acc.cells) ∧ (∀ b, b < w.heap.size → b ≠ g → w'.heap[b]? = w.heap[b]?) ∧ Below lo w w' := by
  haveI : Inhabited Acc := ⟨⟨0, 0, false⟩⟩
  have eg : ∀ args w, (callFunc 36 args).run Try.prog w = .ok (.enter 36 args) w := enters_of Try.func36 (by kernel_rfl) rfl
  have hgl := blk_lt hE g (by simp [blk])
  have hr := own_rows hE fun row hm => by rw [List.mem_map] at hm; obtain ⟨y, _, rfl⟩ := hm; rfl
  have hcon := Try.slices_SortAcc 3 Try.isAgg67 Try.sizeOf67 Acc.cells (fun _ => rfl) oneA cmpA cmpA_swo 36 #[] g 0 cap E.toArray w eg (cmpA_lays g 0 _ w) (own_holdsA hE) hgl.2 (by simp; omega)
  change Calls Try.prog 35 _ _ _ at hcon
  simp only [List.size_toArray] at hcon
  refine hcon.mono ?_
  rintro e w' ⟨rfl, d', n, os, hp, hs, rfl⟩
  obtain ⟨h1, h2, h3⟩ := hp
  have hsz : d'.toList.length = E.length := by rw [Array.length_toList, h1]; simp
  have hk : Go.Sort.HoldsK Acc.cells 3 (Go.Sort.grow (Go.Sort.putRowK Acc.cells 3 (Go.Sort.ahead w n) g 0 d') os) g 0 d' := Go.Sort.holdsK_grow Acc.cells 3 _ os g 0 d' (by show g < (Go.Sort.putRow id (Go.Sort.ahead w n) g 0 _).heap.size; rw [Go.Sort.size_putRow]; exact hgl.2) (Go.Sort.holdsK_putRowK Acc.cells 3 (Go.Sort.ahead w n) g 0 E.toArray d' (own_holdsA hE) h1)
  have hblk : ∀ b, b < w.heap.size → b ≠ g → (Go.Sort.grow (Go.Sort.putRowK Acc.cells 3 (Go.Sort.ahead w n) g 0 d') os).heap[b]? = w.heap[b]? := fun b q1 q2 => by
    simp only [Go.Sort.grow, Go.Sort.putRowK, Go.Sort.putRow, Go.Sort.mapBlock, Go.Sort.ahead]
    rw [Array.getElem?_append_left (by simp; exact q1), Array.getElem?_modify, if_neg (Ne.symm q2)]
  refine ⟨rfl, d'.toList, ?_, ?_, ?_, hblk, ?_⟩
  · have e1 : d'.extract 0 E.length = d' := by rw [show E.length = d'.size by rw [h1]; simp]; simp
    have e2 : E.toArray.extract 0 E.length = E.toArray := by simp
    rw [e1, e2] at h3
    simpa using h3
  · rw [List.pairwise_iff_getElem]
    intro i j hi hj hij
    have q := hs i j (Nat.zero_le _) hij (by omega)
    rw [cmpA_lt] at q
    have e1 : d'[i]! = d'.toList[i] := by rw [getElem!_pos d' i (by simpa using hi)]; rfl
    have e2 : d'[j]! = d'.toList[j] := by rw [getElem!_pos d' j (by simpa using hj)]; rfl
    rw [e1, e2] at q
    exact q
  · refine ⟨by rw [List.length_map, hsz]; have := hr.1; rwa [List.length_map] at this, hr.2.1, by simp, .inr ⟨g, 0, rfl, ?_, fun i row hi => ?_⟩⟩
    · show g < (Go.Sort.grow _ os).heap.size
      simp only [Go.Sort.grow, Array.size_append, Go.Sort.putRowK, Go.Sort.size_putRow]
      have := hgl.2
      show g < w.heap.size + os.size
      omega
    · rw [List.getElem?_map, Option.map_eq_some_iff] at hi
      obtain ⟨x, hx, rfl⟩ := hi
      have hil : i < d'.size := by have := (List.getElem?_eq_some_iff.mp hx).1; simpa using this
      have hxe : d'[i]! = x := by
        rw [getElem!_pos d' i hil]
        have := (List.getElem?_eq_some_iff.mp hx).2
        simpa using this
      refine ⟨rfl, fun j u hj => ?_⟩
      have hj2 : j < 3 := (List.getElem?_eq_some_iff.mp hj).1
      have := (hk.cell hil hj2).1
      rw [hxe] at this
      rw [show 0 + (i * 3 + j) = 0 + i * 3 + j by omega]
      refine Eq.trans this ?_
      have q := (List.getElem?_eq_some_iff.mp hj)
      have h3 : (Acc.cells x)[j]! = (Acc.cells x)[j]'q.1 := getElem!_pos (Acc.cells x) j q.1
      rw [h3, q.2]
  · refine ⟨rfl, rfl, rfl, ?_, fun b hb => hblk b (by have := hgl.1; have := hgl.2; omega) (by have := hgl.1; omega)⟩
    simp only [sortWorldK, Go.Sort.grow, Array.size_append, Go.Sort.putRowK, Go.Sort.size_putRow]
    show w.heap.size ≤ w.heap.size + os.size
    omega
set_option maxHeartbeats 1000000 in
theorem insA_nil (w : World) : Calls Try.prog 81 #[.slice none 0 0, .int .i64 0, .int .i64 0, .func (.func 36) #[] #[]] w fun e w' => (∃ v, e = .returned v) ∧ w' = w := by
  go_enter Try.func81, Try.ntmps81
  go_wp2
  go_loopw [8] (fun u wr => u = .int .i64 1 ∧ wr = w) (fun _ _ => 0)
  case atStart => exact ⟨rfl, rfl⟩
  case round =>
    obtain ⟨rfl, rfl⟩ := hrel
    go_wp2
    go_end0
    exact ⟨⟨_, rfl⟩, rfl⟩
set_option maxHeartbeats 1000000 in
theorem pdqA_nil (n : Int) (w : World) : Calls Try.prog 67 #[.slice none 0 0, .int .i64 0, .int .i64 0, .int .i64 n, .func (.func 36) #[] #[]] w fun e w' => (∃ v, e = .returned v) ∧ w' = w := by
  have c1 := insA_nil w
  go_enter Try.func67, Try.ntmps67
  go_wp2_with fail
  refine wp_loop_once ?_
  go_wp2_with (go_at_call 81; (with_reducible refine c1.mono ?_); rintro e w' ⟨⟨v, rfl⟩, rfl⟩)
  exact bodyPost_ret (results_none rfl _ _ _) rfl ⟨⟨_, rfl⟩, rfl⟩
theorem len0A (w : World) : Calls Try.prog 68 #[.int .u64 0] w fun e w' => (∃ n, e = .returned (.int .i64 n)) ∧ w' = w := by
  have h := Try.bits_Len 0 w (by omega) (by omega)
  exact h.mono fun e w' ⟨he, hw⟩ => ⟨⟨_, he⟩, hw⟩
set_option maxHeartbeats 1000000 in
theorem sortA_nil (w : World) : Calls Try.prog 35 #[.slice none 0 0, .func (.func 36) #[] #[]] w fun e w' => (∃ v, e = .returned v) ∧ w' = w := by
  have c1 := len0A w
  have c2 := fun n => pdqA_nil n w
  go_enter Try.func35, Try.ntmps35
  go_wp2_with (first | (go_at_call 68; (with_reducible refine c1.mono ?_); rintro e w' ⟨⟨v, rfl⟩, rfl⟩) | (go_at_call 67; (with_reducible refine (c2 _).mono ?_); rintro e w' ⟨⟨v2, rfl⟩, rfl⟩))
  go_end0
  exact ⟨⟨_, rfl⟩, rfl⟩
theorem own_nil_isA {w : World} {lo e k cap : Nat} {L : List (List Value)} (h : OwnL w lo e k none cap L) : L = [] ∧ cap = 0 := by
  rcases own_block h with ⟨_, h1, h2⟩ | ⟨g, h1, _⟩
  · exact ⟨List.length_eq_zero_iff.mp h1, h2⟩
  · cases h1
theorem sortA_any (da : Option Addr) (cap lo : Nat) (E : List Acc) (w : World) (hE : OwnL w lo 67 3 da cap (E.map Acc.cells)) (hlen : E.length ≤ 65536) :
    Calls Try.prog 35 #[.slice da E.length cap, .func (.func 36) #[] #[]] w fun e w' => (∃ v, e = .returned v) ∧ ∃ D : List Acc, D.Perm E ∧ D.Pairwise (fun x y => bef y x = false) ∧ Rows w' 3 da cap (D.map Acc.cells) ∧ (∀ b, b < w.heap.size → b ∉ blk da → w'.heap[b]? = w.heap[b]?) ∧ Below lo w w' := by
  cases da with
  | none =>
    obtain ⟨h1, rfl⟩ := own_nil_isA hE
    have hE0 : E = [] := by simpa using h1
    subst hE0
    exact (sortA_nil w).mono fun e w' ⟨hv, hw⟩ => ⟨hv, [], .refl _, .nil, by rw [hw]; exact ⟨by simp, by omega, fun _ => ⟨rfl, rfl⟩, .inl rfl⟩, fun b _ _ => by rw [hw], by rw [hw]; exact Below.refl _ _⟩
  | some ad =>
    rcases own_block hE with ⟨h1, _⟩ | ⟨g, h1, h2, h3⟩
    · cases h1
    · cases h1
      exact (sortA_one g cap lo E w hE hlen).mono fun e w' ⟨he, D, q1, q2, q3, q4, q5⟩ => ⟨⟨_, he⟩, D, q1, q2, q3, fun b b1 b2 => q4 b b1 fun q => b2 (by simp [blk, q]), q5⟩
end Go.Proofs.Ytkadlopcomjonaa.pg
/- Package depend's Objects: all accesses gathered, sorted, and put together. -/
namespace Go.Proofs.Ytkadlopcomjonaa.pg
open Go.ChangeShapes Go.WideShapes Go.ChangeAt Go.RowKit Go.Shelf
set_option linter.unusedVariables false
set_option linter.unusedSimpArgs false
set_option maxRecDepth 100000
attribute [local go_sem ↓] Go.wp_at_zero Go.wp_at_succ
theorem flatten_setA {k : Nat} : ∀ (L : List (List Value)), (∀ row ∈ L, row.length = k) → ∀ (i : Nat) (row : List Value), L[i]? = some row → ∀ (j : Nat) (v : Value), j < k → (L.set i (row.set j v)).flatten = L.flatten.set (i * k + j) v
  | [], _, i, row, h, _, _, _ => by simp at h
  | r :: t, hk, 0, row, h, j, v, hj => by
    simp at h
    subst h
    have hr := hk r (by simp)
    simp only [List.set_cons_zero, List.flatten_cons, Nat.zero_mul, Nat.zero_add]
    rw [List.set_append_left _ _ (by omega)]
  | r :: t, hk, i + 1, row, h, j, v, hj => by
    simp at h
    have hr := hk r (by simp)
    have ih := flatten_setA t (fun q hq => hk q (by simp [hq])) i row h j v hj
    simp only [List.set_cons_succ, List.flatten_cons, ih]
    rw [List.set_append_right _ _ (by rw [hr, Nat.succ_mul]; omega), hr]
    congr 2
    rw [Nat.succ_mul]; omega
theorem own_putA {w : World} {lo e k : Nat} {g cap : Nat} {L : List (List Value)} (h : OwnL w lo e k (some ⟨g, 0, none⟩) cap L) (hk : ∀ row ∈ L, row.length = k) (i : Nat) (row : List Value) (hi : L[i]? = some row) (j : Nat) (hj : j < k) (v : Value) :
    OwnL (w.setCell ⟨g, i * k + j, none⟩ v) lo e k (some ⟨g, 0, none⟩) cap (L.set i (row.set j v)) := by
  have hfl := flatten_setA L hk i row hi j v hj
  refine ⟨by rw [hfl, List.length_set, List.length_set]; exact h.1, ?_⟩
  rcases h.2 with ⟨q, _⟩ | ⟨g', cap', cur, q, hb, hg, h1, h2, h3, h4⟩
  · simp at q
  · simp only [Value.slice.injEq, Option.some.injEq, Addr.mk.injEq] at q
    obtain ⟨⟨rfl, _⟩, _, rfl⟩ := q
    refine .inr ⟨g, cap, cur.setIfInBounds (i * k + j) v, by rw [List.length_set], hb, heap_setCell_same w g _ cur e v hg, by rw [List.length_set]; exact h1, h2, by rw [Array.size_setIfInBounds]; exact h3, ?_⟩
    rw [hfl, ← h4, List.length_set, Array.toList_setIfInBounds, List.take_set]
/-- All accesses of the first events. -/
def gath (l : List Ev) (j : Nat) : List Acc := (l.take j).flatMap Ev.of
theorem gath_more {l : List Ev} {j : Nat} {x : Ev} (h : l[j]? = some x) : gath l (j + 1) = gath l j ++ x.of := by
  unfold gath
  rw [take_one l j x h, List.flatMap_append]
  simp
theorem flat_len : ∀ (q : List Ev), (q.flatMap Ev.of).length ≤ 6 * q.length
  | [] => by simp
  | x :: t => by
    have ih := flat_len t
    have h1 := Ev.of_len x
    have h2 := tN_le x.n
    rw [List.flatMap_cons, List.length_append, List.length_cons]
    omega
theorem gath_len (l : List Ev) (j : Nat) : (gath l j).length ≤ 6 * l.length := by
  have h1 := flat_len (l.take j)
  rw [List.length_take] at h1
  unfold gath
  omega
/-- One more access, behind those put together. -/
def mst (os : List Acc) (a : Acc) : List Acc := match os.getLast? with
  | some o => if (o.kind == a.kind && o.num == a.num) = true then os.dropLast ++ [⟨o.kind, o.num, o.wr || a.wr⟩] else os ++ [a]
  | none => [a]
theorem mst_nil (a : Acc) : mst [] a = [a] := rfl
theorem mst_yes {p : List Acc} {o a : Acc} (h : (o.kind == a.kind && o.num == a.num) = true) : mst (p ++ [o]) a = p ++ [⟨o.kind, o.num, o.wr || a.wr⟩] := by
  unfold mst
  rw [List.getLast?_append]
  simp only [List.getLast?_singleton, Option.some_or]
  rw [if_pos h, List.dropLast_concat]
theorem mst_no {p : List Acc} {o a : Acc} (h : (o.kind == a.kind && o.num == a.num) = false) : mst (p ++ [o]) a = p ++ [o] ++ [a] := by
  unfold mst
  rw [List.getLast?_append]
  simp only [List.getLast?_singleton, Option.some_or]
  rw [if_neg (by rw [h]; simp)]
def mrg (D : List Acc) : List Acc := D.foldl mst []
theorem mrg_more {D : List Acc} {j : Nat} {a : Acc} (h : D[j]? = some a) : mrg (D.take (j + 1)) = mst (mrg (D.take j)) a := by
  unfold mrg
  rw [take_one D j a h, List.foldl_append]
  rfl
theorem mst_len (os : List Acc) (a : Acc) : (mst os a).length ≤ os.length + 1 := by
  rcases List.eq_nil_or_concat os with rfl | ⟨p, o, rfl⟩
  · simp [mst_nil]
  · rw [List.concat_eq_append]
    cases h : (o.kind == a.kind && o.num == a.num) with
    | true => rw [mst_yes h]; simp
    | false => rw [mst_no h]; simp
theorem fold_len : ∀ (D os : List Acc), (D.foldl mst os).length ≤ os.length + D.length
  | [], os => by simp
  | a :: t, os => by
    have h1 := fold_len t (mst os a)
    have h2 := mst_len os a
    rw [List.foldl_cons, List.length_cons]
    omega
theorem mrg_len (D : List Acc) : (mrg D).length ≤ D.length := by have := fold_len D []; unfold mrg; simpa using this
/-- A list of accesses of the call's own. -/
structure OaS (w wr : World) (va : Option Addr) (vc : Nat) (L : List Acc) : Prop where
  ow : OwnL wr w.heap.size 67 3 va vc (L.map Acc.cells)
  be : Below w.heap.size w wr
theorem OaS.later {w wr w' : World} {va : Option Addr} {vc : Nat} {L : List Acc} (h : OaS w wr va vc L) (hb : Below wr.heap.size wr w') : OaS w w' va vc L :=
  ⟨own_keep h.ow fun g hg => hb.block g (blk_lt h.ow g hg).2, bthen h.be hb⟩
theorem lenA (L : List Acc) : ∀ row ∈ L.map Acc.cells, row.length = 3 := fun row hm => by rw [List.mem_map] at hm; obtain ⟨y, _, rfl⟩ := hm; rfl
theorem OaS.grow {w wr w' : World} {va va' : Option Addr} {vc vc' : Nat} {L : List Acc} {a : Acc} (h : OaS w wr va vc L) (hg : Grown wr w.heap.size 67 3 va (L.map Acc.cells) a.cells va' vc' w') : OaS w w' va' vc' (L ++ [a]) :=
  ⟨by rw [List.map_append]; exact hg.ow, below_min h.be h.be.size hg.be⟩
/-- The last one: where it is; its mark set. -/
theorem OaS.last {w wr : World} {g vc : Nat} {p : List Acc} {o : Acc} (h : OaS w wr (some ⟨g, 0, none⟩) vc (p ++ [o])) :
    (wr.cell? ⟨g, p.length * 3, none⟩ = some (.int .i64 o.kind) ∧ wr.cell? ⟨g, p.length * 3 + 1, none⟩ = some (.int .i64 o.num) ∧ wr.cell? ⟨g, p.length * 3 + 2, none⟩ = some (.bool o.wr)) ∧ wr.frozen? ⟨g, p.length * 3 + 2, none⟩ = false ∧ ∀ v, OaS w (wr.setCell ⟨g, p.length * 3 + 2, none⟩ (.bool v)) (some ⟨g, 0, none⟩) vc (p ++ [⟨o.kind, o.num, v⟩]) := by
  have hi : ((p ++ [o]).map Acc.cells)[p.length]? = some o.cells := by simp
  have hc : ∀ t, t < 3 → wr.cell? ⟨g, p.length * 3 + t, none⟩ = o.cells[t]? := fun t ht => by
    rw [World.ownsRow.cellAt h.ow (p.length * 3 + t) (by rw [List.length_map, List.length_append, List.length_singleton]; omega)]
    exact flatten_at (k := 3) _ (lenA _) p.length o.cells hi t ht
  refine ⟨⟨hc 0 (by omega), hc 1 (by omega), hc 2 (by omega)⟩, ?_, fun v => ⟨?_, ?_⟩⟩
  · rcases h.ow.2 with ⟨h1, _⟩ | ⟨g', cap', cur, h1, _, hg, _⟩
    · simp only [Value.slice.injEq] at h1
      cases h1.1
    · simp only [Value.slice.injEq, Option.some.injEq, Addr.mk.injEq, and_true, true_and] at h1
      rw [h1.1]
      exact frozen_of_row _ _ _ _ _ hg
  · have := own_putA h.ow (lenA _) p.length o.cells hi 2 (by omega) (.bool v)
    have e : ((p ++ [o]).map Acc.cells).set p.length (o.cells.set 2 (.bool v)) = (p ++ [(⟨o.kind, o.num, v⟩ : Acc)]).map Acc.cells := by
      rw [List.map_append, List.map_append, List.set_append_right _ _ (by simp), List.length_map, Nat.sub_self]
      rfl
    rw [e] at this
    exact this
  · exact h.be.setCell (p := ⟨g, p.length * 3 + 2, none⟩) (blk_lt h.ow g (by simp [blk])).1 _
theorem ix_acc (g c n i : Nat) (h : i < n) : ∀ wx, (Instr.indexAt 28 (.slice (some ⟨g, 0, none⟩) n c) (.int .i64 (i : Int))).run Try.prog wx = .ok (.pointer (some ⟨g, i * 3, none⟩)) wx := by
  intro wx
  have u := Try.underlying28
  have z := Try.sizeOf67
  have q1 : (i : Int) < n := by omega
  have q2 : ¬ (i : Int) < 0 := by omega
  simp [Instr.indexAt, run_underlying u, asIntOf, go_sem, z, q1, q2, h]
theorem objects_bad (l : List Ev) (la : Option Addr) (lc : Nat) (w : World) (hl : Rows w 26 la lc (l.map Ev.cells)) (c : Int) (hc : Hid (checkP l c)) (h0 : (c == 0) = false) : Calls Try.prog 12 #[.slice la l.length lc] w fun e w' => e = .returned (.tuple #[.slice none 0 0, .int .i64 c]) ∧ Below w.heap.size w w' := by
  have c1 : Calls Try.prog 10 #[.slice la l.length lc] w _ := check_any l la lc w hl c hc
  clear hl hc
  go_enter Try.func12, Try.ntmps12
  go_wp2_with (go_at_call 10; (with_reducible refine c1.mono ?_); rintro e w1 ⟨rfl, hb1⟩)
  go_ret2
  exact ⟨rfl, hb1⟩
set_option maxHeartbeats 4000000 in
theorem objects_ok (l : List Ev) (la : Option Addr) (lc : Nat) (w : World) (hl : Rows w 26 la lc (l.map Ev.cells)) (hlen : l.length ≤ 256) (hrt : ∀ x ∈ l, rightP x) :
    Calls Try.prog 12 #[.slice la l.length lc] w fun e w' => ∃ oa oc, ∃ D : List Acc, e = .returned (.tuple #[.slice oa (mrg D).length oc, .int .i64 0]) ∧ Hid (D.Perm (gath l l.length) ∧ D.Pairwise (fun x y => bef y x = false) ∧ Rows w' 3 oa oc ((mrg D).map Acc.cells) ∧ Below w.heap.size w w') := by
  have c1 : Calls Try.prog 10 #[.slice la l.length lc] w _ := check_any l la lc w hl 0 (.inr (.inr ⟨hlen, hrt, rfl⟩))
  have hlI : (l.length : Int) ≤ 256 := by omega
  have hlH : Hid (Rows w 26 la lc (l.map Ev.cells)) := hl
  have hrtH : Hid (∀ x ∈ l, rightP x) := hrt
  obtain ⟨iA, hiA', hzA, hsA, hbA⟩ := info_q infoA
  have hiA : Hid (Try.prog.info? 67 = some iA ∧ iA.zero = some (.agg #[.int .i64 0, .int .i64 0, .bool false]) ∧ iA.size = 3 ∧ iA.bytes = 24) := ⟨hiA', hzA, hsA, hbA⟩
  have huH : Hid (Try.prog.underlying 70 = _) := Try.underlying70
  have hiH : Hid ((Try.prog.info? 70).map (·.size) = some 26) := infoE26
  have cO : ∀ (k n : Int) (r : Bool) wx, Calls Try.prog 37 #[.agg #[.int .i64 k, .int .i64 n, .bool r]] wx _ := fun k n r wx => object_any ⟨k, n, r⟩ wx
  clear hl hrt hiA' hzA hsA hbA
  go_enter Try.func12, Try.ntmps12
  go_wp2_with (first
    | (go_at_call 10; (with_reducible refine c1.mono ?_); rintro e w0 ⟨rfl, hb0⟩; (have hb0H : Hid (Below w.heap.size w w0) := hb0); clear c1 hb0))
  go_loopw [5, 19] (fun o u wr => ∃ (j : Nat) (va : Option Addr) (vc : Nat), j ≤ l.length ∧ u = .int .i64 j ∧ o = .slice va (gath l j).length vc ∧ Hid (OaS w wr va vc (gath l j))) (fun _ u _ => l.length - (intOf u).toNat)
  case atStart => exact ⟨0, none, 0, Nat.zero_le _, rfl, rfl, own_nil_q _ _ _ _, hb0H.out⟩
  case round =>
    obtain ⟨j, va, vc, hj, rfl, rfl, stH⟩ := hrel
    by_cases hlt : j < l.length
    · obtain ⟨x, hx, hxm⟩ := get_lt l j hlt
      obtain ⟨b0, o0, hix, hbl, hrg⟩ := ev_row (hlH.out.later stH.out.be) j x hx
      have hrH : Hid (wr.rangeAt b0 o0 x.cells) := hrg
      have hjI : (j : Int) < l.length := by omega
      have hxr : Hid (rightP x) := hrtH.out x hxm
      have bx := boxE_new wr x
      have c25 : (wr.alloc (objE x)).cell? ⟨wr.heap.size, 25, none⟩ = some (.int .i64 x.n) := bx.at 25 _ rfl
      have hbxH : Hid (BoxE (wr.alloc (objE x)) wr.heap.size x) := bx
      obtain ⟨N, hN⟩ : ∃ N, N = tN x.n := ⟨_, rfl⟩
      have hNI : ((N : Nat) : Int) = x.n := by rw [hN]; exact tN_eq hxr.out.1.2.2.1 hxr.out.1.2.2.2
      have hN16 : 1 ≤ N ∧ N ≤ 6 := by have := hxr.out.1; omega
      obtain ⟨sl1, _, _, _⟩ := slice_two wr.heap.size N hN16.1 hN16.2
      rw [hNI] at sl1
      have hofl : Hid (x.of.length = N) := by show _ = _; rw [hN, Ev.of_len]
      have hgl : Hid ((gath l j).length ≤ 1536 ∧ ((gath l j).map Acc.cells ++ x.of.map Acc.cells).length = (gath l (j + 1)).length ∧ gath l (j + 1) = gath l j ++ x.of) := ⟨by have := gath_len l j; omega, by rw [gath_more hx]; simp, gath_more hx⟩
      clear hrg bx hN hNI
      go_upto_region 8 with (first
        | (refine wpList_load_mid rfl 70 _ rfl b0 o0 rfl x.cells _ hrH.out huH.out rfl hiH.out ?_)
        | (refine wpList_store_new rfl 70 _ _ rfl rfl _ x.cells.toArray rfl (by kernel_rfl) rfl (ev_one x) ?_))
      change Code.wp _ _ _ _ (wr.alloc (objE x))
      have st1 : Hid (OaS w (wr.alloc (objE x)) va vc (gath l j)) := stH.out.later (boxed _ _)
      generalize wr.alloc (objE x) = W at *
      go_frame
      have hLr : Hid (Rows W 3 (some ⟨wr.heap.size, 7, none⟩) 6 (x.of.map Acc.cells)) := rowsE hbxH.out
      go_wp2_with (first
        | (at_builtin; (refine wpList_app rfl (.tmp 23) (.tmp 27) 28 rfl w.heap.size 67 iA _ 3 24 Try.underlying28 hiA.out.1 hiA.out.2.1 hiA.out.2.2.1 hiA.out.2.2.2 rfl (by decide) va vc ((gath l j).map Acc.cells) (by rw [List.length_map]; rfl) st1.out.ow (some ⟨wr.heap.size, 7, none⟩) 6 (x.of.map Acc.cells) (by rw [List.length_map, hofl.out]; rfl) hLr.out (lenA _) (fun row hm u hu => by rw [List.mem_map] at hm; obtain ⟨y, _, rfl⟩ := hm; exact oneA y u hu) (by rw [List.length_map, List.length_map, hofl.out]; have := hgl.out.1; unfold maxLen; omega) (by rw [List.length_map, List.length_map, hofl.out]; have := hgl.out.1; omega) st1.out.be.size ?_); intro va' vc' w3 ho hk hb hbl'; rw [hgl.out.2.1]; (have s3 : Hid (OaS w w3 va' vc' (gath l (j + 1))) := ⟨by rw [hgl.out.2.2, List.map_append]; exact ho, below_min st1.out.be st1.out.be.size hb⟩); clear ho hk hb hbl'))
      go_roundw
      case rel => exact ⟨j + 1, va', vc', by omega, by go_num, rfl, s3⟩
      case measure => simp [intOf]; omega
    · have hj2 : j = l.length := by omega
      subst hj2
      have hG : Hid ((gath l l.length).length ≤ 1536) := by have := gath_len l l.length; show _ ≤ _; omega
      clear hj hlt
      go_wp2_with (first
        | (go_at_call 35; (refine (sortA_any va vc w.heap.size (gath l l.length) _ stH.out.ow (by have := hG.out; omega)).mono ?_); rintro e w2 ⟨⟨v, rfl⟩, D, q1, q2, q3, q4, q5⟩; (have qH : Hid (D.Perm (gath l l.length) ∧ D.Pairwise (fun x y => bef y x = false) ∧ Rows w2 3 va vc (D.map Acc.cells) ∧ Below w.heap.size w w2 ∧ D.length ≤ 1536) := ⟨q1, q2, q3, stH.out.be.trans q5, by rw [q1.length_eq]; exact hG.out⟩); (have hDl : D.length = (gath l l.length).length := q1.length_eq); clear q1 q2 q3 q4 q5))
      rw [← hDl]
      have hDI : (D.length : Int) ≤ 1536 := by have := qH.out.2.2.2.2; omega
      clear hDl stH hG
      go_loopw [8, 34] (fun o u wr => ∃ (j : Nat) (oa : Option Addr) (oc : Nat), j ≤ D.length ∧ u = .int .i64 j ∧ o = .slice oa (mrg (D.take j)).length oc ∧ Hid (OaS w2 wr oa oc (mrg (D.take j)))) (fun _ u _ => D.length - (intOf u).toNat)
      case atStart => exact ⟨0, none, 0, Nat.zero_le _, rfl, rfl, own_nil_q _ _ _ _, Below.refl _ _⟩
      case round =>
        rename World => wr
        obtain ⟨j, oa, oc, hj, rfl, rfl, stH⟩ := hrel
        by_cases hlt : j < D.length
        · obtain ⟨a, ha, ham⟩ := get_lt D j hlt
          obtain ⟨b0, o0, hix, hbl, k0, k1, k2⟩ := acc_ix (qH.out.2.2.1.later stH.out.be) j a ha
          have hjI : (j : Int) < D.length := by omega
          have hnx : Hid (mrg (D.take (j + 1)) = mst (mrg (D.take j)) a) := mrg_more ha
          have hol : Hid ((mrg (D.take j)).length ≤ 1536) := by have h1 := mrg_len (D.take j); rw [List.length_take] at h1; have := qH.out.2.2.2.2; show _ ≤ _; omega
          generalize mrg (D.take j) = os at *
          obtain ⟨M, hM'⟩ : ∃ M, M = os.length := ⟨_, rfl⟩
          rw [← hM'] at hol ⊢
          have hM : Hid (M = os.length) := hM'
          have hMb : Hid (M ≤ 1536) := hol
          have hMI : (M : Int) ≤ 1536 := by have := hol.out; omega
          clear hol hM'
          go_wp2_with fail
          generalize hWW : wr.alloc (objA a) = W2 at *
          have sW2 : Hid (OaS w2 W2 oa oc os) := by rw [← hWW]; exact stH.out.later (boxed _ _)
          have bA2 : Hid (BoxA W2 wr.heap.size a) := by rw [← hWW]; exact boxA_new wr a
          clear hWW k0 k1 k2 hbl stH
          have d0 := bey_cell bA2.out.1
          have d1 := bey_cell bA2.out.2.1
          have d2 := bey_cell bA2.out.2.2
          have hne := bey_some W2
          rcases List.eq_nil_or_concat os with hos | ⟨p, o, hos⟩
          · have hg0 : M = 0 := by rw [hM.out, hos]; rfl
            have hfin : Hid (os ++ [a] = mrg (D.take (j + 1)) ∧ M + 1 = (mrg (D.take (j + 1))).length) := ⟨by rw [hnx.out, hos, mst_nil]; rfl, by rw [hnx.out, hos, mst_nil, hg0]; rfl⟩
            have hgI : decide ((0 : Int) < (M : Int)) = false := by rw [hg0]; rfl
            have hgN : decide (0 < M) = false := by rw [hg0]; rfl
            clear hos
            refine wp_region_cls (Bey W2) (by kernel_rfl) (by kernel_rfl) (bey_drew W2) ?_
            repeat (go_big_quiet_step ((go_at_call 37; exact calls_bey (cO _ _ _ _))))
            refine wpQuiet_nil ?_
            intro _ hw'
            obtain ⟨sq, hw''⟩ := hw'
            subst hw''
            have sq2 : Hid (OaS w2 sq.w oa oc os) := sW2.out.later sq.h
            have bq : BoxA sq.w wr.heap.size a := bA2.out.later sq.h
            obtain ⟨p0, p1, p2⟩ := bq
            clear d0 d1 d2 hne bA2 sW2
            go_wp2_with (first
              | (refine wpList_buildSlice rfl 28 67 1 _ rfl a.cells.toArray iA _ Try.underlying28 hiA.out.1 hiA.out.2.1 (by rw [hiA.out.2.2.1]; omega) (by rw [hiA.out.2.2.1]; omega) (by simp only [hiA.out.2.2.1]; kernel_rfl) ?_)
              | (at_builtin; (refine wpList_app1 rfl (.tmp 68) (.tmp 70) 28 rfl w2.heap.size 67 iA _ 3 24 Try.underlying28 hiA.out.1 hiA.out.2.1 hiA.out.2.2.1 hiA.out.2.2.2 rfl (by decide) oa oc (os.map Acc.cells) (by rw [List.length_map, ← hM.out]; rfl) sq2.out.ow a.cells rfl rfl (oneA a) (by rw [List.length_map, ← hM.out]; have := hMb.out; unfold maxLen; omega) (by rw [List.length_map, ← hM.out]; have := hMb.out; omega) sq2.out.be.size ?_); intro oa' oc' w3 hg; rw [List.length_map, ← hM.out]; (have hg2 : Hid (OaS w2 w3 oa' oc' (os ++ [a])) := sq2.out.grow hg); clear hg))
            go_roundw
            case rel => exact ⟨j + 1, oa', oc', by omega, by go_num, by rw [← hfin.out.2, hg0], by rw [← hfin.out.1]; exact hg2⟩
            case measure => simp [intOf]; omega
          · rw [List.concat_eq_append] at hos
            have hMp : M = p.length + 1 := by rw [hM.out, hos]; simp
            have hgI : decide ((0 : Int) < (M : Int)) = true := decide_eq_true (by omega)
            have hgN : decide (0 < M) = true := decide_eq_true (by omega)
            have hw1 : wrap64 ((M : Int) - 1) = (M : Int) - 1 := by simp only [wrap64]; omega
            obtain ⟨g, hoa⟩ : ∃ g, oa = some ⟨g, 0, none⟩ := by
              rcases own_block sW2.out.ow with ⟨_, q, _⟩ | ⟨g, q, _, _⟩
              · rw [hos] at q; simp at q
              · exact ⟨g, q⟩
            subst hoa
            have hxi := ix_acc g oc M p.length (by omega)
            rw [show ((p.length : Nat) : Int) = (M : Int) - 1 by omega] at hxi
            have hla : Hid (∀ W', Below W2.heap.size W2 W' → OaS w2 W' (some ⟨g, 0, none⟩) oc (p ++ [o])) := fun W' h => by rw [← hos]; exact sW2.out.later h
            have e0 : ∀ s : Cls (Bey W2), s.w.cell? ⟨g, p.length * 3, none⟩ = some (.int .i64 o.kind) := fun s => (hla.out s.w s.h).last.1.1
            have e1 : ∀ s : Cls (Bey W2), s.w.cell? ⟨g, p.length * 3 + 1, none⟩ = some (.int .i64 o.num) := fun s => (hla.out s.w s.h).last.1.2.1
            have e2 : ∀ s : Cls (Bey W2), s.w.cell? ⟨g, p.length * 3 + 2, none⟩ = some (.bool o.wr) := fun s => (hla.out s.w s.h).last.1.2.2
            have heq : ∀ wx, (binOp .eql 67 (.agg #[.int .i64 o.kind, .int .i64 o.num, .bool false]) (.agg #[.int .i64 a.kind, .int .i64 a.num, .bool false])).run Try.prog wx = .ok (.bool (o.kind == a.kind && o.num == a.num)) wx := fun wx => by rw [← eqA_obj o a]; exact run_eqA o.obj a.obj wx
            have hosH : Hid (os = p ++ [o] ∧ M = p.length + 1) := ⟨hos, hMp⟩
            clear hos hMp
            cases hq : (o.kind == a.kind && o.num == a.num) with
            | false =>
              rw [hq] at heq
              have hfin : Hid (os ++ [a] = mrg (D.take (j + 1)) ∧ M + 1 = (mrg (D.take (j + 1))).length) := by rw [hnx.out, hosH.out.1, mst_no hq]; exact ⟨rfl, by rw [hosH.out.2]; simp⟩
              have hqH : Hid ((o.kind == a.kind && o.num == a.num) = false) := hq
              clear hq
              refine wp_region_cls (Bey W2) (by kernel_rfl) (by kernel_rfl) (bey_drew W2) ?_
              repeat (go_big_quiet_step ((go_at_call 37; exact calls_bey (cO _ _ _ _))))
              refine wpQuiet_nil ?_
              intro _ hw'
              obtain ⟨sq, hw''⟩ := hw'
              subst hw''
              have sq2 : Hid (OaS w2 sq.w (some ⟨g, 0, none⟩) oc os) := sW2.out.later sq.h
              have bq : BoxA sq.w wr.heap.size a := bA2.out.later sq.h
              obtain ⟨p0, p1, p2⟩ := bq
              clear d0 d1 d2 hne bA2 sW2
              clear e0 e1 e2 hxi heq
              go_wp2_with (first
                | (refine wpList_buildSlice rfl 28 67 1 _ rfl a.cells.toArray iA _ Try.underlying28 hiA.out.1 hiA.out.2.1 (by rw [hiA.out.2.2.1]; omega) (by rw [hiA.out.2.2.1]; omega) (by simp only [hiA.out.2.2.1]; kernel_rfl) ?_)
                | (at_builtin; (refine wpList_app1 rfl (.tmp 68) (.tmp 70) 28 rfl w2.heap.size 67 iA _ 3 24 Try.underlying28 hiA.out.1 hiA.out.2.1 hiA.out.2.2.1 hiA.out.2.2.2 rfl (by decide) (some ⟨g, 0, none⟩) oc (os.map Acc.cells) (by rw [List.length_map, ← hM.out]; rfl) sq2.out.ow a.cells rfl rfl (oneA a) (by rw [List.length_map, ← hM.out]; have := hMb.out; unfold maxLen; omega) (by rw [List.length_map, ← hM.out]; have := hMb.out; omega) sq2.out.be.size ?_); intro oa' oc' w3 hg; rw [List.length_map, ← hM.out]; (have hg2 : Hid (OaS w2 w3 oa' oc' (os ++ [a])) := sq2.out.grow hg); clear hg))
              go_roundw
              case rel => exact ⟨j + 1, oa', oc', by omega, by go_num, by rw [← hfin.out.2], by rw [← hfin.out.1]; exact hg2⟩
              case measure => simp [intOf]; omega
            | true =>
              rw [hq] at heq
              have hfin : Hid (p ++ [⟨o.kind, o.num, o.wr || a.wr⟩] = mrg (D.take (j + 1)) ∧ M = (mrg (D.take (j + 1))).length) := by rw [hnx.out, hosH.out.1, mst_yes hq]; exact ⟨rfl, by rw [hosH.out.2]; simp⟩
              have hqH : Hid ((o.kind == a.kind && o.num == a.num) = true) := hq
              clear hq
              refine wp_region_cls (Bey W2) (by kernel_rfl) (by kernel_rfl) (bey_drew W2) ?_
              repeat (go_big_quiet_step ((go_at_call 37; exact calls_bey (cO _ _ _ _))))
              refine wpQuiet_nil ?_
              intro _ hw'
              obtain ⟨sq, hw''⟩ := hw'
              subst hw''
              have sq2 : Hid (OaS w2 sq.w (some ⟨g, 0, none⟩) oc os) := sW2.out.later sq.h
              have bq : BoxA sq.w wr.heap.size a := bA2.out.later sq.h
              obtain ⟨p0, p1, p2⟩ := bq
              clear d0 d1 d2 hne bA2 sW2
              have hls := (hla.out sq.w sq.h).last
              have sq3 : Hid (OaS w2 sq.w (some ⟨g, 0, none⟩) oc (p ++ [o])) := hla.out sq.w sq.h
              have hst : Hid (sq.w.cell? ⟨g, p.length * 3 + 2, none⟩ = some (.bool o.wr) ∧ sq.w.frozen? ⟨g, p.length * 3 + 2, none⟩ = false ∧ ∀ v, OaS w2 (sq.w.setCell ⟨g, p.length * 3 + 2, none⟩ (.bool v)) (some ⟨g, 0, none⟩) oc (p ++ [⟨o.kind, o.num, v⟩])) := ⟨hls.1.2.2, hls.2⟩
              have z2 := hls.1.2.2
              clear e0 e1 e2 heq hls sq3 sq2 hla
              generalize sq.w = Wq at *
              generalize p.length * 3 = Q at *
              generalize o.wr = P at *
              cases P with
              | true =>
                go_wp2_with (first
                  | (refine wpList_putb rfl 4 _ _ rfl ⟨g, Q + 2, none⟩ rfl true rfl (by kernel_rfl) _ hst.out.1 hst.out.2.1 ?_; intro W3 hW3; (have s3 : Hid (OaS w2 W3 (some ⟨g, 0, none⟩) oc (p ++ [⟨o.kind, o.num, true || a.wr⟩])) := by rw [hW3]; exact hst.out.2.2 true); clear hW3))
                go_roundw
                case rel => exact ⟨j + 1, _, oc, by omega, by go_num, by rw [← hfin.out.2], by rw [← hfin.out.1]; exact s3⟩
                case measure => simp [intOf]; omega
              | false =>
                go_wp2_with (first
                  | (refine wpList_putb rfl 4 _ _ rfl ⟨g, Q + 2, none⟩ rfl a.wr rfl (by kernel_rfl) _ hst.out.1 hst.out.2.1 ?_; intro W3 hW3; (have s3 : Hid (OaS w2 W3 (some ⟨g, 0, none⟩) oc (p ++ [⟨o.kind, o.num, false || a.wr⟩])) := by rw [hW3, Bool.false_or]; exact hst.out.2.2 a.wr); clear hW3))
                go_roundw
                case rel => exact ⟨j + 1, _, oc, by omega, by go_num, by rw [← hfin.out.2], by rw [← hfin.out.1]; exact s3⟩
                case measure => simp [intOf]; omega
        · have hj2 : j = D.length := by omega
          subst hj2
          have hfin : Hid (D.Perm (gath l l.length) ∧ D.Pairwise (fun x y => bef y x = false) ∧ Rows wr 3 oa oc ((mrg D).map Acc.cells) ∧ Below w.heap.size w wr) := ⟨qH.out.1, qH.out.2.1, by have := own_rows stH.out.ow (lenA _); rwa [List.take_length] at this, bthen qH.out.2.2.2.1 stH.out.be⟩
          rw [List.take_length]
          clear stH qH
          go_wp2
          go_ret2
          exact ⟨oa, oc, D, rfl, hfin⟩
end Go.Proofs.Ytkadlopcomjonaa.pg
/- The document's Objects: by asking for each that there may be. -/
namespace Go.Proofs.Ytkadlopcomjonaa.pg
open Go.ChangeShapes Go.WideShapes Go.ChangeAt Go.RowKit Go.Shelf
set_option linter.unusedVariables false
set_option linter.unusedSimpArgs false
set_option maxRecDepth 100000
attribute [local go_sem ↓] Go.wp_at_zero Go.wp_at_succ
/-- Whether an access writes an object. -/
def wrs (k n : Int) (a : Acc) : Bool := (a.kind == k && a.num == n) && a.wr
def wrE (l : List Ev) (k n : Int) (i : Int) : Bool := (evf l i.toNat).of.any (wrs k n)
def wrU (l : List Ev) (k n : Int) (U : List Int) : Bool := U.any (wrE l k n)
def oOne (l : List Ev) (k n : Int) : List Acc := if (usersTo l k n l.length).length = 0 then [] else [⟨k, n, wrU l k n (usersTo l k n l.length)⟩]
def oRow (l : List Ev) (k : Int) : Nat → List Acc
  | 0 => []
  | m + 1 => oRow l k m ++ oOne l k (m : Int)
def oAll (l : List Ev) : Nat → List Acc
  | 0 => []
  | k + 1 => oAll l k ++ oRow l ((k : Int) + 1) (manyP ((k : Int) + 1)).toNat
theorem oOne_len (l : List Ev) (k n : Int) : (oOne l k n).length ≤ 1 := by unfold oOne; split <;> simp
theorem oRow_len (l : List Ev) (k : Int) : ∀ m, (oRow l k m).length ≤ m
  | 0 => by simp [oRow]
  | m + 1 => by have h1 := oRow_len l k m; have h2 := oOne_len l k (m : Int); unfold oRow; rw [List.length_append]; omega
theorem manyP_le (k : Int) : 0 ≤ manyP k ∧ manyP k ≤ 8 := by unfold manyP; repeat (first | omega | split)
theorem objs_len (l : List Ev) : ∀ k, (oAll l k).length ≤ 8 * k
  | 0 => by simp [oAll]
  | k + 1 => by have h1 := objs_len l k; have h2 := oRow_len l ((k : Int) + 1) (manyP ((k : Int) + 1)).toNat; have h3 := manyP_le ((k : Int) + 1); unfold oAll; rw [List.length_append]; omega
theorem users_mem {l : List Ev} {k n : Int} : ∀ {j : Nat} {i : Int}, i ∈ usersTo l k n j → ∃ q : Nat, i = (q : Int) ∧ q < j ∧ q < l.length
  | 0, i, h => by simp [usersTo] at h
  | j + 1, i, h => by
    unfold usersTo at h
    rw [List.mem_append] at h
    rcases h with h | h
    · obtain ⟨q, h1, h2, h3⟩ := users_mem h
      exact ⟨q, h1, by omega, h3⟩
    · split at h
      · rename_i x hx
        split at h
        · rw [List.mem_singleton] at h
          exact ⟨j, h, by omega, (List.getElem?_eq_some_iff.mp hx).1⟩
        · cases h
      · cases h
theorem wrU_more {l : List Ev} {k n : Int} {U : List Int} {i : Nat} {v : Int} (h : U[i]? = some v) : wrU l k n (U.take (i + 1)) = (wrU l k n (U.take i) || wrE l k n v) := by
  unfold wrU
  rw [take_one U i v h, List.any_append]
  simp
theorem any_more {k n : Int} {L : List Acc} {i : Nat} {a : Acc} (h : L[i]? = some a) : (L.take (i + 1)).any (wrs k n) = ((L.take i).any (wrs k n) || wrs k n a) := by
  rw [take_one L i a h, List.any_append]
  simp
set_option maxHeartbeats 4000000 in
theorem robjects_ok (l : List Ev) (la : Option Addr) (lc : Nat) (w : World) (hl : Rows w 26 la lc (l.map Ev.cells)) (hlen : l.length ≤ 256) (hrt : ∀ x ∈ l, rightP x) :
    Calls Try.prog 17 #[.slice la l.length lc] w fun e w' => ∃ oa oc, e = .returned (.slice oa (oAll l 6).length oc) ∧ Hid (Rows w' 3 oa oc ((oAll l 6).map Acc.cells) ∧ Below w.heap.size w w') := by
  have hlI : (l.length : Int) ≤ 256 := by omega
  have hlH : Hid (Rows w 26 la lc (l.map Ev.cells)) := hl
  have hrtH : Hid (∀ x ∈ l, rightP x) := hrt
  have hlenH : Hid (l.length ≤ 256) := hlen
  obtain ⟨iA, hiA', hzA, hsA, hbA⟩ := info_q infoA
  have hiA : Hid (Try.prog.info? 67 = some iA ∧ iA.zero = some (.agg #[.int .i64 0, .int .i64 0, .bool false]) ∧ iA.size = 3 ∧ iA.bytes = 24) := ⟨hiA', hzA, hsA, hbA⟩
  have huH : Hid (Try.prog.underlying 70 = _) := Try.underlying70
  have hiH : Hid ((Try.prog.info? 70).map (·.size) = some 26) := infoE26
  clear hl hrt hiA' hzA hsA hbA
  go_enter Try.func17, Try.ntmps17
  go_wp2
  go_loopw [3, 4] (fun o u wr => ∃ (k : Nat) (va : Option Addr) (vc : Nat), k ≤ 6 ∧ u = .int .i64 ((k : Int) + 1) ∧ o = .slice va (oAll l k).length vc ∧ Hid (OaS w wr va vc (oAll l k))) (fun _ u _ => 7 - (intOf u).toNat)
  case atStart => exact ⟨0, none, 0, Nat.zero_le _, rfl, rfl, own_nil_q _ _ _ _, Below.refl _ _⟩
  case round =>
    obtain ⟨k, va, vc, hk, rfl, rfl, stH⟩ := hrel
    by_cases hlt : k < 6
    · have hkI : (k : Int) + 1 ≤ 6 := by omega
      have hk0 : (0 : Int) ≤ (k : Int) := by omega
      obtain ⟨F, hF⟩ : ∃ F : Nat, manyP ((k : Int) + 1) = (F : Int) := Int.eq_ofNat_of_zero_le (manyP_le _).1
      have hFb : Hid (F ≤ 8 ∧ oAll l (k + 1) = oAll l k ++ oRow l ((k : Int) + 1) F ∧ (oAll l k).length ≤ 48) := ⟨by have := (manyP_le ((k : Int) + 1)).2; omega, by show oAll l k ++ oRow l ((k : Int) + 1) (manyP ((k : Int) + 1)).toNat = _; rw [hF]; rfl, by have := objs_len l k; omega⟩
      have cF : ∀ wx, Calls Try.prog 41 #[.int .i64 ((k : Int) + 1)] wx fun e w' => e = .returned (.int .i64 (F : Int)) ∧ w' = wx := fun wx => by rw [← hF]; exact few_any _ wx
      have hwk : wrap64 (((k : Int) + 1) + 1) = ((k + 1 : Nat) : Int) + 1 := by simp only [wrap64]; omega
      have hFI : (F : Int) ≤ 8 := by have := hFb.out.1; omega
      clear hF
      have t1 : Hid (OaS w wr va vc (oAll l k ++ oRow l ((k : Int) + 1) 0)) := by show OaS _ _ _ _ _; unfold oRow; rw [List.append_nil]; exact stH.out
      clear stH
      go_wp2_with fail
      go_loopw [3, 5] (fun o u wq => ∃ (m : Nat) (va : Option Addr) (vc : Nat), m ≤ F ∧ u = .int .i64 (m : Int) ∧ o = .slice va (oAll l k ++ oRow l ((k : Int) + 1) m).length vc ∧ Hid (OaS w wq va vc (oAll l k ++ oRow l ((k : Int) + 1) m))) (fun _ u _ => F - (intOf u).toNat)
      case atStart => exact ⟨0, va, vc, Nat.zero_le _, rfl, by unfold oRow; rw [List.append_nil], t1⟩
      case round =>
        rename World => wq
        obtain ⟨m, va, vc, hm, rfl, rfl, stH⟩ := hrel
        clear t1
        by_cases hlm : m < F
        · have hmI : (m : Int) < F := by omega
          have hob : Hid (oAll l k ++ oRow l ((k : Int) + 1) (m + 1) = (oAll l k ++ oRow l ((k : Int) + 1) m) ++ oOne l ((k : Int) + 1) (m : Int) ∧ (oAll l k ++ oRow l ((k : Int) + 1) m).length ≤ 56) := ⟨by show oAll l k ++ (oRow l ((k : Int) + 1) m ++ _) = _; rw [List.append_assoc], by rw [List.length_append]; have h1 := oRow_len l ((k : Int) + 1) m; have h2 := hFb.out; omega⟩
          have cU : ∀ wx, Below w.heap.size w wx → Calls Try.prog 42 #[.slice la l.length lc, .int .i64 ((k : Int) + 1), .int .i64 (m : Int)] wx _ := fun wx h => rusers_any l la lc ((k : Int) + 1) (m : Int) wx (hlH.out.later h) hlenH.out hrtH.out
          have ho1 : Hid (oOne l ((k : Int) + 1) (m : Int) = if (usersTo l ((k : Int) + 1) (m : Int) l.length).length = 0 then [] else [⟨(k : Int) + 1, (m : Int), wrU l ((k : Int) + 1) (m : Int) (usersTo l ((k : Int) + 1) (m : Int) l.length)⟩]) := rfl
          have hUm : Hid (∀ i ∈ usersTo l ((k : Int) + 1) (m : Int) l.length, ∃ q : Nat, i = (q : Int) ∧ q < l.length ∧ q < l.length) := fun i hi => users_mem hi
          have hUl := users_len l ((k : Int) + 1) (m : Int) l.length
          generalize usersTo l ((k : Int) + 1) (m : Int) l.length = U at *
          generalize oAll l k ++ oRow l ((k : Int) + 1) m = L0 at *
          by_cases hU0 : U.length = 0
          · rw [hU0] at cU
            have hnx : Hid (oAll l k ++ oRow l ((k : Int) + 1) (m + 1) = L0) := by show _ = _; rw [hob.out.1, ho1.out, if_pos hU0, List.append_nil]
            go_wp2_with (first
              | (go_at_call 41; (with_reducible refine (cF _).mono ?_); rintro e w1 ⟨rfl, rfl⟩)
              | (go_at_call 42; (with_reducible refine (cU _ stH.out.be).mono ?_); rintro e w2 ⟨ua, uc, rfl, hr2, hb2⟩; (have s2 : Hid (OaS w w2 va vc L0) := stH.out.later hb2); clear hr2 hb2 cU))
            go_roundw
            case rel => exact ⟨m + 1, va, vc, by omega, by go_num, by rw [hnx.out], by rw [hnx.out]; exact s2⟩
            case measure => simp [intOf]; omega
          · have hUp : (0 : Int) < (U.length : Int) := by omega
            have hUI : (U.length : Int) ≤ 256 := by omega
            have hUz : ((U.length : Int) == 0) = false := beq_eq_false_iff_ne.mpr (by omega)
            have hUzn : (U.length == 0) = false := by simpa using hU0
            have hnx : Hid (oAll l k ++ oRow l ((k : Int) + 1) (m + 1) = L0 ++ [⟨(k : Int) + 1, (m : Int), wrU l ((k : Int) + 1) (m : Int) U⟩]) := by show _ = _; rw [hob.out.1, ho1.out, if_neg hU0]
            go_wp2_with (first
              | (go_at_call 41; (with_reducible refine (cF _).mono ?_); rintro e w1 ⟨rfl, rfl⟩)
              | (go_at_call 42; (with_reducible refine (cU _ stH.out.be).mono ?_); rintro e w2 ⟨ua, uc, rfl, hr2, hb2⟩; (have s2 : Hid (OaS w w2 va vc L0) := stH.out.later hb2); (have hrU : Hid (Rows w2 1 ua uc (U.map chCells)) := hr2); clear hr2 hb2 cU stH))
            go_loopw [7, 8] (fun o u wy => ∃ i : Nat, i ≤ U.length ∧ u = .int .i64 (i : Int) ∧ o = .bool (wrU l ((k : Int) + 1) (m : Int) (U.take i)) ∧ Hid (Below w2.heap.size w2 wy)) (fun _ u _ => U.length - (intOf u).toNat)
            case atStart => exact ⟨0, Nat.zero_le _, rfl, rfl, Below.refl _ _⟩
            case round =>
              rename World => wy
              obtain ⟨i, hi, rfl, rfl, hbY⟩ := hrel
              by_cases hli : i < U.length
              · have hiI : (i : Int) < U.length := by omega
                obtain ⟨v, hv, hvm⟩ := get_lt U i hli
                obtain ⟨q, rfl, hq, _⟩ := hUm.out v hvm
                obtain ⟨b4, o4, x4, l4, c4⟩ := ch_ix (hrU.out.later hbY.out) i (q : Int) hv
                obtain ⟨b5, o5, x5, l5, r5⟩ := ev_row (hlH.out.later (bthen s2.out.be hbY.out)) q _ (evf_at hq)
                have r5H : Hid (wy.rangeAt b5 o5 (evf l q).cells) := r5
                have hqI : (q : Int) < l.length := by omega
                have hmo : Hid (wrU l ((k : Int) + 1) (m : Int) (U.take (i + 1)) = (wrU l ((k : Int) + 1) (m : Int) (U.take i) || (evf l q).of.any (wrs ((k : Int) + 1) (m : Int)))) := wrU_more hv
                have c1 : ∀ wx, Calls Try.prog 43 #[.agg (evf l q).cells.toArray] wx _ := fun wx => of_any (evf l q) wx
                have hof6 : (evf l q).of.length ≤ 6 := by rw [Ev.of_len]; exact tN_le _
                generalize wrU l ((k : Int) + 1) (m : Int) (U.take i) = B0 at *
                generalize evf l q = x at *
                clear r5 hv hvm
                go_wp2_with (first
                  | (refine wpList_load_mid rfl 70 _ rfl b5 o5 rfl x.cells _ r5H.out huH.out rfl hiH.out ?_)
                  | (go_at_call 43; (with_reducible refine (c1 _).mono ?_); rintro e w3 ⟨ta, tc, rfl, ho3, hb3⟩; (have hb3H : Hid (Below w2.heap.size w2 w3) := bthen hbY.out hb3); (have hr3 : Hid (Rows w3 3 ta tc (x.of.map Acc.cells)) := own_rows ho3 (lenA _)); clear ho3 hb3 c1))
                clear x4 l4 c4 x5 l5 r5H hbY
                have t4 : Hid (Below w3.heap.size w3 w3) := Below.refl _ _
                go_loopw [7, 10] (fun o u wv => ∃ p : Nat, p ≤ x.of.length ∧ u = .int .i64 (p : Int) ∧ o = .bool (B0 || (x.of.take p).any (wrs ((k : Int) + 1) (m : Int))) ∧ Hid (Below w3.heap.size w3 wv)) (fun _ u _ => x.of.length - (intOf u).toNat)
                case atStart => exact ⟨0, Nat.zero_le _, rfl, by simp, t4⟩
                case round =>
                  rename World => wv
                  obtain ⟨p, hp, rfl, rfl, hbV⟩ := hrel
                  clear t4
                  by_cases hlp : p < x.of.length
                  · have hpI : (p : Int) < x.of.length := by omega
                    obtain ⟨a, ha, ham⟩ := get_lt x.of p hlp
                    obtain ⟨b6, o6, x6, l6, k0, k1, k2⟩ := acc_ix (hr3.out.later hbV.out) p a ha
                    have hmo2 : Hid ((B0 || (x.of.take (p + 1)).any (wrs ((k : Int) + 1) (m : Int))) = ((B0 || (x.of.take p).any (wrs ((k : Int) + 1) (m : Int))) || wrs ((k : Int) + 1) (m : Int) a)) := by show _ = _; rw [any_more ha, Bool.or_assoc]
                    have hws : Hid (wrs ((k : Int) + 1) (m : Int) a = ((a.kind == (k : Int) + 1 && a.num == (m : Int)) && a.wr)) := rfl
                    generalize (B0 || (x.of.take p).any (wrs ((k : Int) + 1) (m : Int))) = B1 at *
                    clear ha ham
                    cases B1 with
                    | true =>
                      go_wp2_with fail
                      go_roundw
                      case rel => exact ⟨p + 1, by omega, by go_num, by rw [hmo2.out]; rfl, hbV⟩
                      case measure => simp [intOf]; omega
                    | false =>
                      cases hk1 : (a.kind == (k : Int) + 1) with
                      | false =>
                        go_wp2_with fail
                        go_roundw
                        case rel => exact ⟨p + 1, by omega, by go_num, by rw [hmo2.out, hws.out, hk1]; rfl, hbV⟩
                        case measure => simp [intOf]; omega
                      | true =>
                        cases hk2 : (a.num == (m : Int)) with
                        | false =>
                          go_wp2_with fail
                          go_roundw
                          case rel => exact ⟨p + 1, by omega, by go_num, by rw [hmo2.out, hws.out, hk1, hk2]; rfl, hbV⟩
                          case measure => simp [intOf]; omega
                        | true =>
                          go_wp2_with fail
                          go_roundw
                          case rel => exact ⟨p + 1, by omega, by go_num, by rw [hmo2.out, hws.out, hk1, hk2]; rfl, hbV⟩
                          case measure => simp [intOf]; omega
                  · have hp2 : p = x.of.length := by omega
                    subst hp2
                    have hb4 : Hid (Below w2.heap.size w2 wv) := bthen hb3H.out hbV.out
                    clear hbV
                    go_wp2
                    go_roundw
                    case rel => exact ⟨i + 1, by omega, by go_num, by rw [hmo.out, List.take_length], hb4⟩
                    case measure => simp [intOf]; omega
              · have hi2 : i = U.length := by omega
                subst hi2
                have s3 : Hid (OaS w wy va vc L0) := s2.out.later hbY.out
                rw [List.take_length]
                obtain ⟨A0, hA0⟩ : ∃ A0 : Acc, A0 = ⟨(k : Int) + 1, (m : Int), wrU l ((k : Int) + 1) (m : Int) U⟩ := ⟨_, rfl⟩
                have hnx2 : Hid (oAll l k ++ oRow l ((k : Int) + 1) (m + 1) = L0 ++ [A0]) := by show _ = _; rw [hnx.out, hA0]
                have hAc : Hid (A0.cells = [.int .i64 ((k : Int) + 1), .int .i64 (m : Int), .bool (wrU l ((k : Int) + 1) (m : Int) U)]) := by show _ = _; rw [hA0]; rfl
                generalize wrU l ((k : Int) + 1) (m : Int) U = BB at *
                clear hA0 hnx
                go_wp2_with (first
                  | (refine wpList_buildSlice rfl 28 67 1 _ rfl A0.cells.toArray iA _ Try.underlying28 hiA.out.1 hiA.out.2.1 (by rw [hiA.out.2.2.1]; omega) (by rw [hiA.out.2.2.1]; omega) (by rw [hAc.out]; simp only [hiA.out.2.2.1]; kernel_rfl) ?_)
                  | (at_builtin; (refine wpList_app1 rfl (.tmp 74) (.tmp 79) 28 rfl w.heap.size 67 iA _ 3 24 Try.underlying28 hiA.out.1 hiA.out.2.1 hiA.out.2.2.1 hiA.out.2.2.2 rfl (by decide) va vc (L0.map Acc.cells) (by rw [List.length_map]; rfl) s3.out.ow A0.cells rfl rfl (oneA A0) (by rw [List.length_map]; have := hob.out.2; unfold maxLen; omega) (by rw [List.length_map]; have := hob.out.2; omega) s3.out.be.size ?_); intro va' vc' w5 hg; rw [List.length_map]; (have hg2 : Hid (OaS w w5 va' vc' (L0 ++ [A0])) := s3.out.grow hg); clear hg))
                go_roundw
                case rel => exact ⟨m + 1, va', vc', by omega, by go_num, by rw [hnx2.out, List.length_append]; rfl, by rw [hnx2.out]; exact hg2⟩
                case measure => simp [intOf]; omega
        · have hm2 : m = F := by omega
          subst hm2
          have hnx : Hid (oAll l (k + 1) = oAll l k ++ oRow l ((k : Int) + 1) m) := hFb.out.2.1
          generalize oAll l k ++ oRow l ((k : Int) + 1) m = L0 at *
          go_wp2_with (first
            | (go_at_call 41; (with_reducible refine (cF _).mono ?_); rintro e w1 ⟨rfl, rfl⟩))
          go_roundw
          case rel => exact ⟨k + 1, va, vc, by omega, by first | rfl | go_num | rw [hwk] | (simp only [wrap64]; congr 1; omega), by rw [hnx.out], by rw [hnx.out]; exact stH⟩
          case measure => simp [intOf]; omega
    · have hk2 : k = 6 := by omega
      subst hk2
      have hfin : Hid (Rows wr 3 va vc ((oAll l 6).map Acc.cells) ∧ Below w.heap.size w wr) := ⟨own_rows stH.out.ow (lenA _), stH.out.be⟩
      clear stH
      go_wp2
      go_ret
      exact ⟨va, vc, rfl, hfin⟩
end Go.Proofs.Ytkadlopcomjonaa.pg
