/- The law's own order of beginnings, walked. -/
import Derived.Test.YtklpifammbnldaaM30
import Derived.Test.YtklpifammbnldaaM29
import Derived.Test.YtklpifammbnldaaM4
namespace Go.Proofs.Ytklpifammbnldaa.pg
open Go.ChangeShapes Go.WideShapes Go.ChangeAt Go.RowKit
set_option linter.unusedVariables false
set_option linter.unusedSimpArgs false
set_option maxRecDepth 100000
attribute [local go_sem ↓] Go.wp_at_zero Go.wp_at_succ
theorem asI_flat : ∀ l : List Int, (l.map chCells).flatten = l.map fun z => Value.int .i64 z
  | [] => rfl
  | a :: t => by simp [chCells, asI_flat t]
/-- An element of an own list of numbers written over. -/
theorem own_putI {w : World} {lo e g cap : Nat} {l : List Int} (h : OwnL w lo e 1 (some ⟨g, 0, none⟩) cap (l.map chCells)) {i : Nat} (hi : i < l.length) (v : Int) : OwnL (w.setCell ⟨g, i, none⟩ (.int .i64 v)) lo e 1 (some ⟨g, 0, none⟩) cap ((l.set i v).map chCells) := by
  have e0 : ((l.set i v).map chCells).length = (l.map chCells).length := by simp
  refine ⟨?_, ?_⟩
  · rw [asI_flat]; simp
  · rcases h.2 with ⟨q, _⟩ | ⟨g', cap', cur, q, hb, hg, h1, h2, h3, h4⟩
    · simp at q
    · simp only [Value.slice.injEq, Option.some.injEq, Addr.mk.injEq, and_true, true_and] at q
      obtain ⟨rfl, rfl⟩ := q
      refine .inr ⟨g, cap, cur.setIfInBounds i (.int .i64 v), by rw [e0], hb, heap_setCell_same w g i cur e _ hg, by rw [e0]; exact h1, h2, by rw [Array.size_setIfInBounds]; exact h3, ?_⟩
      rw [e0, Array.toList_setIfInBounds, List.take_set, h4, asI_flat, asI_flat, List.map_set]
theorem own_someI {w : World} {lo e : Nat} {a : Option Addr} {cap : Nat} {l : List Int} (h : OwnL w lo e 1 a cap (l.map chCells)) (hl : 0 < l.length) : ∃ g, a = some ⟨g, 0, none⟩ ∧ ∃ cur, w.heap[g]? = some (.cells cur e (0, 0)) ∧ l.length ≤ cur.size := by
  rcases h.2 with ⟨_, q⟩ | ⟨g', cap', cur, q, hb, hg, h1, h2, h3, h4⟩
  · rw [List.length_map] at q; omega
  · simp only [Value.slice.injEq] at q
    exact ⟨g', q.1, cur, hg, by rw [List.length_map] at h1; omega⟩
theorem cls_sz {H : Type} {enc : TypeId × Value → H} {w : World} {base : Nat} {spare : Nat → Bool} {held : Bool} {n : Nat} {a : Option Addr} {len cap : Nat} {y : DataW H × List MemPlace} (h : DataW.trod enc Try.prog w base spare held n 22 [.slice a len cap] = some y) (hs : Sz Try.prog 22 y.1) : ∃ l : List Cl, l.length = len ∧ ClsIn w a cap l ∧ l.length * 56 ≤ reachBytes := by
  obtain ⟨l, rfl, hr, hq, hz⟩ := rows_sz (k := 7) ⟨0, 0, 0, 0, false, 0, 0⟩ Cl.cells (fun x => I64 x.go ∧ I64 x.d ∧ I64 x.inn ∧ I64 x.out ∧ I64 x.bg ∧ I64 x.en) Try.underlying22 (by kernel_rfl) (by omega) (fun n cs y hl h _ => cl_in hl h) h hs
  exact ⟨l, rfl, ⟨hr, hq⟩, by rwa [show Try.prog.bytesOf 53 = 56 by kernel_rfl] at hz⟩
/-- How alone stands. -/
structure AlS (w X : World) (L : List Nat) (n : Nat) (oa : Option Addr) (oc : Nat) : Prop where
  n : n = L.length
  o : OwnL X w.heap.size 3 1 oa oc ((asI L).map chCells)
  b : Below w.heap.size w X
theorem AlS.later {w X X' : World} {L : List Nat} {n : Nat} {oa : Option Addr} {oc : Nat} (g : AlS w X L n oa oc) (hb : Below X.heap.size X X') : AlS w X' L n oa oc := ⟨g.n, own_keep g.o fun b hbb => hb.block b (blk_lt g.o b hbb).2, bthen g.b hb⟩
/-- What alone answers. -/
def AlP (h : List Cl) (lo : Nat) (e : Ending) (w' : World) : Prop :=
  (∃ a n c, e = .returned (.tuple #[.slice a n c, .bool false])) ∨ (AlC h h.length ∧ ∃ a c, e = .returned (.tuple #[.slice a (ouR h h.length).length c, .bool true]) ∧ Rows w' 1 a c ((asI (ouR h h.length)).map chCells))
/-- The list ahead of the store of round i, q zeros laid at first. -/
def prL (h : List Cl) (i q : Nat) : List Nat := if i = 0 then List.replicate q 0 else ouR h i
theorem prL_zero {h : List Cl} {i q : Nat} (c : i = 0) : prL h i q = List.replicate q 0 := by unfold prL; rw [if_pos c]
theorem prL_more {h : List Cl} {i q : Nat} (c : ¬ i = 0) : prL h i q = ouR h i := by unfold prL; rw [if_neg c]
theorem prL_ou {h : List Cl} {i : Nat} : ouR h (i + 1) = (prL h i h.length).set (atF h i) i := rfl
def lenV : Value → Nat
  | .slice _ n _ => n
  | _ => 0
theorem cnt_step {f : Nat → Bool} {j : Nat} : cntD f (j + 1) = cntD f j + if f j then 1 else 0 := rfl
section
variable {w : World} {h : List Cl} {ha : Option Addr} {hc : Nat}
set_option maxHeartbeats 8000000 in
theorem alone_any (hin : ClsIn w ha hc h) (hsz' : h.length * 56 ≤ 140737488355328) : Calls Try.prog 25 #[.slice ha h.length hc] w fun e w' => AlP h w.heap.size e w' ∧ Below w.heap.size w w' := by
  have hhH : Hid (∀ wx, Below w.heap.size w wx → Rows wx 7 ha hc (h.map Cl.cells)) := fun wx q => hin.1.later q
  have hsz : Hid (h.length * 56 ≤ 140737488355328) := hsz'
  have hnI : (h.length : Int) * 56 ≤ 140737488355328 := by omega
  obtain ⟨iN, hiN', hzN', hsN', hbN'⟩ := info_q infoNl
  have hiN : Hid _ := hiN'
  have hzN : Hid _ := hzN'
  have hsN : Hid _ := hsN'
  have hbN : Hid _ := hbN'
  have s0 : Hid (AlS w w (ouR h 0) 0 none 0 ∧ AlC h 0) := ⟨⟨rfl, own_nil_q _ _ _ _, Below.refl _ _⟩, ⟨fun i hi => by omega, fun i j hi => by omega⟩⟩
  clear hin hsz' hiN' hzN' hsN' hbN'
  go_enter Try.func25, Try.ntmps25
  go_wp2_with fail
  obtain ⟨V0, hV0⟩ : ∃ V, w = V := ⟨_, rfl⟩
  go_loopw [4, 5] (fun u v wr => ∃ (i : Nat) (L : List Nat) (n : Nat) (oa : Option Addr) (oc : Nat), i ≤ h.length ∧ u = .slice oa n oc ∧ v = .int .i64 (i : Int) ∧ Hid (L = ouR h i ∧ AlS w wr L n oa oc ∧ AlC h i)) (fun _ v _ => h.length - (intOf v).toNat)
  case atStart => exact ⟨0, _, 0, none, 0, Nat.zero_le _, rfl, rfl, rfl, s0.out⟩
  case round =>
    obtain ⟨i, L, n, oa, oc, hi, rfl, rfl, hS0⟩ := hrel
    clear s0 hV0
    by_cases hlt : i < h.length
    · have hiI : (i : Int) < h.length := by omega
      have hLH : Hid (L = ouR h i) := hS0.out.1
      have hAi : Hid (AlC h i) := hS0.out.2.2
      have hst0 : Hid (AlS w wr L n oa oc ∧ 0 = cntD (befB h i) 0 ∧ ∀ j', j' < 0 → j' ≠ i → (hf h j').en < (hf h i).bg ∨ (hf h i).en ≤ (hf h j').bg) := ⟨hS0.out.2.1, rfl, fun j' q => by omega⟩
      clear hS0
      go_wp2_with fail
      go_loopw [6, 7] (fun u v wr => ∃ (j at_ : Nat), j ≤ h.length ∧ u = .int .i64 (at_ : Int) ∧ v = .int .i64 (j : Int) ∧ Hid (AlS w wr L n oa oc ∧ at_ = cntD (befB h i) j ∧ ∀ j', j' < j → j' ≠ i → (hf h j').en < (hf h i).bg ∨ (hf h i).en ≤ (hf h j').bg)) (fun _ v _ => h.length - (intOf v).toNat)
      case atStart => exact ⟨0, 0, Nat.zero_le _, rfl, rfl, hst0.out⟩
      case round =>
        obtain ⟨j, at_, hj, rfl, rfl, hst⟩ := hrel
        clear hst0
        by_cases hlt2 : j < h.length
        · have hjI : (j : Int) < h.length := by omega
          have hatI : (at_ : Int) ≤ j := by have := hst.out.2.1; have := cntD_le (befB h i) j; omega
          by_cases hji : j = i
          · have hjiI : (j : Int) = i := by omega
            have hcs : Hid (at_ = cntD (befB h i) (j + 1)) := by
              show _ = _
              rw [cnt_step, show befB h i j = false by (unfold befB; rw [hji]; simp), ← hst.out.2.1]; simp
            have hst2 : Hid (AlS w wr L n oa oc ∧ at_ = cntD (befB h i) (j + 1) ∧ ∀ j', j' < j + 1 → j' ≠ i → (hf h j').en < (hf h i).bg ∨ (hf h i).en ≤ (hf h j').bg) := ⟨hst.out.1, hcs.out, fun j' hj' hne => hst.out.2.2 j' (by omega) hne⟩
            clear hst hcs
            go_wp2
            go_roundw
            case rel => exact ⟨j + 1, at_, by omega, rfl, by go_num, hst2.out⟩
            case measure => simp [intOf]; omega
          · have hjiI : ¬ (j : Int) = i := by omega
            obtain ⟨bi, oi, xi, _, ri⟩ := cl_ix (hhH.out _ hst.out.1.b) hlt
            obtain ⟨bj, oj, xj, _, rj⟩ := cl_ix (hhH.out _ hst.out.1.b) hlt2
            have hli := cl_blk ri
            have hlj := cl_blk rj
            have hRd : Hid (∀ w', Below wr.heap.size wr w' → (w'.cell? ⟨bj, oj + 6, none⟩ = some (.int .i64 (hf h j).en) ∧ w'.cell? ⟨bj, oj + 5, none⟩ = some (.int .i64 (hf h j).bg)) ∧ (w'.cell? ⟨bi, oi + 5, none⟩ = some (.int .i64 (hf h i).bg) ∧ w'.cell? ⟨bi, oi + 6, none⟩ = some (.int .i64 (hf h i).en))) := fun w' q => by
              have q1 := range_blk ri (q.block _ hli)
              have q2 := range_blk rj (q.block _ hlj)
              exact ⟨⟨q2 6 _ rfl, q2 5 _ rfl⟩, ⟨q1 5 _ rfl, q1 6 _ rfl⟩⟩
            clear ri rj hli hlj
            go_upto_region 10 with fail
            have hS : Hid (Below wr.heap.size wr wr.drew) := bey_drew wr
            refine wp_region_noPanic ?_
            refine wp_region_held_drew (S := fun w' => Below wr.heap.size wr w') (by kernel_rfl) hS.out (fun _ => ?_)
            refine reg_move (i := 0) rfl (by kernel_rfl) (by kernel_rfl) (by kernel_rfl) (fun _ _ _ _ h => h) rfl (.slice ha h.length hc) (fun _ => rfl) hS.out ?_
            simp only [Act.put, List.getElem_toArray, List.getElem_cons_succ, List.getElem_cons_zero, List.setIfInBounds_toArray, List.set_cons_zero, List.set_cons_succ]
            refine reg_move (i := 1) rfl (by kernel_rfl) (by kernel_rfl) (by kernel_rfl) (fun _ _ _ _ h => h) rfl (.int .i64 (j : Int)) (fun _ => rfl) hS.out ?_
            simp only [Act.put, List.getElem_toArray, List.getElem_cons_succ, List.getElem_cons_zero, List.setIfInBounds_toArray, List.set_cons_zero, List.set_cons_succ]
            refine reg_move (i := 2) rfl (by kernel_rfl) (by kernel_rfl) (by kernel_rfl) (fun _ _ _ _ h => h) rfl (.pointer (some ⟨bj, oj, none⟩)) (fun wx => by unfold execOp; exact run_value_of (xj wx)) hS.out ?_
            simp only [Act.put, List.getElem_toArray, List.getElem_cons_succ, List.getElem_cons_zero, List.setIfInBounds_toArray, List.set_cons_zero, List.set_cons_succ]
            refine reg_move (i := 3) rfl (by kernel_rfl) (by kernel_rfl) (by kernel_rfl) (fun _ _ _ _ h => h) rfl (.pointer (some ⟨bj, oj + 6, none⟩)) (fun _ => rfl) hS.out ?_
            simp only [Act.put, List.getElem_toArray, List.getElem_cons_succ, List.getElem_cons_zero, List.setIfInBounds_toArray, List.set_cons_zero, List.set_cons_succ]
            refine reg_load1 (i := 4) rfl (by kernel_rfl) (by kernel_rfl) (by kernel_rfl) (fun _ _ _ _ h => h) rfl 3 _ rfl ⟨bj, oj + 6, none⟩ rfl _ Try.underlying3 rfl (.int .i64 (hf h j).en) (fun w' q => (hRd.out w' q).1.1) hS.out ?_
            simp only [Act.put, List.getElem_toArray, List.getElem_cons_succ, List.getElem_cons_zero, List.setIfInBounds_toArray, List.set_cons_zero, List.set_cons_succ]
            refine reg_move (i := 5) rfl (by kernel_rfl) (by kernel_rfl) (by kernel_rfl) (fun _ _ _ _ h => h) rfl (.slice ha h.length hc) (fun _ => rfl) hS.out ?_
            simp only [Act.put, List.getElem_toArray, List.getElem_cons_succ, List.getElem_cons_zero, List.setIfInBounds_toArray, List.set_cons_zero, List.set_cons_succ]
            refine reg_move (i := 6) rfl (by kernel_rfl) (by kernel_rfl) (by kernel_rfl) (fun _ _ _ _ h => h) rfl (.int .i64 (i : Int)) (fun _ => rfl) hS.out ?_
            simp only [Act.put, List.getElem_toArray, List.getElem_cons_succ, List.getElem_cons_zero, List.setIfInBounds_toArray, List.set_cons_zero, List.set_cons_succ]
            refine reg_move (i := 7) rfl (by kernel_rfl) (by kernel_rfl) (by kernel_rfl) (fun _ _ _ _ h => h) rfl (.pointer (some ⟨bi, oi, none⟩)) (fun wx => by unfold execOp; exact run_value_of (xi wx)) hS.out ?_
            simp only [Act.put, List.getElem_toArray, List.getElem_cons_succ, List.getElem_cons_zero, List.setIfInBounds_toArray, List.set_cons_zero, List.set_cons_succ]
            refine reg_move (i := 8) rfl (by kernel_rfl) (by kernel_rfl) (by kernel_rfl) (fun _ _ _ _ h => h) rfl (.pointer (some ⟨bi, oi + 5, none⟩)) (fun _ => rfl) hS.out ?_
            simp only [Act.put, List.getElem_toArray, List.getElem_cons_succ, List.getElem_cons_zero, List.setIfInBounds_toArray, List.set_cons_zero, List.set_cons_succ]
            refine reg_load1 (i := 9) rfl (by kernel_rfl) (by kernel_rfl) (by kernel_rfl) (fun _ _ _ _ h => h) rfl 3 _ rfl ⟨bi, oi + 5, none⟩ rfl _ Try.underlying3 rfl (.int .i64 (hf h i).bg) (fun w' q => (hRd.out w' q).2.1) hS.out ?_
            simp only [Act.put, List.getElem_toArray, List.getElem_cons_succ, List.getElem_cons_zero, List.setIfInBounds_toArray, List.set_cons_zero, List.set_cons_succ]
            refine reg_move (i := 10) rfl (by kernel_rfl) (by kernel_rfl) (by kernel_rfl) (fun _ _ _ _ h => h) rfl (.bool (decide ((hf h j).en < (hf h i).bg))) (fun _ => rfl) hS.out ?_
            simp only [Act.put, List.getElem_toArray, List.getElem_cons_succ, List.getElem_cons_zero, List.setIfInBounds_toArray, List.set_cons_zero, List.set_cons_succ]
            refine wpAnyH_done (by kernel_rfl) (NoPanic.normal ?_) _
            have hst1 : Hid (AlS w wr.drew L n oa oc ∧ at_ = cntD (befB h i) j ∧ ∀ j', j' < j → j' ≠ i → (hf h j').en < (hf h i).bg ∨ (hf h i).en ≤ (hf h j').bg) := ⟨hst.out.1.later (bey_drew wr), hst.out.2⟩
            have hRd1 : Hid (∀ w', Below wr.drew.heap.size wr.drew w' → _) := fun w' q => hRd.out w' (bthen hS.out q)
            clear hst hS hRd
            generalize wr.drew = V at *
            have hst := hst1
            have hRd := hRd1
            clear hst1 hRd1
            by_cases hlt3 : (hf h j).en < (hf h i).bg
            · rw [decide_eq_true hlt3]
              have hst2 : Hid (AlS w V L n oa oc ∧ at_ + 1 = cntD (befB h i) (j + 1) ∧ ∀ j', j' < j + 1 → j' ≠ i → (hf h j').en < (hf h i).bg ∨ (hf h i).en ≤ (hf h j').bg) := ⟨hst.out.1, by (rw [cnt_step, show befB h i j = true by (unfold befB; rw [beq_eq_false_iff_ne.mpr hji, decide_eq_true hlt3]; rfl), ← hst.out.2.1]; simp), fun j' hj' hne => by
                by_cases c : j' = j
                · subst c; exact .inl hlt3
                · exact hst.out.2.2 j' (by omega) hne⟩
              clear hst hRd
              go_wp2
              go_roundw
              case rel => exact ⟨j + 1, at_ + 1, by omega, rfl, by go_num, hst2.out⟩
              case measure => simp [intOf]; omega
            · rw [decide_eq_false hlt3]
              go_upto_region 12 with fail
              generalize hVr : V = wr2 at *
              have hS : Hid (Below wr2.heap.size wr2 wr2.drew) := bey_drew wr2
              refine wp_region_noPanic ?_
              refine wp_region_held_drew (S := fun w' => Below wr2.heap.size wr2 w') (by kernel_rfl) hS.out (fun _ => ?_)
              refine reg_move (i := 0) rfl (by kernel_rfl) (by kernel_rfl) (by kernel_rfl) (fun _ _ _ _ h => h) rfl (.slice ha h.length hc) (fun _ => rfl) hS.out ?_
              simp only [Act.put, List.getElem_toArray, List.getElem_cons_succ, List.getElem_cons_zero, List.setIfInBounds_toArray, List.set_cons_zero, List.set_cons_succ]
              refine reg_move (i := 1) rfl (by kernel_rfl) (by kernel_rfl) (by kernel_rfl) (fun _ _ _ _ h => h) rfl (.int .i64 (i : Int)) (fun _ => rfl) hS.out ?_
              simp only [Act.put, List.getElem_toArray, List.getElem_cons_succ, List.getElem_cons_zero, List.setIfInBounds_toArray, List.set_cons_zero, List.set_cons_succ]
              refine reg_move (i := 2) rfl (by kernel_rfl) (by kernel_rfl) (by kernel_rfl) (fun _ _ _ _ h => h) rfl (.pointer (some ⟨bi, oi, none⟩)) (fun wx => by unfold execOp; exact run_value_of (xi wx)) hS.out ?_
              simp only [Act.put, List.getElem_toArray, List.getElem_cons_succ, List.getElem_cons_zero, List.setIfInBounds_toArray, List.set_cons_zero, List.set_cons_succ]
              refine reg_move (i := 3) rfl (by kernel_rfl) (by kernel_rfl) (by kernel_rfl) (fun _ _ _ _ h => h) rfl (.pointer (some ⟨bi, oi + 6, none⟩)) (fun _ => rfl) hS.out ?_
              simp only [Act.put, List.getElem_toArray, List.getElem_cons_succ, List.getElem_cons_zero, List.setIfInBounds_toArray, List.set_cons_zero, List.set_cons_succ]
              refine reg_load1 (i := 4) rfl (by kernel_rfl) (by kernel_rfl) (by kernel_rfl) (fun _ _ _ _ h => h) rfl 3 _ rfl ⟨bi, oi + 6, none⟩ rfl _ Try.underlying3 rfl (.int .i64 (hf h i).en) (fun w' q => (hRd.out w' q).2.2) hS.out ?_
              simp only [Act.put, List.getElem_toArray, List.getElem_cons_succ, List.getElem_cons_zero, List.setIfInBounds_toArray, List.set_cons_zero, List.set_cons_succ]
              refine reg_move (i := 5) rfl (by kernel_rfl) (by kernel_rfl) (by kernel_rfl) (fun _ _ _ _ h => h) rfl (.slice ha h.length hc) (fun _ => rfl) hS.out ?_
              simp only [Act.put, List.getElem_toArray, List.getElem_cons_succ, List.getElem_cons_zero, List.setIfInBounds_toArray, List.set_cons_zero, List.set_cons_succ]
              refine reg_move (i := 6) rfl (by kernel_rfl) (by kernel_rfl) (by kernel_rfl) (fun _ _ _ _ h => h) rfl (.int .i64 (j : Int)) (fun _ => rfl) hS.out ?_
              simp only [Act.put, List.getElem_toArray, List.getElem_cons_succ, List.getElem_cons_zero, List.setIfInBounds_toArray, List.set_cons_zero, List.set_cons_succ]
              refine reg_move (i := 7) rfl (by kernel_rfl) (by kernel_rfl) (by kernel_rfl) (fun _ _ _ _ h => h) rfl (.pointer (some ⟨bj, oj, none⟩)) (fun wx => by unfold execOp; exact run_value_of (xj wx)) hS.out ?_
              simp only [Act.put, List.getElem_toArray, List.getElem_cons_succ, List.getElem_cons_zero, List.setIfInBounds_toArray, List.set_cons_zero, List.set_cons_succ]
              refine reg_move (i := 8) rfl (by kernel_rfl) (by kernel_rfl) (by kernel_rfl) (fun _ _ _ _ h => h) rfl (.pointer (some ⟨bj, oj + 5, none⟩)) (fun _ => rfl) hS.out ?_
              simp only [Act.put, List.getElem_toArray, List.getElem_cons_succ, List.getElem_cons_zero, List.setIfInBounds_toArray, List.set_cons_zero, List.set_cons_succ]
              refine reg_load1 (i := 9) rfl (by kernel_rfl) (by kernel_rfl) (by kernel_rfl) (fun _ _ _ _ h => h) rfl 3 _ rfl ⟨bj, oj + 5, none⟩ rfl _ Try.underlying3 rfl (.int .i64 (hf h j).bg) (fun w' q => (hRd.out w' q).1.2) hS.out ?_
              simp only [Act.put, List.getElem_toArray, List.getElem_cons_succ, List.getElem_cons_zero, List.setIfInBounds_toArray, List.set_cons_zero, List.set_cons_succ]
              refine reg_move (i := 10) rfl (by kernel_rfl) (by kernel_rfl) (by kernel_rfl) (fun _ _ _ _ h => h) rfl (.bool (decide ((hf h j).bg < (hf h i).en))) (fun _ => rfl) hS.out ?_
              simp only [Act.put, List.getElem_toArray, List.getElem_cons_succ, List.getElem_cons_zero, List.setIfInBounds_toArray, List.set_cons_zero, List.set_cons_succ]
              refine wpAnyH_done (by kernel_rfl) (NoPanic.normal ?_) _
              have hst1 : Hid (AlS w wr2.drew L n oa oc ∧ at_ = cntD (befB h i) j ∧ ∀ j', j' < j → j' ≠ i → (hf h j').en < (hf h i).bg ∨ (hf h i).en ≤ (hf h j').bg) := ⟨hst.out.1.later (bey_drew wr2), hst.out.2⟩
              clear hst hS hRd hVr
              generalize wr2.drew = V2 at *
              have hst := hst1
              have hRd := True.intro
              clear hst1
              by_cases hgt : (hf h j).bg < (hf h i).en
              · rw [decide_eq_true hgt]
                have hbb : Hid (Below w.heap.size w V2) := hst.out.1.b
                clear hst
                go_wp2
                go_ret2
                exact ⟨.inl ⟨_, _, _, rfl⟩, hbb.out⟩
              · rw [decide_eq_false hgt]
                have hst2 : Hid (AlS w V2 L n oa oc ∧ at_ + 0 = cntD (befB h i) (j + 1) ∧ ∀ j', j' < j + 1 → j' ≠ i → (hf h j').en < (hf h i).bg ∨ (hf h i).en ≤ (hf h j').bg) := ⟨hst.out.1, by (rw [cnt_step, show befB h i j = false by (unfold befB; rw [decide_eq_false hlt3, Bool.and_false]), ← hst.out.2.1]; simp), fun j' hj' hne => by
                  by_cases c : j' = j
                  · subst c; exact .inr (by omega)
                  · exact hst.out.2.2 j' (by omega) hne⟩
                clear hst hRd
                go_wp2
                go_roundw
                case rel => exact ⟨j + 1, at_ + 0, by omega, rfl, by go_num, hst2.out⟩
                case measure => simp [intOf]; omega
        · have hje : j = h.length := by omega
          have hjI : ¬ (j : Int) < h.length := by omega
          have hst2 : Hid (AlS w wr L n oa oc ∧ at_ = atF h i ∧ ∀ j', j' < h.length → j' ≠ i → (hf h j').en < (hf h i).bg ∨ (hf h i).en ≤ (hf h j').bg) := by
            have q := hst.out
            rw [hje] at q
            exact q
          clear hst
          obtain ⟨bi, oi, xi, _, ri⟩ := cl_ix (hhH.out _ hst2.out.1.b) hlt
          have ke : wr.cell? ⟨bi, oi + 6, none⟩ = some (.int .i64 (hf h i).en) := ri 6 _ rfl
          clear ri
          by_cases hen : (hf h i).en = -1
          · have hbb : Hid (Below w.heap.size w wr) := hst2.out.1.b
            have hen2 : ((hf h i).en == -1) = true := by rw [hen]; rfl
            clear hst2
            go_wp2
            go_ret2
            exact ⟨.inl ⟨_, _, _, rfl⟩, hbb.out⟩
          · have hen2 : ((hf h i).en == -1) = false := beq_eq_false_iff_ne.mpr hen
            have hAl : Hid (AlC h (i + 1)) := ⟨fun i' hi' => by
              by_cases c : i' = i
              · subst c; exact hen
              · exact hAi.out.e i' (by omega), fun i' j' hi' hj' hne => by
              by_cases c : i' = i
              · subst c; exact hst2.out.2.2 j' hj' hne
              · exact hAi.out.t i' j' (by omega) hj' hne⟩
            go_upto_region 16 with fail
            clear ke hen2 xi
            have h3 : Hid (∃ q, q ≤ h.length ∧ AlS w wr (prL h i q) n oa oc) := ⟨0, Nat.zero_le _, by
              have q := hst2.out.1
              have e := hLH.out
              rw [e] at q
              by_cases c : i = 0
              · rw [prL_zero c]; subst c; exact q
              · rw [prL_more c]; exact q⟩
            have hat : Hid (at_ = atF h i) := hst2.out.2.1
            clear hst2
            go_loopw [4] (fun u wr => ∃ (n : Nat) (oa : Option Addr) (oc : Nat), u = .slice oa n oc ∧ Hid (∃ q, q ≤ h.length ∧ AlS w wr (prL h i q) n oa oc)) (fun u _ => h.length - lenV u)
            case atStart => exact ⟨n, oa, oc, rfl, h3⟩
            case round =>
              obtain ⟨n2, oa2, oc2, rfl, hq⟩ := hrel
              clear h3 hLH
              obtain ⟨q, hqh, hA⟩ := hq.out
              have hAH : Hid (AlS w wr (prL h i q) n2 oa2 oc2) := hA
              clear hq hA
              by_cases hlt4 : n2 < h.length
              · have hnI : (n2 : Int) < h.length := by omega
                have hi0 : Hid (i = 0) := by
                  show i = 0
                  apply Classical.byContradiction
                  intro c
                  have := hAH.out.n
                  rw [prL_more c, ouR_len (by omega)] at this
                  omega
                have hqn : Hid (n2 = q ∧ AlS w wr (List.replicate q 0) n2 oa2 oc2) := by
                  have := hAH.out
                  rw [prL_zero hi0.out] at this
                  exact ⟨by have := this.n; rwa [List.length_replicate] at this, this⟩
                have hqb : Hid (q < h.length) := by (have := hqn.out.1; show q < _; omega)
                clear hAH
                go_wp2_with (at_builtin; (refine wpList_app1 rfl (.tmp 58) (.tmp 59) 26 rfl w.heap.size 3 iN _ 1 8 Try.underlying26 hiN.out hzN.out hsN.out hbN.out rfl (by decide) oa2 oc2 ((asI (List.replicate q 0)).map chCells) (by rw [List.length_map, List.length_map, ← hqn.out.2.n]; rfl) hqn.out.2.o (chCells (0 : Int)) rfl rfl (by simp [chCells, Value.oneCell']) (by rw [List.length_map, List.length_map, ← hqn.out.2.n]; have := hsz.out; unfold maxLen; omega) (by rw [List.length_map, List.length_map, ← hqn.out.2.n]; have := hsz.out; omega) hqn.out.2.b.size ?_); intro va vc w7 hg; rw [List.length_map, List.length_map, ← hqn.out.2.n])
                have hA7 : Hid (∃ q, q ≤ h.length ∧ AlS w w7 (prL h i q) (n2 + 1) va vc) := ⟨q + 1, hqb.out, by
                  rw [prL_zero hi0.out]
                  have e : asI (List.replicate (q + 1) 0) = asI (List.replicate q 0) ++ [0] := by
                    rw [show List.replicate (q + 1) 0 = List.replicate q 0 ++ [0] from List.replicate_succ']
                    exact List.map_append
                  refine ⟨by rw [List.length_replicate, hqn.out.1], ?_, ?_⟩
                  · rw [e, List.map_append]; exact hg.ow
                  · have := hg.be
                    rw [Nat.min_eq_left hqn.out.2.b.size] at this
                    exact hqn.out.2.b.trans this⟩
                clear hg hqn hqb
                go_roundw
                case rel => first | exact ⟨n2 + 1, va, vc, rfl, hA7⟩ | exact ⟨n2 + 1, va, vc, ⟨rfl, rfl, rfl⟩, hA7⟩ | trace_state
                case measure => first | omega | (show h.length - (n2 + 1) < h.length - n2; omega) | (simp [lenV]; omega)
              · have hnI : ¬ (n2 : Int) < h.length := by omega
                have hF : Hid (AlS w wr (prL h i h.length) n2 oa2 oc2 ∧ n2 = h.length) := by
                  have q1 := hAH.out
                  by_cases c : i = 0
                  · rw [prL_zero c] at q1 ⊢
                    have := q1.n
                    rw [List.length_replicate] at this
                    have e : q = h.length := by omega
                    rw [e] at q1
                    exact ⟨q1, by omega⟩
                  · rw [prL_more c] at q1 ⊢
                    have := q1.n
                    rw [ouR_len (by omega)] at this
                    exact ⟨q1, this⟩
                have hOu : Hid (ouR h (i + 1) = (prL h i h.length).set at_ i) := by (show _ = _; rw [hat.out]; rfl)
                clear hAH
                generalize (prL h i h.length) = L2 at *
                have hl2 : Hid (L2.length = h.length) := by (have := hF.out.1.n; show _ = _; rw [← this]; exact hF.out.2)
                have hatl : at_ < n2 := by (have := atF_lt hlt; have := hat.out; have := hF.out.2; omega)
                have hatl2 : Hid (at_ < L2.length) := by (have := hl2.out; have := hF.out.2; show _ < _; omega)
                obtain ⟨g, rfl, cur, hcur, hcs⟩ := own_someI hF.out.1.o (by rw [List.length_map]; have := hl2.out; omega)
                have hcH : Hid (wr.heap[g]? = some (.cells cur 3 (0, 0)) ∧ at_ < cur.size) := ⟨hcur, by rw [List.length_map] at hcs; have := hatl2.out; omega⟩
                have xg := rows_ix_g Try.underlying26 (fun wx => Try.sizeOf3 wx) g n2 oc2 at_ hatl
                rw [Nat.mul_one] at xg
                obtain ⟨v0, hv0⟩ : ∃ v0, cur[at_]? = some v0 := ⟨_, Array.getElem?_eq_getElem hcH.out.2⟩
                have kc : wr.cell? ⟨g, at_, none⟩ = some v0 := cell_lc hcH.out.1 hv0
                clear hcur hcs hv0
                go_wp2_with (refine wpList_puti rfl 3 _ _ rfl ⟨g, at_, none⟩ rfl (i : Int) rfl (by kernel_rfl) _ kc (frozen_of_row _ _ _ _ _ hcH.out.1) fun V1 hV1 => ?_; (have hq1 : Hid (V1 = wr.setCell ⟨g, at_, none⟩ (.int .i64 (i : Int))) := hV1); clear hV1)
                have hA8 : Hid (AlS w V1 (ouR h (i + 1)) n2 (some ⟨g, 0, none⟩) oc2) := by
                  have q1 := hF.out.1
                  rw [hq1.out, hOu.out]
                  refine ⟨by rw [List.length_set]; exact q1.n, ?_, ?_⟩
                  · have := own_putI q1.o (i := at_) (by rw [List.length_map]; exact hatl2.out) (i : Int)
                    rwa [← List.map_set] at this
                  · exact q1.b.setCell (p := ⟨g, at_, none⟩) (blk_lt q1.o g (by simp [blk])).1 _
                clear hF hOu hl2 hatl2 hcH xg kc hq1 hat
                go_roundw
                case rel => exact ⟨i + 1, ouR h (i + 1), n2, some ⟨g, 0, none⟩, oc2, by omega, rfl, by go_num, rfl, hA8.out, hAl.out⟩
                case measure => simp [intOf]; omega
    · have hie : i = h.length := by omega
      have hiI : ¬ (i : Int) < h.length := by omega
      have hE : Hid (AlC h h.length ∧ Below w.heap.size w wr ∧ n = (ouR h h.length).length ∧ Rows wr 1 oa oc ((asI (ouR h h.length)).map chCells)) := by
        have q := hS0.out
        rw [hie] at q
        obtain ⟨q1, q2, q3⟩ := q
        rw [q1] at q2
        exact ⟨q3, q2.b, q2.n, own_rows q2.o (fun row hr => by obtain ⟨z, _, rfl⟩ := List.mem_map.mp hr; rfl)⟩
      clear hS0
      go_wp2
      go_ret2
      exact ⟨.inr ⟨hE.out.1, oa, oc, by rw [← hE.out.2.2.1]; rfl, hE.out.2.2.2⟩, hE.out.2.1⟩
end
end Go.Proofs.Ytklpifammbnldaa.pg
/- A history in which no two operations run at one time: LinearAlone, walked. -/
namespace Go.Proofs.Ytklpifammbnldaa.pg
open Go.ChangeShapes Go.WideShapes Go.ChangeAt Go.RowKit
set_option linter.unusedVariables false
set_option linter.unusedSimpArgs false
set_option maxRecDepth 100000
attribute [local go_sem ↓] Go.wp_at_zero Go.wp_at_succ
theorem findV_x {k : Int} {h : List Cl} {rel : Cl → Cl → Bool} {a : Option Addr} {n c : Nat} {b : Bool} {x : Int} {w' : World} {lo : Nat} (q : FindV k h rel lo a n c b x w') (hR : RightH k h) : x = 0 := by
  rcases q with ⟨q, _⟩ | ⟨_, q, _⟩
  · exact absurd hR q
  · exact q
section
variable {w : World} {k : Int} {h : List Cl} {ha : Option Addr} {hc : Nat}
theorem alone_v (hin : ClsIn w ha hc h) (hsz : h.length * 56 ≤ 140737488355328) : Calls Try.prog 25 #[.slice ha h.length hc] w fun e w' => ∃ a n c b, e = .returned (.tuple #[.slice a n c, .bool b]) ∧ (b = true → AlC h h.length ∧ n = (ouR h h.length).length ∧ Rows w' 1 a c ((asI (ouR h h.length)).map chCells)) ∧ Below w.heap.size w w' := by
  refine (alone_any hin hsz).mono ?_
  rintro e w' ⟨⟨a, n, c, rfl⟩ | ⟨hA, a, c, rfl, ho⟩, hb⟩
  · exact ⟨a, n, c, false, rfl, fun q => (by cases q), hb⟩
  · exact ⟨a, _, c, true, rfl, fun _ => ⟨hA, rfl, ho⟩, hb⟩
theorem ClsIn.later {w' : World} {l : List Cl} (g : ClsIn w ha hc l) (hb : Below w.heap.size w w') : ClsIn w' ha hc l := ⟨g.1.later hb, g.2⟩
set_option maxHeartbeats 4000000 in
theorem alone_bad (hin : ClsIn w ha hc h) (hsz : h.length * 56 ≤ 140737488355328) (hR : ¬ RightH k h) : Calls Try.prog 7 #[.int .i64 k, .slice ha h.length hc] w fun e w' => e = .returned (.bool true) ∧ Below w.heap.size w w' := by
  have hh := hin.1
  have hI := hin.i
  have hhH : Hid (∀ wx, Below w.heap.size w wx → Rows wx 7 ha hc (h.map Cl.cells)) := fun wx q => hh.later q
  have cL : ∀ wx, Below w.heap.size w wx → Calls Try.prog 11 #[.int .i64 k, .slice ha h.length hc] wx _ := fun wx q => linear_any (hhH.out wx q) hI
  have cC : ∀ wx, Below w.heap.size w wx → Calls Try.prog 9 #[.int .i64 k, .slice ha h.length hc] wx _ := fun wx q => rcheckH_any (hhH.out wx q)
  have cS : ∀ wx, Calls Try.prog 13 #[] wx _ := fun wx => speaks_lin wx
  have cO : ∀ wx, Below w.heap.size w wx → Calls Try.prog 25 #[.slice ha h.length hc] wx _ := fun wx q => alone_v (hin.later q) hsz
  have hRH : Hid (¬ RightH k h) := hR
  clear hh hI hin hsz hR
  go_enter Try.func7, Try.ntmps7
  go_wp2_with (first
    | (go_at_call 11; (with_reducible refine (cL _ (Below.refl _ _)).mono ?_); rintro e w1 ⟨a1, n1, c1, b1, x1, rfl, hF, hb⟩; (obtain ⟨rfl, rfl, rfl, rfl, rfl⟩ := findV_bad hF hRH.out); (have hB1 : Hid (Below w.heap.size w w1) := hb); clear hF hb cL)
    | (go_at_call 25; (with_reducible refine (cO _ hB1.out).mono ?_); rintro e w2 ⟨a2, n2, c2, b2, rfl, hA, hb⟩; (have hB2 : Hid (Below w.heap.size w w2) := bthen hB1.out hb); (have hAH : Hid (b2 = true → AlC h h.length ∧ n2 = (ouR h h.length).length ∧ Rows w2 1 a2 c2 ((asI (ouR h h.length)).map chCells)) := hA); clear hA hb cO)
    | (go_at_call 9; (with_reducible refine (cC _ hB3.out).mono ?_); rintro e w4 ⟨hq, hb⟩; (obtain rfl := (hq.elim (fun q => absurd q.1 hRH.out) (fun q => q.2))); (have hB4 : Hid (Below w.heap.size w w4) := bthen hB3.out hb); clear hb hq)
    | (go_at_call 9; (with_reducible refine (cC _ hB2.out).mono ?_); rintro e w3 ⟨hq, hb⟩; (obtain rfl := (hq.elim (fun q => absurd q.1 hRH.out) (fun q => q.2))); (have hB3 : Hid (Below w.heap.size w w3) := bthen hB2.out hb); clear hb hq)
    | (go_at_call 13; (with_reducible refine (cS _).mono ?_); rintro e w9 ⟨rfl, hb⟩; (have hB9 : Hid (Below w.heap.size w w9) := bthen hB4.out hb); clear hb))
  go_ret
  exact ⟨rfl, hB9.out⟩
set_option maxHeartbeats 8000000 in
theorem alone_good (hin : ClsIn w ha hc h) (hsz : h.length * 56 ≤ 140737488355328) (hR : RightH k h) : Calls Try.prog 7 #[.int .i64 k, .slice ha h.length hc] w fun e w' => e = .returned (.bool true) ∧ Below w.heap.size w w' := by
  have hh := hin.1
  have hI := hin.i
  have hhH : Hid (∀ wx, Below w.heap.size w wx → Rows wx 7 ha hc (h.map Cl.cells)) := fun wx q => hh.later q
  have cL : ∀ wx, Below w.heap.size w wx → Calls Try.prog 11 #[.int .i64 k, .slice ha h.length hc] wx _ := fun wx q => linear_any (hhH.out wx q) hI
  have cC : ∀ wx, Below w.heap.size w wx → Calls Try.prog 9 #[.int .i64 k, .slice ha h.length hc] wx _ := fun wx q => rcheckH_any (hhH.out wx q)
  have cS : ∀ wx, Calls Try.prog 13 #[] wx _ := fun wx => speaks_lin wx
  have cO : ∀ wx, Below w.heap.size w wx → Calls Try.prog 25 #[.slice ha h.length hc] wx _ := fun wx q => alone_v (hin.later q) hsz
  have hRH : Hid (RightH k h) := hR
  have cF : AlC h h.length → ∀ a c wx, Below w.heap.size w wx → Rows wx 1 a c ((asI (ouR h h.length)).map chCells) → Calls Try.prog 17 #[.int .i64 k, .slice ha h.length hc, .slice a (ouR h h.length).length c] wx fun e w' => e = .returned (.tuple #[.bool (runC k h (firstC k) (ouR h h.length)).2, .bool true, .bool true, .int .i64 0]) ∧ Below wx.heap.size wx w' := fun hA a c wx q ho => by
    obtain ⟨g1, g2, g3, g4, g5, _⟩ := hA.fits hR
    have := fits_ok (hhH.out wx q) hI hR ho g3 g1 g2
    rwa [g4, g5] at this
  have cFH : Hid _ := cF
  have cSI : ∀ (r : List Nat) a b c d wx, Rows wx 1 a c ((asI r).map chCells) → Rows wx 1 b d ((asI r).map chCells) → Calls Try.prog 16 #[.slice a r.length c, .slice b r.length d] wx fun e w' => e = .returned (.bool true) ∧ Below wx.heap.size wx w' := fun r a b c d wx q1 q2 => by
    have := sameInts_u (asI r) a b c d wx q1 q2
    rwa [List.length_map] at this
  clear hh hI hin hsz hR cF
  go_enter Try.func7, Try.ntmps7
  go_upto_region 3 with (first
    | (go_at_call 11; (with_reducible refine (cL _ (Below.refl _ _)).mono ?_); rintro e w1 ⟨a1, n1, c1, b1, x1, rfl, hF, hb⟩; (obtain rfl := findV_x hF hRH.out); (have hF1 : Hid (FindV k h endB w.heap.size a1 n1 c1 b1 0 w1) := hF); (have hB1 : Hid (Below w.heap.size w w1) := hb); clear hF hb cL)
    | (go_at_call 25; (with_reducible refine (cO _ hB1.out).mono ?_); rintro e w2 ⟨a2, n2, c2, b2, rfl, hA, hb⟩; (have hB2 : Hid (Below w.heap.size w w2) := bthen hB1.out hb); (have hAH : Hid (b2 = true → AlC h h.length ∧ n2 = (ouR h h.length).length ∧ Rows w2 1 a2 c2 ((asI (ouR h h.length)).map chCells)) := hA); (have hB12 : Hid (Below w1.heap.size w1 w2) := hb); clear hA hb cO))
  cases b2 with
  | false =>
    clear cFH hF1 hAH
    go_wp2_with (first
      | (go_at_call 9; (with_reducible refine (cC _ hB3.out).mono ?_); rintro e w4 ⟨hq, hb⟩; (obtain rfl := (hq.elim (fun q => q.2) (fun q => absurd hRH.out q.1))); (have hB4 : Hid (Below w.heap.size w w4) := bthen hB3.out hb); clear hb hq)
      | (go_at_call 9; (with_reducible refine (cC _ hB2.out).mono ?_); rintro e w3 ⟨hq, hb⟩; (obtain rfl := (hq.elim (fun q => q.2) (fun q => absurd hRH.out q.1))); (have hB3 : Hid (Below w.heap.size w w3) := bthen hB2.out hb); clear hb hq)
      | (go_at_call 13; (with_reducible refine (cS _).mono ?_); rintro e w9 ⟨rfl, hb⟩; (have hB9 : Hid (Below w.heap.size w w9) := bthen hB4.out hb); clear hb))
    go_ret
    exact ⟨rfl, hB9.out⟩
  | true =>
    have hA : Hid (AlC h h.length) := (hAH.out rfl).1
    obtain ⟨r, hr⟩ : ∃ r, ouR h h.length = r := ⟨_, rfl⟩
    have hn2 : n2 = r.length := by (rw [← hr]; exact (hAH.out rfl).2.1)
    have ho2 : Hid (Rows w2 1 a2 c2 ((asI r).map chCells)) := by (rw [← hr]; exact (hAH.out rfl).2.2)
    have cF := cFH.out hA.out
    rw [hr] at cF
    have hfs := (hA.out.fits hRH.out).2.2.2.2.2
    rw [hr] at hfs
    subst hn2
    obtain ⟨p, hp⟩ : ∃ p, (runC k h (firstC k) r).2 = p := ⟨_, rfl⟩
    rw [hp] at cF hfs
    clear hAH cFH hr hp hA
    cases p with
    | true =>
      obtain ⟨hn1, rfl, _, ho1, _⟩ := findV_some hF1.out hRH.out hfs
      have ho1H : Hid (Rows w2 1 a1 c1 ((asI r).map chCells)) := ho1.later hB12.out
      subst hn1
      clear hF1 hfs ho1
      go_wp2_with (first
        | (go_at_call 9; (with_reducible refine (cC _ hB2.out).mono ?_); rintro e w3 ⟨hq, hb⟩; (obtain rfl := (hq.elim (fun q => q.2) (fun q => absurd hRH.out q.1))); (have hB3 : Hid (Below w.heap.size w w3) := bthen hB2.out hb); (have hB23 : Hid (Below w2.heap.size w2 w3) := hb); clear hb hq)
        | (go_at_call 17; (with_reducible refine (cF _ _ _ hB3.out (ho2.out.later hB23.out)).mono ?_); rintro e w6 ⟨rfl, hb⟩; (have hB6 : Hid (Below w.heap.size w w6 ∧ Rows w6 1 a1 c1 ((asI r).map chCells) ∧ Rows w6 1 a2 c2 ((asI r).map chCells)) := ⟨bthen hB3.out hb, (ho1H.out.later hB23.out).later hb, (ho2.out.later hB23.out).later hb⟩); clear hb)
        | (go_at_call 16; (with_reducible refine (cSI _ _ _ _ _ _ hB6.out.2.1 hB6.out.2.2).mono ?_); rintro e w7 ⟨rfl, hb⟩; (have hB7 : Hid (Below w.heap.size w w7) := bthen hB6.out.1 hb); clear hb)
        | (go_at_call 13; (with_reducible refine (cS _).mono ?_); rintro e w9 ⟨rfl, hb⟩; (have hB9 : Hid (Below w.heap.size w w9) := bthen hB7.out hb); clear hb))
      go_ret
      exact ⟨rfl, hB9.out⟩
    | false =>
      obtain ⟨rfl, rfl, rfl, rfl, _⟩ := findV_none hF1.out hRH.out hfs
      clear hF1 hfs
      go_wp2_with (first
        | (go_at_call 9; (with_reducible refine (cC _ hB2.out).mono ?_); rintro e w3 ⟨hq, hb⟩; (obtain rfl := (hq.elim (fun q => q.2) (fun q => absurd hRH.out q.1))); (have hB3 : Hid (Below w.heap.size w w3) := bthen hB2.out hb); (have hB23 : Hid (Below w2.heap.size w2 w3) := hb); clear hb hq)
        | (go_at_call 17; (with_reducible refine (cF _ _ _ hB3.out (ho2.out.later hB23.out)).mono ?_); rintro e w6 ⟨rfl, hb⟩; (have hB6 : Hid (Below w.heap.size w w6) := bthen hB3.out hb); clear hb)
        | (go_at_call 13; (with_reducible refine (cS _).mono ?_); rintro e w9 ⟨rfl, hb⟩; (have hB9 : Hid (Below w.heap.size w w9) := bthen hB6.out hb); clear hb))
      go_ret
      exact ⟨rfl, hB9.out⟩
end
theorem alone_row (k : Int) (h : List Cl) (ha : Option Addr) (hc : Nat) (w : World) (_ : (Lit.int .i64 k).wf = true) (hin : ClsIn w ha hc h ∧ h.length * 56 ≤ reachBytes) : Calls Try.prog 7 #[.int .i64 k, .slice ha h.length hc] w fun e w' => e = .returned (.bool true) ∧ Below w.heap.size w w' := by
  have hsz := hin.2
  unfold reachBytes at hsz
  by_cases hR : RightH k h
  · exact alone_good hin.1 (by omega) hR
  · exact alone_bad hin.1 (by omega) hR
end Go.Proofs.Ytklpifammbnldaa.pg
