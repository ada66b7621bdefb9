/- The document's own: how an event touches a thing; plain variables; whether two events share one. -/
import Derived.Test.YtafefnkgdnmjbaaGreatDoorM31
import Derived.Test.YtafefnkgdnmjbaaGreatDoorM6
namespace Go.Proofs.YtafefnkgdnmjbaaGreatDoor.pg
open Go.ChangeShapes Go.WideShapes Go.ChangeAt Go.RowKit Go.Shelf
set_option linter.unusedVariables false
set_option linter.unusedSimpArgs false
set_option maxRecDepth 100000
attribute [local go_sem ↓] Go.wp_at_zero Go.wp_at_succ
def hitP (kind num : Int) (a : Acc) : Bool := (a.kind == kind) && (a.num == num)
/-- How an event touches a thing: 0 not, 1 it reads, 2 it writes. -/
def touP (x : Ev) (kind num : Int) : Int := match x.of.find? (hitP kind num) with | some a => if a.wr = true then 2 else 1 | none => 0
theorem tou_hit {x : Ev} {kind num : Int} {k : Nat} {a : Acc} (hno : ∀ b ∈ x.of.take k, hitP kind num b = false) (ha : x.of[k]? = some a) (hh : hitP kind num a = true) : touP x kind num = if a.wr = true then 2 else 1 := by
  have hk := (List.getElem?_eq_some_iff.mp ha).1
  have e : x.of = x.of.take k ++ a :: x.of.drop (k + 1) := by
    have := List.take_append_drop k x.of
    rw [List.drop_eq_getElem_cons hk] at this
    have h2 : x.of[k] = a := by rw [List.getElem?_eq_getElem hk] at ha; exact Option.some.inj ha
    rw [h2] at this
    exact this.symm
  unfold touP
  rw [e, List.find?_append, List.find?_eq_none.mpr (fun b hb => by rw [hno b hb]; simp), Option.none_or, List.find?_cons_of_pos hh]
theorem tou_none {x : Ev} {kind num : Int} (hno : ∀ b ∈ x.of, hitP kind num b = false) : touP x kind num = 0 := by
  unfold touP
  rw [List.find?_eq_none.mpr (fun b hb => by rw [hno b hb]; simp)]
theorem tou_small (x : Ev) (kind num : Int) : touP x kind num = 0 ∨ touP x kind num = 1 ∨ touP x kind num = 2 := by
  unfold touP
  split
  · split <;> simp
  · simp
set_option maxHeartbeats 2000000 in
theorem rtouch_any (x : Ev) (kind num : Int) (w : World) (R : Int) (hR : Hid (R = touP x kind num)) : Calls Tryz.prog 72 #[.agg x.cells.toArray, .int .i64 kind, .int .i64 num] w fun e w' => e = .returned (.int .i64 R) ∧ Below w.heap.size w w' := by
  have cO : ∀ wx, Calls Tryz.prog 78 #[.agg x.cells.toArray] wx fun e w' => ∃ va vc, e = .returned (.slice va x.of.length vc) ∧ OwnL w' wx.heap.size 66 3 va vc (x.of.map Acc.cells) ∧ Below wx.heap.size wx w' := fun wx => of_any x wx
  have hl6 : (x.of.length : Int) ≤ 6 := by have := Ev.of_len x; have := tN_le x.n; omega
  have huE : Hid (Tryz.prog.underlying 69 = _) := Tryz.underlying69
  have hbE : Hid ((w.alloc (objEv x)).heap[w.heap.size]? = some (objEv x)) := heap_alloc_new _ _
  go_enter Tryz.func72, Tryz.ntmps72
  go_wp2_with (first
    | (refine wpList_load_row rfl 69 _ rfl w.heap.size rfl _ _ _ _ hbE.out huE.out rfl (infoEvR x) ?_)
    | (go_at_call 78; (with_reducible refine (cO _).mono ?_); rintro e w1 ⟨va, vc, rfl, ho, hb⟩; (have hr1 : Hid (Rows w1 3 va vc (x.of.map Acc.cells) ∧ Below w.heap.size w w1) := ⟨own_rows ho fun row hm => by (rw [List.mem_map] at hm; obtain ⟨y, _, rfl⟩ := hm; rfl), bthen (boxed _ _) hb⟩); clear ho hb cO))
  go_loopw [8] (fun u wr => ∃ k : Nat, k ≤ x.of.length ∧ u = .int .i64 (k : Int) ∧ Hid (wr = w1 ∧ ∀ b ∈ x.of.take k, hitP kind num b = false)) (fun u _ => x.of.length - (intOf u).toNat)
  case atStart => exact ⟨0, Nat.zero_le _, rfl, rfl, fun b hb => by simp at hb⟩
  case round =>
    obtain ⟨k, hk, rfl, hs⟩ := hrel
    by_cases hlt : k < x.of.length
    · have hkI : (k : Int) < x.of.length := by omega
      obtain ⟨a, ha⟩ : ∃ a, x.of[k]? = some a := ⟨_, List.getElem?_eq_getElem hlt⟩
      obtain ⟨b0, o0, hix, hbl, k0, k1, k2⟩ := acc_ix hr1.out.1 k a ha
      obtain ⟨hwr, hno⟩ := hs.out
      rw [← hwr] at k0 k1 k2
      have hfin : Hid (Below w.heap.size w wr) := by rw [hwr]; exact hr1.out.2
      have hnoH : Hid (wr = w1 ∧ ∀ b ∈ x.of.take k, hitP kind num b = false) := hs.out
      clear hs hbl hno hwr
      cases h1 : (a.kind == kind) with
      | false =>
        have hn : Hid (wr = w1 ∧ ∀ b ∈ x.of.take (k + 1), hitP kind num b = false) := ⟨hnoH.out.1, fun b hb => by
          rw [List.take_add_one, ha, List.mem_append] at hb
          rcases hb with hb | hb
          · exact hnoH.out.2 b hb
          · simp at hb; subst hb; unfold hitP; rw [h1]; rfl⟩
        clear hnoH
        go_wp2
        go_roundw
        case rel => exact ⟨k + 1, by omega, by go_num, hn⟩
        case measure => simp [intOf]; omega
      | true =>
        cases h2 : (a.num == num) with
        | false =>
          have hn : Hid (wr = w1 ∧ ∀ b ∈ x.of.take (k + 1), hitP kind num b = false) := ⟨hnoH.out.1, fun b hb => by
            rw [List.take_add_one, ha, List.mem_append] at hb
            rcases hb with hb | hb
            · exact hnoH.out.2 b hb
            · simp at hb; subst hb; unfold hitP; rw [h1, h2]; rfl⟩
          clear hnoH
          go_wp2
          go_roundw
          case rel => exact ⟨k + 1, by omega, by go_num, hn⟩
          case measure => simp [intOf]; omega
        | true =>
          have hv := tou_hit hnoH.out.2 ha (by unfold hitP; rw [h1, h2]; rfl)
          cases h3 : a.wr with
          | true =>
            rw [h3] at hv k2
            have hRR : Hid (R = 2) := by show _ = _; rw [hR.out, hv]; rfl
            clear hnoH hv hR
            go_wp2
            go_ret
            exact ⟨by rw [hRR.out]; rfl, hfin.out⟩
          | false =>
            rw [h3] at hv k2
            have hRR : Hid (R = 1) := by show _ = _; rw [hR.out, hv]; rfl
            clear hnoH hv hR
            go_wp2
            go_ret
            exact ⟨by rw [hRR.out]; rfl, hfin.out⟩
    · have hkl : k = x.of.length := by omega
      have hRR : Hid (R = 0) := by
        have := hs.out.2
        rw [hkl, List.take_length] at this
        show _ = _
        rw [hR.out, tou_none this]
      have hfin : Hid (Below w.heap.size w wr) := by rw [hs.out.1]; exact hr1.out.2
      subst hkl
      clear hs hR
      go_wp2
      go_ret
      exact ⟨by rw [hRR.out]; rfl, hfin.out⟩
/-- A plain variable of a program. -/
def plI (vars : List Vr) (n : Int) : Bool := decide (0 ≤ n) && (decide (n < vars.length) && (match vars[n.toNat]? with | some x => !x.atomic | none => false))
set_option maxHeartbeats 2000000 in
theorem rplain_any (M : MPr) (n : Int) (w : World) (hl : M.lies w) (R : Bool) (hR : Hid (R = plI M.vars n)) : Calls Tryz.prog 70 #[M.val, .int .i64 n] w fun e w' => e = .returned (.bool R) ∧ Below w.heap.size w w' := by
  have hb := boxed w (objP M)
  have hx := boxP_new w M
  have c0 := hx.1
  by_cases h0 : 0 ≤ n
  · by_cases h1 : n < M.vars.length
    · obtain ⟨k, rfl⟩ := Int.eq_ofNat_of_zero_le h0
      have hk : k < M.vars.length := by omega
      obtain ⟨x, hx⟩ : ∃ x, M.vars[k]? = some x := ⟨_, List.getElem?_eq_getElem hk⟩
      obtain ⟨b0, o0, hix, hbl, k0, k1⟩ := vr_ix (hl.1.later hb) k x hx
      have hRR : Hid (R = !x.atomic) := by show _ = _; rw [hR.out]; unfold plI; rw [Int.toNat_natCast, hx]; simp [h1]
      have hbH : Hid _ := hb
      clear hR hl hb
      cases ha : x.atomic with
      | true =>
        rw [ha] at k0 hRR
        go_enter Tryz.func70, Tryz.ntmps70
        go_wp2
        go_ret
        exact ⟨by rw [hRR.out]; rfl, hbH.out⟩
      | false =>
        rw [ha] at k0 hRR
        go_enter Tryz.func70, Tryz.ntmps70
        go_wp2
        go_ret
        exact ⟨by rw [hRR.out]; rfl, hbH.out⟩
    · have hRR : Hid (R = false) := by show _ = _; rw [hR.out]; unfold plI; simp [h1]
      have hbH : Hid _ := hb
      clear hR hl hb
      go_enter Tryz.func70, Tryz.ntmps70
      go_wp2
      go_ret
      exact ⟨by rw [hRR.out]; rfl, hbH.out⟩
  · have hRR : Hid (R = false) := by show _ = _; rw [hR.out]; unfold plI; simp [h0]
    have hbH : Hid _ := hb
    clear hR hl hb
    go_enter Tryz.func70, Tryz.ntmps70
    go_wp2
    go_ret
    exact ⟨by rw [hRR.out]; rfl, hbH.out⟩
end Go.Proofs.YtafefnkgdnmjbaaGreatDoor.pg
/- The document's own: whether two events share a plain variable, and which is the first. -/
namespace Go.Proofs.YtafefnkgdnmjbaaGreatDoor.pg
open Go.ChangeShapes Go.WideShapes Go.ChangeAt Go.RowKit Go.Shelf
set_option linter.unusedVariables false
set_option linter.unusedSimpArgs false
set_option maxRecDepth 100000
attribute [local go_sem ↓] Go.wp_at_zero Go.wp_at_succ
/-- Two events share a plain variable, one of them writing. -/
def shP (vars : List Vr) (x y : Ev) (n : Int) : Bool := plI vars n && (decide (0 < touP x 1 n) && (decide (0 < touP y 1 n) && decide (2 < touP x 1 n + touP y 1 n)))
theorem three3 (w : World) (o1 o2 o3 : Obj) : (((w.alloc o1).alloc o2).alloc o3).heap[w.heap.size]? = some o1 ∧ (((w.alloc o1).alloc o2).alloc o3).heap[w.heap.size + 1]? = some o2 ∧ (((w.alloc o1).alloc o2).alloc o3).heap[w.heap.size + 1 + 1]? = some o3 ∧ Below w.heap.size w (((w.alloc o1).alloc o2).alloc o3) := by
  have h2 := heap_alloc_new (w.alloc o1) o2
  have h3 := heap_alloc_new ((w.alloc o1).alloc o2) o3
  simp only [World.size_alloc] at h2 h3
  exact ⟨((boxed _ _).block _ (by simp [World.size_alloc]; omega)).trans (((boxed _ _).block _ (by simp [World.size_alloc])).trans (heap_alloc_new w o1)), ((boxed _ _).block _ (by simp [World.size_alloc])).trans h2, h3, bthen (bthen (boxed _ _) (boxed _ _)) (boxed _ _)⟩
set_option maxHeartbeats 2000000 in
theorem shared_any (M : MPr) (x y : Ev) (n : Int) (w : World) (hl : M.lies w) (R : Bool) (hR : Hid (R = shP M.vars x y n)) : Calls Tryz.prog 55 #[M.val, .agg x.cells.toArray, .agg y.cells.toArray, .int .i64 n] w fun e w' => e = .returned (.bool R) ∧ Below w.heap.size w w' := by
  obtain ⟨p1, p2, p3, pb⟩ := three3 w (objP M) (objEv x) (objEv y)
  have cT : ∀ (z : Ev) wx, Calls Tryz.prog 72 #[.agg z.cells.toArray, .int .i64 1, .int .i64 n] wx fun e w' => e = .returned (.int .i64 (touP z 1 n)) ∧ Below wx.heap.size wx w' := fun z wx => rtouch_any z 1 n wx _ rfl
  have cP : ∀ wx, Below w.heap.size w wx → Calls Tryz.prog 70 #[M.val, .int .i64 n] wx fun e w' => e = .returned (.bool (plI M.vars n)) ∧ Below wx.heap.size wx w' := fun wx hb => rplain_any M n wx (hl.later hb) _ rfl
  have cx := cT x
  have cy := cT y
  have hsx := tou_small x 1 n
  have hsy := tou_small y 1 n
  have hRR : Hid (R = (plI M.vars n && (decide (0 < touP x 1 n) && (decide (0 < touP y 1 n) && decide (2 < touP x 1 n + touP y 1 n))))) := hR
  clear cT hl hR
  generalize touP x 1 n = a at *
  generalize touP y 1 n = b at *
  generalize plI M.vars n = q at *
  go_enter Tryz.func55, Tryz.ntmps55
  go_wp2_with fail
  generalize ((w.alloc (objP M)).alloc (objEv x)).alloc (objEv y) = W at *
  have hF : Hid (∀ w', Below W.heap.size W w' → w'.rangeAt (w.heap.size + 1) 0 x.cells ∧ w'.rangeAt (w.heap.size + 1 + 1) 0 y.cells) := fun w' h => ⟨range_ofR ((h.block _ (Array.getElem?_eq_some_iff.mp p2).1).trans p2), range_ofR ((h.block _ (Array.getElem?_eq_some_iff.mp p3).1).trans p3)⟩
  have hS : Hid (Below W.heap.size W W.drew) := bey_drew W
  have hbH : Hid (Below w.heap.size w W) := pb
  have bx : Hid (W.heap[w.heap.size]? = some (objP M)) := p1
  clear p1 p2 p3 pb
  refine wp_region_noPanic ?_
  refine wp_region_held_drew (S := fun w' => Below W.heap.size W w') (by kernel_rfl) hS.out (fun _ => ?_)
  refine reg_load (i := 0) rfl (by kernel_rfl) (by kernel_rfl) (by kernel_rfl) (fun _ _ _ _ h => h) rfl 69 _ rfl (w.heap.size + 1) 0 rfl x.cells _ (fun w' h' => (hF.out w' h').1) Tryz.underlying69 rfl infoE26 hS.out ?_
  simp only [Act.put, List.getElem_toArray, List.getElem_cons_succ, List.getElem_cons_zero, List.setIfInBounds_toArray, List.set_cons_zero, List.set_cons_succ]
  refine reg_move (i := 1) rfl (by kernel_rfl) (by kernel_rfl) (by kernel_rfl) (fun _ _ _ _ h => h) rfl (.int .i64 n) (fun _ => rfl) hS.out ?_
  simp only [Act.put, List.getElem_toArray, List.getElem_cons_succ, List.getElem_cons_zero, List.setIfInBounds_toArray, List.set_cons_zero, List.set_cons_succ]
  refine reg_load (i := 3) rfl (by kernel_rfl) (by kernel_rfl) (by kernel_rfl) (fun _ _ _ _ h => h) rfl 69 _ rfl (w.heap.size + 1 + 1) 0 rfl y.cells _ (fun w' h' => (hF.out w' h').2) Tryz.underlying69 rfl infoE26 hS.out ?_
  simp only [Act.put, List.getElem_toArray, List.getElem_cons_succ, List.getElem_cons_zero, List.setIfInBounds_toArray, List.set_cons_zero, List.set_cons_succ]
  refine reg_move (i := 4) rfl (by kernel_rfl) (by kernel_rfl) (by kernel_rfl) (fun _ _ _ _ h => h) rfl (.int .i64 n) (fun _ => rfl) hS.out ?_
  simp only [Act.put, List.getElem_toArray, List.getElem_cons_succ, List.getElem_cons_zero, List.setIfInBounds_toArray, List.set_cons_zero, List.set_cons_succ]
  refine reg_callc (i := 2) (by kernel_rfl) rfl rfl 72 _ _ _ _ _ _ rfl (.agg x.cells.toArray) (.int .i64 1) (.int .i64 n) rfl rfl rfl (cf_fn Tryz.func72 (by kernel_rfl) (by kernel_rfl) _ _) _ (cx _) ?_
  rintro e w1 ⟨rfl, hb1⟩
  have hS1 : Hid (Below W.heap.size W w1) := bthen hS.out hb1
  refine ⟨_, rfl, hS1.out, fun _ => ?_⟩
  simp only [Act.put, List.getElem_toArray, List.getElem_cons_succ, List.getElem_cons_zero, List.setIfInBounds_toArray, List.set_cons_zero, List.set_cons_succ]
  refine reg_callc (i := 5) (by kernel_rfl) rfl rfl 72 _ _ _ _ _ _ rfl (.agg y.cells.toArray) (.int .i64 1) (.int .i64 n) rfl rfl rfl (cf_fn Tryz.func72 (by kernel_rfl) (by kernel_rfl) _ _) _ (cy _) ?_
  rintro e w2 ⟨rfl, hb2⟩
  have hS2 : Hid (Below W.heap.size W w2) := bthen hS1.out hb2
  refine ⟨_, rfl, hS2.out, fun _ => ?_⟩
  simp only [Act.put, List.getElem_toArray, List.getElem_cons_succ, List.getElem_cons_zero, List.setIfInBounds_toArray, List.set_cons_zero, List.set_cons_succ]
  refine reg_move (i := 6) rfl (by kernel_rfl) (by kernel_rfl) (by kernel_rfl) (fun _ _ _ _ h => h) rfl _ (fun _ => rfl) hS2.out ?_
  simp only [Act.put, List.getElem_toArray, List.getElem_cons_succ, List.getElem_cons_zero, List.setIfInBounds_toArray, List.set_cons_zero, List.set_cons_succ]
  refine reg_move (i := 7) rfl (by kernel_rfl) (by kernel_rfl) (by kernel_rfl) (fun _ _ _ _ h => h) rfl _ (fun _ => rfl) hS2.out ?_
  simp only [Act.put, List.getElem_toArray, List.getElem_cons_succ, List.getElem_cons_zero, List.setIfInBounds_toArray, List.set_cons_zero, List.set_cons_succ]
  refine wpAnyH_done (by kernel_rfl) (NoPanic.normal ?_) _
  have hw2 : Hid (Below w.heap.size w w2) := bthen hbH.out hS2.out
  have bm : w2.heap[w.heap.size]? = some (objP M) := (hS2.out.block _ (Array.getElem?_eq_some_iff.mp bx.out).1).trans bx.out
  have m0 : w2.cell? ⟨w.heap.size, 0, none⟩ = some (.slice M.va M.vars.length M.vcap) := cell_of bm rfl
  have m1 : w2.cell? ⟨w.heap.size, 1, none⟩ = some (.int .i64 M.locks) := cell_of bm rfl
  have m2 : w2.cell? ⟨w.heap.size, 2, none⟩ = some (.slice M.cha M.chans.length M.chcap) := cell_of bm rfl
  have m3 : w2.cell? ⟨w.heap.size, 3, none⟩ = some (.slice M.fa M.fns.length M.fcap) := cell_of bm rfl
  clear bm bx hF hS hS1 hS2 hb1 hb2 cx cy hbH
  cases q with
  | false =>
    have hv : Hid (R = false) := by show _ = _; rw [hRR.out]; rfl
    clear hRR
    go_wp2_with (go_at_call 70; (refine (cP _ hw2.out).mono ?_); rintro e w3 ⟨rfl, hb3⟩; (have hw3 : Hid (Below w.heap.size w w3) := bthen hw2.out hb3); clear hb3)
    go_ret
    exact ⟨by rw [hv.out]; rfl, hw3.out⟩
  | true =>
    rcases hsx with rfl | rfl | rfl <;> rcases hsy with rfl | rfl | rfl
    all_goals
      obtain ⟨R', hv⟩ : ∃ R', Hid (R = R') := ⟨_, hRR⟩
      have hv2 := hv
      go_wp2_with (go_at_call 70; (refine (cP _ hw2.out).mono ?_); rintro e w3 ⟨rfl, hb3⟩; (have hw3 : Hid (Below w.heap.size w w3) := bthen hw2.out hb3); clear hb3)
      go_ret
      exact ⟨by rw [hRR.out]; rfl, hw3.out⟩
end Go.Proofs.YtafefnkgdnmjbaaGreatDoor.pg
/- The document's own any1: the first plain variable that two events share. -/
namespace Go.Proofs.YtafefnkgdnmjbaaGreatDoor.pg
open Go.ChangeShapes Go.WideShapes Go.ChangeAt Go.RowKit Go.Shelf
set_option linter.unusedVariables false
set_option linter.unusedSimpArgs false
set_option maxRecDepth 100000
attribute [local go_sem ↓] Go.wp_at_zero Go.wp_at_succ
/-- Some plain variable is shared. -/
def anyB (vars : List Vr) (x y : Ev) : Bool := (List.range vars.length).any fun n => shP vars x y (n : Int)
theorem anyB_hit {vars : List Vr} {x y : Ev} {k : Nat} (hk : k < vars.length) (h : shP vars x y (k : Int) = true) : anyB vars x y = true := List.any_eq_true.mpr ⟨k, List.mem_range.mpr hk, h⟩
theorem anyB_none {vars : List Vr} {x y : Ev} (h : ∀ k, k < vars.length → shP vars x y (k : Int) = false) : anyB vars x y = false := by
  rw [Bool.eq_false_iff]
  intro q
  obtain ⟨k, h1, h2⟩ := List.any_eq_true.mp q
  rw [h k (List.mem_range.mp h1)] at h2
  cases h2
set_option maxHeartbeats 2000000 in
theorem any1_any (M : MPr) (x y : Ev) (w : World) (hl : M.lies w) (h8 : M.vars.length ≤ 8) : Calls Tryz.prog 57 #[M.val, .agg x.cells.toArray, .agg y.cells.toArray] w fun e w' => (∃ r : Int, e = .returned (.int .i64 r) ∧ Hid (decide (0 ≤ r) = anyB M.vars x y ∧ I64 r)) ∧ Below w.heap.size w w' := by
  obtain ⟨p1, p2, p3, pb⟩ := three3 w (objP M) (objEv x) (objEv y)
  have cS : ∀ (k : Nat) wx, Below w.heap.size w wx → Calls Tryz.prog 55 #[M.val, .agg x.cells.toArray, .agg y.cells.toArray, .int .i64 (k : Int)] wx fun e w' => e = .returned (.bool (shP M.vars x y (k : Int))) ∧ Below wx.heap.size wx w' := fun k wx hb => shared_any M x y k wx (hl.later hb) _ rfl
  have huE : Hid (Tryz.prog.underlying 69 = _) := Tryz.underlying69
  have h8I : (M.vars.length : Int) ≤ 8 := by omega
  have s0 : Hid ((((w.alloc (objP M)).alloc (objEv x)).alloc (objEv y)).heap[w.heap.size]? = some (objP M) ∧ (((w.alloc (objP M)).alloc (objEv x)).alloc (objEv y)).heap[w.heap.size + 1]? = some (objEv x) ∧ (((w.alloc (objP M)).alloc (objEv x)).alloc (objEv y)).heap[w.heap.size + 1 + 1]? = some (objEv y) ∧ Below w.heap.size w (((w.alloc (objP M)).alloc (objEv x)).alloc (objEv y)) ∧ ∀ k : Nat, k < 0 → shP M.vars x y (k : Int) = false) := ⟨p1, p2, p3, pb, fun k hk => by omega⟩
  clear p1 p2 p3 pb hl
  go_enter Tryz.func57, Tryz.ntmps57
  go_wp2_with fail
  generalize ((w.alloc (objP M)).alloc (objEv x)).alloc (objEv y) = W at *
  go_loopw [7] (fun u wr => ∃ k : Nat, k ≤ M.vars.length ∧ u = .int .i64 (k : Int) ∧ Hid (wr.heap[w.heap.size]? = some (objP M) ∧ wr.heap[w.heap.size + 1]? = some (objEv x) ∧ wr.heap[w.heap.size + 1 + 1]? = some (objEv y) ∧ Below w.heap.size w wr ∧ ∀ j : Nat, j < k → shP M.vars x y (j : Int) = false)) (fun u _ => M.vars.length - (intOf u).toNat)
  case atStart => exact ⟨0, Nat.zero_le _, rfl, s0.out.1, s0.out.2.1, s0.out.2.2.1, s0.out.2.2.2.1, fun j hj => by omega⟩
  case round =>
    clear s0
    obtain ⟨k, hk, rfl, hs⟩ := hrel
    have m0 : wr.cell? ⟨w.heap.size, 0, none⟩ = some (.slice M.va M.vars.length M.vcap) := cell_of hs.out.1 rfl
    by_cases hlt : k < M.vars.length
    · have hkI : (k : Int) < M.vars.length := by omega
      have m1 : wr.cell? ⟨w.heap.size, 1, none⟩ = some (.int .i64 M.locks) := cell_of hs.out.1 rfl
      have m2 : wr.cell? ⟨w.heap.size, 2, none⟩ = some (.slice M.cha M.chans.length M.chcap) := cell_of hs.out.1 rfl
      have m3 : wr.cell? ⟨w.heap.size, 3, none⟩ = some (.slice M.fa M.fns.length M.fcap) := cell_of hs.out.1 rfl
      have cK := cS k wr hs.out.2.2.2.1
      cases hh : shP M.vars x y (k : Int) with
      | true =>
        rw [hh] at cK
        have hv : Hid (decide (0 ≤ (k : Int)) = anyB M.vars x y ∧ I64 (k : Int)) := ⟨by rw [anyB_hit hlt hh]; simp, by unfold I64; omega⟩
        clear hh
        go_wp2_with (first
          | (refine wpList_load_row rfl 69 _ rfl (w.heap.size + 1) rfl _ _ _ _ hs.out.2.1 huE.out rfl (infoEvR x) ?_)
          | (refine wpList_load_row rfl 69 _ rfl (w.heap.size + 1 + 1) rfl _ _ _ _ hs.out.2.2.1 huE.out rfl (infoEvR y) ?_)
          | (go_at_call 55; (refine cK.mono ?_); rintro e w2 ⟨rfl, hb2⟩; (have hw2 : Hid (Below w.heap.size w w2) := bthen hs.out.2.2.2.1 hb2); clear hb2))
        go_ret
        exact ⟨⟨_, rfl, hv⟩, hw2.out⟩
      | false =>
        rw [hh] at cK
        have hno : Hid (∀ j : Nat, j < k + 1 → shP M.vars x y (j : Int) = false) := fun j hj => by
          by_cases e : j = k
          · subst e; exact hh
          · exact hs.out.2.2.2.2 j (by omega)
        clear hh
        go_wp2_with (first
          | (refine wpList_load_row rfl 69 _ rfl (w.heap.size + 1) rfl _ _ _ _ hs.out.2.1 huE.out rfl (infoEvR x) ?_)
          | (refine wpList_load_row rfl 69 _ rfl (w.heap.size + 1 + 1) rfl _ _ _ _ hs.out.2.2.1 huE.out rfl (infoEvR y) ?_)
          | (go_at_call 55; (refine cK.mono ?_); rintro e w2 ⟨rfl, hb2⟩; (have hw2 : Hid (w2.heap[w.heap.size]? = some (objP M) ∧ w2.heap[w.heap.size + 1]? = some (objEv x) ∧ w2.heap[w.heap.size + 1 + 1]? = some (objEv y) ∧ Below w.heap.size w w2 ∧ ∀ j : Nat, j < k + 1 → shP M.vars x y (j : Int) = false) := ⟨(hb2.block _ (Array.getElem?_eq_some_iff.mp hs.out.1).1).trans hs.out.1, (hb2.block _ (Array.getElem?_eq_some_iff.mp hs.out.2.1).1).trans hs.out.2.1, (hb2.block _ (Array.getElem?_eq_some_iff.mp hs.out.2.2.1).1).trans hs.out.2.2.1, bthen hs.out.2.2.2.1 hb2, hno.out⟩); clear hb2))
        go_roundw
        case rel => exact ⟨k + 1, by omega, by go_num, hw2⟩
        case measure => simp [intOf]; omega
    · have hkl : k = M.vars.length := by omega
      have hv : Hid (decide (0 ≤ (-1 : Int)) = anyB M.vars x y ∧ I64 (-1)) := ⟨by rw [anyB_none (fun j hj => hs.out.2.2.2.2 j (by omega))]; rfl, by unfold I64; omega⟩
      subst hkl
      go_wp2
      go_ret
      exact ⟨⟨_, rfl, hv⟩, hs.out.2.2.2.1⟩
end Go.Proofs.YtafefnkgdnmjbaaGreatDoor.pg
