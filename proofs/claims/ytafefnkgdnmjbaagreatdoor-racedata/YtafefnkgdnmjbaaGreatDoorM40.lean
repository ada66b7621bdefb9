/- The order of what is found, by the document's own. -/
import Derived.Test.YtafefnkgdnmjbaaGreatDoorM39
import Derived.Test.YtafefnkgdnmjbaaGreatDoorM24
namespace Go.Proofs.YtafefnkgdnmjbaaGreatDoor.pg
open Go.ChangeShapes Go.WideShapes Go.ChangeAt Go.RowKit Go.Shelf
set_option linter.unusedVariables false
set_option linter.unusedSimpArgs false
set_option maxRecDepth 100000
attribute [local go_sem ↓] Go.wp_at_zero Go.wp_at_succ
theorem ix5 (B k : Nat) (hk : k < 5) : ∀ wx, (Instr.indexAt 210 (.pointer (some ⟨B, 0, none⟩)) (.int .i64 (k : Int))).run Tryz.prog wx = .ok (.pointer (some ⟨B, k, none⟩)) wx := by
  match k, hk with
  | 0, _ => exact fun _ => by kernel_rfl
  | 1, _ => exact fun _ => by kernel_rfl
  | 2, _ => exact fun _ => by kernel_rfl
  | 3, _ => exact fun _ => by kernel_rfl
  | 4, _ => exact fun _ => by kernel_rfl
abbrev ob5 (x : Fd) : Obj := .cells #[.int .i64 x.n, .int .i64 x.af, .int .i64 x.ap, .int .i64 x.bf, .int .i64 x.bp] 210
def key5 (x : Fd) (k : Nat) : Int := if k = 0 then x.n else if k = 1 then x.af else if k = 2 then x.ap else if k = 3 then x.bf else x.bp
theorem key5_at (x : Fd) {k : Nat} (h : k < 5) {w : World} {B : Nat} (hb : w.heap[B]? = some (ob5 x)) : w.cell? ⟨B, k, none⟩ = some (.int .i64 (key5 x k)) := by
  match k, h with
  | 0, _ => exact cell_of hb rfl
  | 1, _ => exact cell_of hb rfl
  | 2, _ => exact cell_of hb rfl
  | 3, _ => exact cell_of hb rfl
  | 4, _ => exact cell_of hb rfl
theorem orV_ne {c d : Int} (h : c ≠ 0) : orV c d = c := by unfold orV; rw [if_neg h]
theorem orV_eq {d : Int} : orV 0 d = d := by unfold orV; rw [if_pos rfl]
theorem cmpV_lt {a b : Int} (h : a ≠ b) : cmpV a b ≠ 0 ∧ (decide (cmpV a b < 0) = decide (a < b)) := by
  unfold cmpV
  by_cases q : a < b
  · rw [if_pos q]; exact ⟨by omega, by rw [decide_eq_true q]; rfl⟩
  · rw [if_neg q, if_pos (by omega)]; exact ⟨by omega, by rw [decide_eq_false q]; rfl⟩
theorem cmp3_key {x y : Fd} {k : Nat} (hk : k < 5) (he : ∀ j, j < k → key5 x j = key5 y j) (hn : key5 x k ≠ key5 y k) : decide (cmp3 x y < 0) = decide (key5 x k < key5 y k) := by
  have c := cmpV_lt hn
  unfold cmp3
  match k, hk with
  | 0, _ =>
    have : key5 x 0 = x.n ∧ key5 y 0 = y.n := ⟨rfl, rfl⟩
    rw [this.1, this.2] at c ⊢
    rw [orV_ne c.1]; exact c.2
  | 1, _ =>
    have e0 : x.n = y.n := he 0 (by omega)
    have : key5 x 1 = x.af ∧ key5 y 1 = y.af := ⟨rfl, rfl⟩
    rw [this.1, this.2] at c ⊢
    rw [e0, cmpV_slf, orV_eq, orV_ne (c := cmpV x.af y.af) c.1, orV_ne c.1]; exact c.2
  | 2, _ =>
    have e0 : x.n = y.n := he 0 (by omega)
    have e1 : x.af = y.af := he 1 (by omega)
    have : key5 x 2 = x.ap ∧ key5 y 2 = y.ap := ⟨rfl, rfl⟩
    rw [this.1, this.2] at c ⊢
    rw [e0, e1, cmpV_slf, cmpV_slf, orV_eq, orV_eq, orV_ne c.1]; exact c.2
  | 3, _ =>
    have e0 : x.n = y.n := he 0 (by omega)
    have e1 : x.af = y.af := he 1 (by omega)
    have e2 : x.ap = y.ap := he 2 (by omega)
    have : key5 x 3 = x.bf ∧ key5 y 3 = y.bf := ⟨rfl, rfl⟩
    rw [this.1, this.2] at c ⊢
    rw [e0, e1, e2, cmpV_slf, cmpV_slf, cmpV_slf, orV_eq, orV_eq, orV_eq, orV_ne c.1]; exact c.2
  | 4, _ =>
    have e0 : x.n = y.n := he 0 (by omega)
    have e1 : x.af = y.af := he 1 (by omega)
    have e2 : x.ap = y.ap := he 2 (by omega)
    have e3 : x.bf = y.bf := he 3 (by omega)
    have : key5 x 4 = x.bp ∧ key5 y 4 = y.bp := ⟨rfl, rfl⟩
    rw [this.1, this.2] at c ⊢
    rw [e0, e1, e2, e3, cmpV_slf, cmpV_slf, cmpV_slf, cmpV_slf, orV_eq, orV_eq, orV_eq, orV_eq]; exact c.2
theorem cmp3_same {x y : Fd} (he : ∀ j, j < 5 → key5 x j = key5 y j) : decide (cmp3 x y < 0) = false := by
  have e0 : x.n = y.n := he 0 (by omega)
  have e1 : x.af = y.af := he 1 (by omega)
  have e2 : x.ap = y.ap := he 2 (by omega)
  have e3 : x.bf = y.bf := he 3 (by omega)
  have e4 : x.bp = y.bp := he 4 (by omega)
  unfold cmp3
  rw [e0, e1, e2, e3, e4, cmpV_slf, cmpV_slf, cmpV_slf, cmpV_slf, cmpV_slf]
  rfl
theorem ne_intR (a b : Int) (p q : Operand) (wx : World) (R : Bool) (hR : R = true ↔ ¬ a = b) : ((do
    eqGuard .neq 3 p q (.int .i64 a) (.int .i64 b)
    binOp .neq 3 (.int .i64 a) (.int .i64 b)) : Sem Value).run Tryz.prog wx = .ok (.bool R) wx := by
  have u := Tryz.underlying3
  have e : (a != b) = R := by
    cases R
    · have : a = b := by simpa using hR
      rw [this]; simp
    · have : ¬ a = b := hR.mp rfl
      simpa [bne] using this
  simp [eqGuard, binOp, go_sem, u, e]
set_option maxHeartbeats 4000000 in
theorem less_any (x y : Fd) (w : World) (R : Bool) (hR : Hid (R = decide (cmp3 x y < 0))) : Calls Tryz.prog 101 #[x.val, y.val] w fun e w' => e = .returned (.bool R) ∧ Below w.heap.size w w' := by
  obtain ⟨p1, p2, p3, p4, p5, _⟩ := alloc4 w (objFd x) (objFd y) (ob5 x) (ob5 y)
  have hA : Hid (((((w.alloc (objFd x)).alloc (objFd y)).alloc (ob5 x)).alloc (ob5 y)).heap[w.heap.size + 1 + 1]? = some (ob5 x) ∧ ((((w.alloc (objFd x)).alloc (objFd y)).alloc (ob5 x)).alloc (ob5 y)).heap[w.heap.size + 1 + 1 + 1]? = some (ob5 y) ∧ Below w.heap.size w ((((w.alloc (objFd x)).alloc (objFd y)).alloc (ob5 x)).alloc (ob5 y))) := ⟨p3, p4, p5⟩
  clear p1 p2 p3 p4 p5
  go_enter Tryz.func101, Tryz.ntmps101
  go_wp2
  generalize (((w.alloc (objFd x)).alloc (objFd y)).alloc (ob5 x)).alloc (ob5 y) = W at *
  go_loopw [7] (fun u wr => ∃ i : Nat, i ≤ 5 ∧ u = .int .i64 (i : Int) ∧ Hid (Below W.heap.size W wr ∧ ∀ j, j < i → key5 x j = key5 y j)) (fun u _ => 5 - (intOf u).toNat)
  case atStart => exact ⟨0, by omega, rfl, Below.refl _ _, fun j h => by omega⟩
  case round =>
    obtain ⟨i, hi, rfl, hs⟩ := hrel
    by_cases hlt : i < 5
    · have hiI : (i : Int) < 5 := by omega
      have xa := ix5 (w.heap.size + 1 + 1) i hlt
      have xb := ix5 (w.heap.size + 1 + 1 + 1) i hlt
      have hF : Hid (∀ w', Below wr.heap.size wr w' → w'.cell? ⟨w.heap.size + 1 + 1, i, none⟩ = some (.int .i64 (key5 x i)) ∧ w'.cell? ⟨w.heap.size + 1 + 1 + 1, i, none⟩ = some (.int .i64 (key5 y i))) := fun w' h => ⟨key5_at x hlt (blk_onR hA.out.1 (bthen hs.out.1 h)), key5_at y hlt (blk_onR hA.out.2.1 (bthen hs.out.1 h))⟩
      have hS : Hid (Below wr.heap.size wr wr.drew) := bey_drew wr
      have hkey : Hid (key5 x i ≠ key5 y i → R = decide (key5 x i < key5 y i)) := fun h => by (rw [hR.out]; exact cmp3_key hlt hs.out.2 h)
      have hnx : Hid (key5 x i = key5 y i → ∀ j, j < i + 1 → key5 x j = key5 y j) := fun h j hj => by
        by_cases e : j = i
        · subst e; exact h
        · exact hs.out.2 j (by omega)
      have hbW : Hid (Below W.heap.size W wr) := hs.out.1
      clear hs
      generalize key5 x i = a at *
      generalize key5 y i = b at *
      go_wp2_with fail
      refine wp_region_noPanic ?_
      refine wp_region_held_drew (S := fun w' => Below wr.heap.size wr w') (by kernel_rfl) hS.out (fun _ => ?_)
      refine reg_move (i := 0) rfl (by kernel_rfl) (by kernel_rfl) (by kernel_rfl) (fun _ _ _ _ h => h) rfl (.int .i64 (i : Int)) (fun _ => rfl) hS.out ?_
      simp only [Act.put, List.getElem_toArray, List.getElem_cons_succ, List.getElem_cons_zero, List.setIfInBounds_toArray, List.set_cons_zero, List.set_cons_succ]
      refine reg_move (i := 1) rfl (by kernel_rfl) (by kernel_rfl) (by kernel_rfl) (fun _ _ _ _ h => h) rfl (.pointer (some ⟨w.heap.size + 1 + 1, i, none⟩)) (fun wx => by unfold execOp; exact run_value_of (xa wx)) hS.out ?_
      simp only [Act.put, List.getElem_toArray, List.getElem_cons_succ, List.getElem_cons_zero, List.setIfInBounds_toArray, List.set_cons_zero, List.set_cons_succ]
      refine reg_load1 (i := 2) rfl (by kernel_rfl) (by kernel_rfl) (by kernel_rfl) (fun _ _ _ _ h => h) rfl 3 _ rfl ⟨w.heap.size + 1 + 1, i, none⟩ rfl _ Tryz.underlying3 rfl (.int .i64 a) (fun w' h' => (hF.out w' h').1) hS.out ?_
      simp only [Act.put, List.getElem_toArray, List.getElem_cons_succ, List.getElem_cons_zero, List.setIfInBounds_toArray, List.set_cons_zero, List.set_cons_succ]
      refine reg_move (i := 3) rfl (by kernel_rfl) (by kernel_rfl) (by kernel_rfl) (fun _ _ _ _ h => h) rfl (.int .i64 (i : Int)) (fun _ => rfl) hS.out ?_
      simp only [Act.put, List.getElem_toArray, List.getElem_cons_succ, List.getElem_cons_zero, List.setIfInBounds_toArray, List.set_cons_zero, List.set_cons_succ]
      refine reg_move (i := 4) rfl (by kernel_rfl) (by kernel_rfl) (by kernel_rfl) (fun _ _ _ _ h => h) rfl (.pointer (some ⟨w.heap.size + 1 + 1 + 1, i, none⟩)) (fun wx => by unfold execOp; exact run_value_of (xb wx)) hS.out ?_
      simp only [Act.put, List.getElem_toArray, List.getElem_cons_succ, List.getElem_cons_zero, List.setIfInBounds_toArray, List.set_cons_zero, List.set_cons_succ]
      refine reg_load1 (i := 5) rfl (by kernel_rfl) (by kernel_rfl) (by kernel_rfl) (fun _ _ _ _ h => h) rfl 3 _ rfl ⟨w.heap.size + 1 + 1 + 1, i, none⟩ rfl _ Tryz.underlying3 rfl (.int .i64 b) (fun w' h' => (hF.out w' h').2) hS.out ?_
      simp only [Act.put, List.getElem_toArray, List.getElem_cons_succ, List.getElem_cons_zero, List.setIfInBounds_toArray, List.set_cons_zero, List.set_cons_succ]
      by_cases hab : a = b
      · subst hab
        have hn2 := hnx.out rfl
        refine reg_move (i := 6) rfl (by kernel_rfl) (by kernel_rfl) (by kernel_rfl) (fun _ _ _ _ h => h) rfl (.bool false) (fun wx => by unfold execOp; exact run_value_of (ne_intR a a _ _ wx false (by simp))) hS.out ?_
        simp only [Act.put, List.getElem_toArray, List.getElem_cons_succ, List.getElem_cons_zero, List.setIfInBounds_toArray, List.set_cons_zero, List.set_cons_succ]
        refine wpAnyH_done (by kernel_rfl) (NoPanic.normal ?_) _
        have hb2 : Hid (Below W.heap.size W wr.drew) := bthen hbW.out hS.out
        clear hS hF xa xb hkey hbW
        generalize wr.drew = W1 at *
        have hn2H : Hid _ := hn2
        clear hn2
        go_wp2
        go_roundw
        case rel => exact ⟨i + 1, by omega, by go_num, hb2.out, hn2H.out⟩
        case measure => simp [intOf]; omega
      · have hRa : Hid (R = decide (a < b)) := hkey.out hab
        refine reg_move (i := 6) rfl (by kernel_rfl) (by kernel_rfl) (by kernel_rfl) (fun _ _ _ _ h => h) rfl (.bool true) (fun wx => by unfold execOp; exact run_value_of (ne_intR a b _ _ wx true (by simpa using hab))) hS.out ?_
        simp only [Act.put, List.getElem_toArray, List.getElem_cons_succ, List.getElem_cons_zero, List.setIfInBounds_toArray, List.set_cons_zero, List.set_cons_succ]
        refine wpAnyH_done (by kernel_rfl) (NoPanic.normal ?_) _
        have hF2 : Hid (∀ w', Below wr.drew.heap.size wr.drew w' → w'.cell? ⟨w.heap.size + 1 + 1, i, none⟩ = some (.int .i64 a) ∧ w'.cell? ⟨w.heap.size + 1 + 1 + 1, i, none⟩ = some (.int .i64 b)) := fun w' h => hF.out w' (bthen hS.out h)
        have hb2 : Hid (Below w.heap.size w wr.drew) := bthen hA.out.2.2 (bthen hbW.out hS.out)
        clear hS hF hkey hbW hnx hA hab hR
        generalize wr.drew = W1 at *
        have hS : Hid (Below W1.heap.size W1 W1.drew) := bey_drew W1
        go_wp2_with fail
        refine wp_region_noPanic ?_
        refine wp_region_held_drew (S := fun w' => Below W1.heap.size W1 w') (by kernel_rfl) hS.out (fun _ => ?_)
        refine reg_move (i := 0) rfl (by kernel_rfl) (by kernel_rfl) (by kernel_rfl) (fun _ _ _ _ h => h) rfl (.int .i64 (i : Int)) (fun _ => rfl) hS.out ?_
        simp only [Act.put, List.getElem_toArray, List.getElem_cons_succ, List.getElem_cons_zero, List.setIfInBounds_toArray, List.set_cons_zero, List.set_cons_succ]
        refine reg_move (i := 1) rfl (by kernel_rfl) (by kernel_rfl) (by kernel_rfl) (fun _ _ _ _ h => h) rfl (.pointer (some ⟨w.heap.size + 1 + 1, i, none⟩)) (fun wx => by unfold execOp; exact run_value_of (xa wx)) hS.out ?_
        simp only [Act.put, List.getElem_toArray, List.getElem_cons_succ, List.getElem_cons_zero, List.setIfInBounds_toArray, List.set_cons_zero, List.set_cons_succ]
        refine reg_load1 (i := 2) rfl (by kernel_rfl) (by kernel_rfl) (by kernel_rfl) (fun _ _ _ _ h => h) rfl 3 _ rfl ⟨w.heap.size + 1 + 1, i, none⟩ rfl _ Tryz.underlying3 rfl (.int .i64 a) (fun w' h' => (hF2.out w' h').1) hS.out ?_
        simp only [Act.put, List.getElem_toArray, List.getElem_cons_succ, List.getElem_cons_zero, List.setIfInBounds_toArray, List.set_cons_zero, List.set_cons_succ]
        refine reg_move (i := 3) rfl (by kernel_rfl) (by kernel_rfl) (by kernel_rfl) (fun _ _ _ _ h => h) rfl (.int .i64 (i : Int)) (fun _ => rfl) hS.out ?_
        simp only [Act.put, List.getElem_toArray, List.getElem_cons_succ, List.getElem_cons_zero, List.setIfInBounds_toArray, List.set_cons_zero, List.set_cons_succ]
        refine reg_move (i := 4) rfl (by kernel_rfl) (by kernel_rfl) (by kernel_rfl) (fun _ _ _ _ h => h) rfl (.pointer (some ⟨w.heap.size + 1 + 1 + 1, i, none⟩)) (fun wx => by unfold execOp; exact run_value_of (xb wx)) hS.out ?_
        simp only [Act.put, List.getElem_toArray, List.getElem_cons_succ, List.getElem_cons_zero, List.setIfInBounds_toArray, List.set_cons_zero, List.set_cons_succ]
        refine reg_load1 (i := 5) rfl (by kernel_rfl) (by kernel_rfl) (by kernel_rfl) (fun _ _ _ _ h => h) rfl 3 _ rfl ⟨w.heap.size + 1 + 1 + 1, i, none⟩ rfl _ Tryz.underlying3 rfl (.int .i64 b) (fun w' h' => (hF2.out w' h').2) hS.out ?_
        simp only [Act.put, List.getElem_toArray, List.getElem_cons_succ, List.getElem_cons_zero, List.setIfInBounds_toArray, List.set_cons_zero, List.set_cons_succ]
        refine reg_move (i := 6) rfl (by kernel_rfl) (by kernel_rfl) (by kernel_rfl) (fun _ _ _ _ h => h) rfl (.bool (decide (a < b))) (fun _ => rfl) hS.out ?_
        simp only [Act.put, List.getElem_toArray, List.getElem_cons_succ, List.getElem_cons_zero, List.setIfInBounds_toArray, List.set_cons_zero, List.set_cons_succ]
        refine reg_move (i := 7) rfl (by kernel_rfl) (by kernel_rfl) (by kernel_rfl) (fun _ _ _ _ h => h) rfl (.bool (decide (a < b))) (fun _ => rfl) hS.out ?_
        simp only [Act.put, List.getElem_toArray, List.getElem_cons_succ, List.getElem_cons_zero, List.setIfInBounds_toArray, List.set_cons_zero, List.set_cons_succ]
        refine wpAnyH_done (by kernel_rfl) (NoPanic.normal ?_) _
        go_wp2
        go_ret
        exact ⟨by rw [hRa.out]; rfl, bthen hb2.out hS.out⟩
    · have hie : i = 5 := by omega
      subst hie
      have hRa : Hid (R = false) := by (show _ = _; rw [hR.out]; exact cmp3_same hs.out.2)
      have hb2 : Hid (Below w.heap.size w wr) := bthen hA.out.2.2 hs.out.1
      clear hs hR hA
      go_wp2
      go_ret
      exact ⟨by rw [hRa.out]; rfl, hb2.out⟩
end Go.Proofs.YtafefnkgdnmjbaaGreatDoor.pg
/- Something found put into a list in order, once: the document's own put. -/
namespace Go.Proofs.YtafefnkgdnmjbaaGreatDoor.pg
open Go.ChangeShapes Go.WideShapes Go.ChangeAt Go.RowKit Go.Shelf
set_option linter.unusedVariables false
set_option linter.unusedSimpArgs false
set_option maxRecDepth 100000
attribute [local go_sem ↓] Go.wp_at_zero Go.wp_at_succ
def pstep (f : Fd) (s : List Fd × Bool) (x : Fd) : List Fd × Bool := if s.2 then (s.1 ++ [x], true) else if x = f then (s.1 ++ [x], true) else if cmp3 f x < 0 then (s.1 ++ [f] ++ [x], true) else (s.1 ++ [x], false)
def pk (f : Fd) (L : List Fd) (i : Nat) : List Fd × Bool := (L.take i).foldl (pstep f) ([], false)
theorem pk_more {f x : Fd} {L : List Fd} {i : Nat} (h : L[i]? = some x) : pk f L (i + 1) = pstep f (pk f L i) x := by
  have hi := (List.getElem?_eq_some_iff.mp h).1
  have e : L[i] = x := (List.getElem?_eq_some_iff.mp h).2
  unfold pk
  rw [List.take_succ_eq_append_getElem hi, List.foldl_append, e]
  rfl
theorem fold_done (f : Fd) : ∀ (L o : List Fd), L.foldl (pstep f) (o, true) = (o ++ L, true)
  | [], o => by simp
  | x :: L, o => by
    rw [List.foldl_cons]
    have : pstep f (o, true) x = (o ++ [x], true) := by unfold pstep; rfl
    rw [this, fold_done f L, List.append_assoc]
    rfl
theorem fold_put (f : Fd) : ∀ (L o : List Fd), o ++ putF f L = (L.foldl (pstep f) (o, false)).1 ++ (if (L.foldl (pstep f) (o, false)).2 then [] else [f])
  | [], o => by simp [putF]
  | x :: L, o => by
    rw [List.foldl_cons]
    unfold putF
    by_cases h1 : x = f
    · have : pstep f (o, false) x = (o ++ [x], true) := by unfold pstep; simp [h1]
      rw [if_pos h1, this, fold_done]
      simp
    · rw [if_neg h1]
      by_cases h2 : cmp3 f x < 0
      · have : pstep f (o, false) x = (o ++ [f] ++ [x], true) := by unfold pstep; simp [h1, h2]
        rw [if_pos h2, this, fold_done]
        simp
      · have : pstep f (o, false) x = (o ++ [x], false) := by unfold pstep; simp [h1, h2]
        rw [if_neg h2, this, ← fold_put f L (o ++ [x])]
        simp
theorem pk_put (f : Fd) (L : List Fd) : putF f L = (pk f L L.length).1 ++ (if (pk f L L.length).2 then [] else [f]) := by
  have := fold_put f L []
  unfold pk
  rw [List.take_length]
  simpa using this
theorem pk_len (f : Fd) (L : List Fd) : ∀ i, (pk f L i).1.length ≤ i + (if (pk f L i).2 then 1 else 0)
  | 0 => by simp [pk]
  | i + 1 => by
    have ih := pk_len f L i
    cases h : L[i]? with
    | none =>
      have hl : L.length ≤ i := List.getElem?_eq_none_iff.mp h
      have e : pk f L (i + 1) = pk f L i := by unfold pk; rw [List.take_of_length_le (by omega), List.take_of_length_le hl]
      rw [e]; omega
    | some x =>
      rw [pk_more h]
      generalize pk f L i = s at *
      unfold pstep
      split
      · rename_i hd
        rw [hd] at ih
        simp at ih ⊢
        omega
      · rename_i hd
        have hd' : s.2 = false := by simpa using hd
        rw [hd'] at ih
        simp at ih
        split
        · simp; omega
        · split
          · simp; omega
          · simp; omega
/-- How put stands. -/
structure PtS (w W : World) (f : Fd) (o : List Fd) (va : Option Addr) (vc : Nat) : Prop where
  f : W.heap[w.heap.size]? = some (objFd f)
  o : OwnL W (w.heap.size + 1) 84 7 va vc (o.map Fd.cells)
  b : Below w.heap.size w W
theorem PtS.lt {w W : World} {f : Fd} {o : List Fd} {va : Option Addr} {vc : Nat} (h : PtS w W f o va vc) : w.heap.size < W.heap.size := (Array.getElem?_eq_some_iff.mp h.f).1
theorem PtS.later {w W W' : World} {f : Fd} {o : List Fd} {va : Option Addr} {vc : Nat} (h : PtS w W f o va vc) (hb : Below W.heap.size W W') : PtS w W' f o va vc := ⟨blk_onR h.f hb, own_keep h.o fun g hg => hb.block g (blk_lt h.o g hg).2, bthen h.b hb⟩
theorem PtS.add {w W : World} {f x : Fd} {o : List Fd} {va : Option Addr} {vc : Nat} {va' : Option Addr} {vc' : Nat} {W' : World} (h : PtS w W f o va vc) (g : Grown W (w.heap.size + 1) 84 7 va (o.map Fd.cells) x.cells va' vc' W') : PtS w W' f (o ++ [x]) va' vc' := by
  have hlt := h.lt
  refine ⟨(g.kp _ hlt fun q => ?_).trans h.f, by rw [List.map_append]; exact g.ow, h.b.trans (g.be.mono (by omega))⟩
  have := (blk_lt h.o _ q).1
  omega
theorem range7 {w : World} {B : Nat} {x : Fd} (h : w.heap[B]? = some (objFd x)) : w.rangeAt B 0 x.cells := range_ofR (l := x.cells) h
theorem infoFd7 (x : Fd) : (Tryz.prog.info? 84).map (·.size) = some x.cells.length := by show _ = some 7; kernel_rfl
theorem oneFdL (x : Fd) : ∀ u ∈ x.cells, u.oneCell' = true := by simp [Fd.cells, Value.oneCell']
set_option maxHeartbeats 8000000 in
theorem putR_any (L : List Fd) (la : Option Addr) (lc : Nat) (f : Fd) (w : World) (hl : Rows w 7 la lc (L.map Fd.cells)) (hw : ∀ x ∈ L, x.wf) (hf : f.wf) (hn : L.length ≤ 600000) :
    Calls Tryz.prog 56 #[.slice la L.length lc, f.val] w fun e w' => ∃ va vc, e = .returned (.slice va (putF f L).length vc) ∧ OwnL w' w.heap.size 84 7 va vc ((putF f L).map Fd.cells) ∧ Below w.heap.size w w' := by
  obtain ⟨iF, hiF, hzF, hsF, hbF⟩ := info_q infoFdR
  have huF : Hid (Tryz.prog.underlying 84 = _) := Tryz.underlying84
  have hlH : Hid (Rows w 7 la lc (L.map Fd.cells)) := hl
  have hwH : Hid (∀ x ∈ L, x.wf) := hw
  have hfH : Hid f.wf := hf
  have hnI : (L.length : Int) ≤ 600000 := by omega
  have s0 : Hid (PtS w (w.alloc (objFd f)) f (pk f L 0).1 none 0) := ⟨heap_alloc_new _ _, own_nilR _ _ _ _, boxed _ _⟩
  have hend : Hid (putF f L = (pk f L L.length).1 ++ (if (pk f L L.length).2 then [] else [f])) := pk_put f L
  clear hl hw hf
  go_enter Tryz.func56, Tryz.ntmps56
  go_wp2
  generalize w.alloc (objFd f) = V0 at *
  go_loopw [5, 6, 7] (fun u5 u6 u7 wr => ∃ (i : Nat) (va : Option Addr) (vc : Nat), i ≤ L.length ∧ u7 = .int .i64 (i : Int) ∧ u6 = .bool (pk f L i).2 ∧ u5 = .slice va (pk f L i).1.length vc ∧ Hid (PtS w wr f (pk f L i).1 va vc)) (fun _ _ u7 _ => L.length - (intOf u7).toNat)
  case atStart => exact ⟨0, none, 0, Nat.zero_le _, rfl, rfl, rfl, s0⟩
  case round =>
    obtain ⟨i, va, vc, hi, rfl, rfl, rfl, st⟩ := hrel
    clear s0
    by_cases hlt : i < L.length
    · have hiI : (i : Int) < L.length := by omega
      obtain ⟨x, hx⟩ : ∃ x, L[i]? = some x := ⟨_, List.getElem?_eq_getElem hlt⟩
      have hxw : Hid x.wf := hwH.out x (List.mem_of_getElem? hx)
      obtain ⟨cx, ox, xx, hcx, rx⟩ := fd_at hlH.out hx
      have hrx : Hid (∀ w', Below w.heap.size w w' → w'.rangeAt cx ox x.cells) := fun w' h => range_block rx (h.block cx hcx)
      have hm : Hid (pk f L (i + 1) = pstep f (pk f L i) x) := pk_more hx
      have hLb : Hid ((pk f L i).1.length ≤ 700000) := by (have := pk_len f L i; show _ ≤ _; split at this <;> omega)
      obtain ⟨⟨oo, d⟩, hpk⟩ : ∃ s, pk f L i = s := ⟨_, rfl⟩
      rw [hpk] at st hm hLb ⊢
      dsimp only at st hLb
      have hrH : Hid (∀ w', Below wr.heap.size wr w' → w'.rangeAt cx ox x.cells ∧ w'.rangeAt w.heap.size 0 f.cells) := fun w' h => ⟨hrx.out w' (bthen st.out.b h), range7 (blk_onR st.out.f h)⟩
      have hS : Hid (Below wr.heap.size wr wr.drew) := bey_drew wr
      obtain ⟨e, he⟩ : ∃ e : Bool, e = true ↔ x = f := ⟨decide (x = f), by simp⟩
      have heq := fun p q wx => eqR_fd hxw.out hfH.out e he p q wx
      have heH : Hid (e = true ↔ x = f) := he
      clear rx hcx hpk hx he
      go_wp2_with fail
      refine wp_region_noPanic ?_
      refine wp_region_held_drew (S := fun w' => Below wr.heap.size wr w') (by kernel_rfl) hS.out (fun _ => ?_)
      refine reg_move (i := 0) rfl (by kernel_rfl) (by kernel_rfl) (by kernel_rfl) (fun _ _ _ _ h => h) rfl (.slice la L.length lc) (fun _ => rfl) hS.out ?_
      simp only [Act.put, List.getElem_toArray, List.getElem_cons_succ, List.getElem_cons_zero, List.setIfInBounds_toArray, List.set_cons_zero, List.set_cons_succ]
      refine reg_move (i := 1) rfl (by kernel_rfl) (by kernel_rfl) (by kernel_rfl) (fun _ _ _ _ h => h) rfl (.int .i64 (i : Int)) (fun _ => rfl) hS.out ?_
      simp only [Act.put, List.getElem_toArray, List.getElem_cons_succ, List.getElem_cons_zero, List.setIfInBounds_toArray, List.set_cons_zero, List.set_cons_succ]
      refine reg_move (i := 2) rfl (by kernel_rfl) (by kernel_rfl) (by kernel_rfl) (fun _ _ _ _ h => h) rfl (.pointer (some ⟨cx, ox, none⟩)) (fun wx => by unfold execOp; exact run_value_of (xx wx)) hS.out ?_
      simp only [Act.put, List.getElem_toArray, List.getElem_cons_succ, List.getElem_cons_zero, List.setIfInBounds_toArray, List.set_cons_zero, List.set_cons_succ]
      refine reg_load (i := 3) rfl (by kernel_rfl) (by kernel_rfl) (by kernel_rfl) (fun _ _ _ _ h => h) rfl 84 _ rfl cx ox rfl x.cells _ (fun w' h' => (hrH.out w' h').1) Tryz.underlying84 rfl (infoFd7 x) hS.out ?_
      simp only [Act.put, List.getElem_toArray, List.getElem_cons_succ, List.getElem_cons_zero, List.setIfInBounds_toArray, List.set_cons_zero, List.set_cons_succ]
      refine reg_load (i := 4) rfl (by kernel_rfl) (by kernel_rfl) (by kernel_rfl) (fun _ _ _ _ h => h) rfl 84 _ rfl w.heap.size 0 rfl f.cells _ (fun w' h' => (hrH.out w' h').2) Tryz.underlying84 rfl (infoFd7 f) hS.out ?_
      simp only [Act.put, List.getElem_toArray, List.getElem_cons_succ, List.getElem_cons_zero, List.setIfInBounds_toArray, List.set_cons_zero, List.set_cons_succ]
      refine reg_move (i := 5) rfl (by kernel_rfl) (by kernel_rfl) (by kernel_rfl) (fun _ _ _ _ h => h) rfl (.bool e) (fun wx => by unfold execOp; exact run_value_of (heq _ _ wx)) hS.out ?_
      simp only [Act.put, List.getElem_toArray, List.getElem_cons_succ, List.getElem_cons_zero, List.setIfInBounds_toArray, List.set_cons_zero, List.set_cons_succ]
      refine wpAnyH_done (by kernel_rfl) (NoPanic.normal ?_) _
      have st1 : Hid (PtS w wr.drew f oo va vc) := st.out.later hS.out
      have hr1 : Hid (∀ w', Below wr.drew.heap.size wr.drew w' → w'.rangeAt cx ox x.cells ∧ w'.rangeAt w.heap.size 0 f.cells) := fun w' h => hrH.out w' (bthen hS.out h)
      clear heq hS hrH st
      generalize wr.drew = W1 at *
      have hS : Hid (Below W1.heap.size W1 W1.drew) := bey_drew W1
      have st2 : Hid (PtS w W1.drew f oo va vc) := st1.out.later hS.out
      clear st1
      cases e with
      | true =>
        have hN : Hid (pk f L (i + 1) = (oo ++ [x], true)) := by (show _ = _; rw [hm.out]; unfold pstep; cases d with | true => rfl | false => rw [if_neg (by simp), if_pos (heH.out.mp rfl)])
        go_wp2_with fail
        refine wp_region_noPanic ?_
        refine wp_region_held_drew (S := fun w' => Below W1.heap.size W1 w') (by kernel_rfl) hS.out (fun _ => ?_)
        refine reg_move (i := 0) rfl (by kernel_rfl) (by kernel_rfl) (by kernel_rfl) (fun _ _ _ _ h => h) rfl (.bool true) (fun _ => rfl) hS.out ?_
        simp only [Act.put, List.getElem_toArray, List.getElem_cons_succ, List.getElem_cons_zero, List.setIfInBounds_toArray, List.set_cons_zero, List.set_cons_succ]
        refine reg_move (i := 1) rfl (by kernel_rfl) (by kernel_rfl) (by kernel_rfl) (fun _ _ _ _ h => h) rfl (.bool false) (fun _ => rfl) hS.out ?_
        simp only [Act.put, List.getElem_toArray, List.getElem_cons_succ, List.getElem_cons_zero, List.setIfInBounds_toArray, List.set_cons_zero, List.set_cons_succ]
        refine reg_move (i := 2) rfl (by kernel_rfl) (by kernel_rfl) (by kernel_rfl) (fun _ _ _ _ h => h) rfl (.bool false) (fun _ => rfl) hS.out ?_
        simp only [Act.put, List.getElem_toArray, List.getElem_cons_succ, List.getElem_cons_zero, List.setIfInBounds_toArray, List.set_cons_zero, List.set_cons_succ]
        refine reg_skip (i := 3) rfl (by kernel_rfl) (by kernel_rfl) (by kernel_rfl) (fun _ _ _ _ h => h) rfl hS.out ?_
        simp only [Act.put, List.getElem_toArray, List.getElem_cons_succ, List.getElem_cons_zero, List.setIfInBounds_toArray, List.set_cons_zero, List.set_cons_succ]
        refine reg_skip (i := 4) rfl (by kernel_rfl) (by kernel_rfl) (by kernel_rfl) (fun _ _ _ _ h => h) rfl hS.out ?_
        simp only [Act.put, List.getElem_toArray, List.getElem_cons_succ, List.getElem_cons_zero, List.setIfInBounds_toArray, List.set_cons_zero, List.set_cons_succ]
        refine reg_skip (i := 5) rfl (by kernel_rfl) (by kernel_rfl) (by kernel_rfl) (fun _ _ _ _ h => h) rfl hS.out ?_
        simp only [Act.put, List.getElem_toArray, List.getElem_cons_succ, List.getElem_cons_zero, List.setIfInBounds_toArray, List.set_cons_zero, List.set_cons_succ]
        refine reg_skip (i := 6) rfl (by kernel_rfl) (by kernel_rfl) (by kernel_rfl) (fun _ _ _ _ h => h) rfl hS.out ?_
        simp only [Act.put, List.getElem_toArray, List.getElem_cons_succ, List.getElem_cons_zero, List.setIfInBounds_toArray, List.set_cons_zero, List.set_cons_succ]
        refine reg_skip (i := 7) rfl (by kernel_rfl) (by kernel_rfl) (by kernel_rfl) (fun _ _ _ _ h => h) rfl hS.out ?_
        simp only [Act.put, List.getElem_toArray, List.getElem_cons_succ, List.getElem_cons_zero, List.setIfInBounds_toArray, List.set_cons_zero, List.set_cons_succ]
        refine reg_skip (i := 8) rfl (by kernel_rfl) (by kernel_rfl) (by kernel_rfl) (fun _ _ _ _ h => h) rfl hS.out ?_
        simp only [Act.put, List.getElem_toArray, List.getElem_cons_succ, List.getElem_cons_zero, List.setIfInBounds_toArray, List.set_cons_zero, List.set_cons_succ]
        refine reg_move (i := 9) rfl (by kernel_rfl) (by kernel_rfl) (by kernel_rfl) (fun _ _ _ _ h => h) rfl (.bool false) (fun _ => rfl) hS.out ?_
        simp only [Act.put, List.getElem_toArray, List.getElem_cons_succ, List.getElem_cons_zero, List.setIfInBounds_toArray, List.set_cons_zero, List.set_cons_succ]
        refine wpAnyH_done (by kernel_rfl) (NoPanic.normal ?_) _
        clear hr1 heH
        generalize W1.drew = W2 at *
        have hrW : Hid (W2.rangeAt cx ox x.cells) := hrx.out _ st2.out.b
        go_wp2_with (first
          | (refine wpList_load_mid rfl 84 _ rfl cx ox rfl [.int .i64 x.k, .int .i64 x.af, .int .i64 x.ap, .int .i64 x.bf, .int .i64 x.bp, .int .i64 x.n, .int .i64 x.y] _ hrW.out huF.out rfl (infoFd7 x) ?_)
          | (at_builtin; (refine wpList_app1 rfl (.tmp 34) (.tmp 39) 38 rfl (w.heap.size + 1) 84 iF _ 7 56 Tryz.underlying38 hiF hzF hsF hbF rfl (by decide) va vc (oo.map Fd.cells) (by rw [List.length_map]; rfl) st2.out.o [.int .i64 x.k, .int .i64 x.af, .int .i64 x.ap, .int .i64 x.bf, .int .i64 x.bp, .int .i64 x.n, .int .i64 x.y] rfl rfl (oneFdL x) (by rw [List.length_map]; have := hLb.out; unfold maxLen; omega) (by rw [List.length_map]; have := hLb.out; omega) (by have := st2.out.lt; omega) ?_); intro va8 vc8 W8 g; (have s8 : Hid (PtS w W8 f (oo ++ [x]) va8 vc8) := st2.out.add g); clear g; rw [List.length_map]))
        go_roundw
        case rel => exact ⟨i + 1, va8, vc8, by omega, by go_num, by rw [hN.out], by rw [hN.out]; simp [List.length_append], by rw [hN.out]; exact s8⟩
        case measure => simp [intOf]; omega
      | false =>
        cases d with
        | true =>
          have hN : Hid (pk f L (i + 1) = (oo ++ [x], true)) := by (show _ = _; rw [hm.out]; rfl)
          go_wp2_with fail
          refine wp_region_noPanic ?_
          refine wp_region_held_drew (S := fun w' => Below W1.heap.size W1 w') (by kernel_rfl) hS.out (fun _ => ?_)
          refine reg_move (i := 0) rfl (by kernel_rfl) (by kernel_rfl) (by kernel_rfl) (fun _ _ _ _ h => h) rfl (.bool true) (fun _ => rfl) hS.out ?_
          simp only [Act.put, List.getElem_toArray, List.getElem_cons_succ, List.getElem_cons_zero, List.setIfInBounds_toArray, List.set_cons_zero, List.set_cons_succ]
          refine reg_move (i := 1) rfl (by kernel_rfl) (by kernel_rfl) (by kernel_rfl) (fun _ _ _ _ h => h) rfl (.bool false) (fun _ => rfl) hS.out ?_
          simp only [Act.put, List.getElem_toArray, List.getElem_cons_succ, List.getElem_cons_zero, List.setIfInBounds_toArray, List.set_cons_zero, List.set_cons_succ]
          refine reg_move (i := 2) rfl (by kernel_rfl) (by kernel_rfl) (by kernel_rfl) (fun _ _ _ _ h => h) rfl (.bool false) (fun _ => rfl) hS.out ?_
          simp only [Act.put, List.getElem_toArray, List.getElem_cons_succ, List.getElem_cons_zero, List.setIfInBounds_toArray, List.set_cons_zero, List.set_cons_succ]
          refine reg_skip (i := 3) rfl (by kernel_rfl) (by kernel_rfl) (by kernel_rfl) (fun _ _ _ _ h => h) rfl hS.out ?_
          simp only [Act.put, List.getElem_toArray, List.getElem_cons_succ, List.getElem_cons_zero, List.setIfInBounds_toArray, List.set_cons_zero, List.set_cons_succ]
          refine reg_skip (i := 4) rfl (by kernel_rfl) (by kernel_rfl) (by kernel_rfl) (fun _ _ _ _ h => h) rfl hS.out ?_
          simp only [Act.put, List.getElem_toArray, List.getElem_cons_succ, List.getElem_cons_zero, List.setIfInBounds_toArray, List.set_cons_zero, List.set_cons_succ]
          refine reg_skip (i := 5) rfl (by kernel_rfl) (by kernel_rfl) (by kernel_rfl) (fun _ _ _ _ h => h) rfl hS.out ?_
          simp only [Act.put, List.getElem_toArray, List.getElem_cons_succ, List.getElem_cons_zero, List.setIfInBounds_toArray, List.set_cons_zero, List.set_cons_succ]
          refine reg_skip (i := 6) rfl (by kernel_rfl) (by kernel_rfl) (by kernel_rfl) (fun _ _ _ _ h => h) rfl hS.out ?_
          simp only [Act.put, List.getElem_toArray, List.getElem_cons_succ, List.getElem_cons_zero, List.setIfInBounds_toArray, List.set_cons_zero, List.set_cons_succ]
          refine reg_skip (i := 7) rfl (by kernel_rfl) (by kernel_rfl) (by kernel_rfl) (fun _ _ _ _ h => h) rfl hS.out ?_
          simp only [Act.put, List.getElem_toArray, List.getElem_cons_succ, List.getElem_cons_zero, List.setIfInBounds_toArray, List.set_cons_zero, List.set_cons_succ]
          refine reg_skip (i := 8) rfl (by kernel_rfl) (by kernel_rfl) (by kernel_rfl) (fun _ _ _ _ h => h) rfl hS.out ?_
          simp only [Act.put, List.getElem_toArray, List.getElem_cons_succ, List.getElem_cons_zero, List.setIfInBounds_toArray, List.set_cons_zero, List.set_cons_succ]
          refine reg_move (i := 9) rfl (by kernel_rfl) (by kernel_rfl) (by kernel_rfl) (fun _ _ _ _ h => h) rfl (.bool false) (fun _ => rfl) hS.out ?_
          simp only [Act.put, List.getElem_toArray, List.getElem_cons_succ, List.getElem_cons_zero, List.setIfInBounds_toArray, List.set_cons_zero, List.set_cons_succ]
          refine wpAnyH_done (by kernel_rfl) (NoPanic.normal ?_) _
          clear hr1 heH
          generalize W1.drew = W2 at *
          have hrW : Hid (W2.rangeAt cx ox x.cells) := hrx.out _ st2.out.b
          go_wp2_with (first
            | (refine wpList_load_mid rfl 84 _ rfl cx ox rfl [.int .i64 x.k, .int .i64 x.af, .int .i64 x.ap, .int .i64 x.bf, .int .i64 x.bp, .int .i64 x.n, .int .i64 x.y] _ hrW.out huF.out rfl (infoFd7 x) ?_)
            | (at_builtin; (refine wpList_app1 rfl (.tmp 34) (.tmp 39) 38 rfl (w.heap.size + 1) 84 iF _ 7 56 Tryz.underlying38 hiF hzF hsF hbF rfl (by decide) va vc (oo.map Fd.cells) (by rw [List.length_map]; rfl) st2.out.o [.int .i64 x.k, .int .i64 x.af, .int .i64 x.ap, .int .i64 x.bf, .int .i64 x.bp, .int .i64 x.n, .int .i64 x.y] rfl rfl (oneFdL x) (by rw [List.length_map]; have := hLb.out; unfold maxLen; omega) (by rw [List.length_map]; have := hLb.out; omega) (by have := st2.out.lt; omega) ?_); intro va8 vc8 W8 g; (have s8 : Hid (PtS w W8 f (oo ++ [x]) va8 vc8) := st2.out.add g); clear g; rw [List.length_map]))
          go_roundw
          case rel => exact ⟨i + 1, va8, vc8, by omega, by go_num, by rw [hN.out], by rw [hN.out]; simp [List.length_append], by rw [hN.out]; exact s8⟩
          case measure => simp [intOf]; omega
        | false =>
          have hxf : ¬ x = f := fun q => by (have := heH.out.mpr q; cases this)
          have cL : ∀ (wx : World) (R : Bool), Hid (R = decide (cmp3 f x < 0)) → Calls Tryz.prog 101 #[.agg f.cells.toArray, .agg x.cells.toArray] wx fun e w' => e = .returned (.bool R) ∧ Below wx.heap.size wx w' := fun wx R hR => less_any f x wx R hR
          go_wp2_with fail
          refine wp_region_noPanic ?_
          refine wp_region_held_drew (S := fun w' => Below W1.heap.size W1 w') (by kernel_rfl) hS.out (fun _ => ?_)
          refine reg_move (i := 0) rfl (by kernel_rfl) (by kernel_rfl) (by kernel_rfl) (fun _ _ _ _ h => h) rfl (.bool false) (fun _ => rfl) hS.out ?_
          simp only [Act.put, List.getElem_toArray, List.getElem_cons_succ, List.getElem_cons_zero, List.setIfInBounds_toArray, List.set_cons_zero, List.set_cons_succ]
          refine reg_move (i := 1) rfl (by kernel_rfl) (by kernel_rfl) (by kernel_rfl) (fun _ _ _ _ h => h) rfl (.bool true) (fun _ => rfl) hS.out ?_
          simp only [Act.put, List.getElem_toArray, List.getElem_cons_succ, List.getElem_cons_zero, List.setIfInBounds_toArray, List.set_cons_zero, List.set_cons_succ]
          refine reg_move (i := 2) rfl (by kernel_rfl) (by kernel_rfl) (by kernel_rfl) (fun _ _ _ _ h => h) rfl (.bool true) (fun _ => rfl) hS.out ?_
          simp only [Act.put, List.getElem_toArray, List.getElem_cons_succ, List.getElem_cons_zero, List.setIfInBounds_toArray, List.set_cons_zero, List.set_cons_succ]
          refine reg_load (i := 3) rfl (by kernel_rfl) (by kernel_rfl) (by kernel_rfl) (fun _ _ _ _ h => h) rfl 84 _ rfl w.heap.size 0 rfl f.cells _ (fun w' h' => (hr1.out w' h').2) Tryz.underlying84 rfl (infoFd7 f) hS.out ?_
          simp only [Act.put, List.getElem_toArray, List.getElem_cons_succ, List.getElem_cons_zero, List.setIfInBounds_toArray, List.set_cons_zero, List.set_cons_succ]
          refine reg_move (i := 4) rfl (by kernel_rfl) (by kernel_rfl) (by kernel_rfl) (fun _ _ _ _ h => h) rfl (.slice la L.length lc) (fun _ => rfl) hS.out ?_
          simp only [Act.put, List.getElem_toArray, List.getElem_cons_succ, List.getElem_cons_zero, List.setIfInBounds_toArray, List.set_cons_zero, List.set_cons_succ]
          refine reg_move (i := 5) rfl (by kernel_rfl) (by kernel_rfl) (by kernel_rfl) (fun _ _ _ _ h => h) rfl (.int .i64 (i : Int)) (fun _ => rfl) hS.out ?_
          simp only [Act.put, List.getElem_toArray, List.getElem_cons_succ, List.getElem_cons_zero, List.setIfInBounds_toArray, List.set_cons_zero, List.set_cons_succ]
          refine reg_move (i := 6) rfl (by kernel_rfl) (by kernel_rfl) (by kernel_rfl) (fun _ _ _ _ h => h) rfl (.pointer (some ⟨cx, ox, none⟩)) (fun wx => by unfold execOp; exact run_value_of (xx wx)) hS.out ?_
          simp only [Act.put, List.getElem_toArray, List.getElem_cons_succ, List.getElem_cons_zero, List.setIfInBounds_toArray, List.set_cons_zero, List.set_cons_succ]
          refine reg_load (i := 7) rfl (by kernel_rfl) (by kernel_rfl) (by kernel_rfl) (fun _ _ _ _ h => h) rfl 84 _ rfl cx ox rfl x.cells _ (fun w' h' => (hr1.out w' h').1) Tryz.underlying84 rfl (infoFd7 x) hS.out ?_
          simp only [Act.put, List.getElem_toArray, List.getElem_cons_succ, List.getElem_cons_zero, List.setIfInBounds_toArray, List.set_cons_zero, List.set_cons_succ]
          refine reg_call2 (i := 8) (by kernel_rfl) rfl rfl 101 _ _ _ _ rfl (.agg f.cells.toArray) (.agg x.cells.toArray) rfl rfl (cf_fn Tryz.func101 (by kernel_rfl) (by kernel_rfl) _ _) _ (cL _ _ rfl) ?_
          rintro e1 W2 ⟨rfl, hb2⟩
          have st3 : Hid (PtS w W2 f oo va vc) := st2.out.later hb2
          have hS2 : Hid (Below W1.heap.size W1 W2) := bthen hS.out hb2
          refine ⟨_, rfl, hS2.out, fun _ => ?_⟩
          simp only [Act.put, List.getElem_toArray, List.getElem_cons_succ, List.getElem_cons_zero, List.setIfInBounds_toArray, List.set_cons_zero, List.set_cons_succ]
          by_cases hc : cmp3 f x < 0
          · rw [decide_eq_true hc]
            refine reg_move (i := 9) rfl (by kernel_rfl) (by kernel_rfl) (by kernel_rfl) (fun _ _ _ _ h => h) rfl (.bool true) (fun _ => rfl) hS2.out ?_
            simp only [Act.put, List.getElem_toArray, List.getElem_cons_succ, List.getElem_cons_zero, List.setIfInBounds_toArray, List.set_cons_zero, List.set_cons_succ]
            refine wpAnyH_done (by kernel_rfl) (NoPanic.normal ?_) _
            have hN : Hid (pk f L (i + 1) = (oo ++ [f] ++ [x], true)) := by (show _ = _; rw [hm.out]; unfold pstep; rw [if_neg (by simp), if_neg hxf, if_pos hc])
            clear hS hS2 hr1 heH cL st2 hb2 hxf hc
            go_wp2_with (first
              | (refine wpList_load_row rfl 84 _ rfl w.heap.size rfl _ _ _ _ st3.out.f huF.out rfl (infoFd7 f) ?_)
              | (at_builtin; (refine wpList_app1 rfl (.tmp 30) (.tmp 32) 38 rfl (w.heap.size + 1) 84 iF _ 7 56 Tryz.underlying38 hiF hzF hsF hbF rfl (by decide) va vc (oo.map Fd.cells) (by rw [List.length_map]; rfl) st3.out.o [.int .i64 f.k, .int .i64 f.af, .int .i64 f.ap, .int .i64 f.bf, .int .i64 f.bp, .int .i64 f.n, .int .i64 f.y] rfl rfl (oneFdL f) (by rw [List.length_map]; have := hLb.out; unfold maxLen; omega) (by rw [List.length_map]; have := hLb.out; omega) (by have := st3.out.lt; omega) ?_); intro va7 vc7 W7 g; (have s7 : Hid (PtS w W7 f (oo ++ [f]) va7 vc7) := st3.out.add g); clear g; rw [List.length_map]; (have hLb : Hid ((oo ++ [f]).length ≤ 700001) := by (rw [List.length_append]; have := hLb.out; show _ ≤ _; simp; omega)); (have hrW : Hid (W7.rangeAt cx ox x.cells) := hrx.out _ s7.out.b))
              | (refine wpList_load_mid rfl 84 _ rfl cx ox rfl [.int .i64 x.k, .int .i64 x.af, .int .i64 x.ap, .int .i64 x.bf, .int .i64 x.bp, .int .i64 x.n, .int .i64 x.y] _ hrW.out huF.out rfl (infoFd7 x) ?_)
              | (at_builtin; (refine wpList_app1 rfl (.tmp 34) (.tmp 39) 38 rfl (w.heap.size + 1) 84 iF _ 7 56 Tryz.underlying38 hiF hzF hsF hbF rfl (by decide) va7 vc7 ((oo ++ [f]).map Fd.cells) (by rw [List.length_map, List.length_append]; rfl) s7.out.o [.int .i64 x.k, .int .i64 x.af, .int .i64 x.ap, .int .i64 x.bf, .int .i64 x.bp, .int .i64 x.n, .int .i64 x.y] rfl rfl (oneFdL x) (by rw [List.length_map]; have := hLb.out; unfold maxLen; omega) (by rw [List.length_map]; have := hLb.out; omega) (by have := s7.out.lt; omega) ?_); intro va8 vc8 W8 g; (have s8 : Hid (PtS w W8 f ((oo ++ [f]) ++ [x]) va8 vc8) := s7.out.add g); clear g; rw [List.length_map]))
            go_roundw
            case rel => exact ⟨i + 1, va8, vc8, by omega, by go_num, by rw [hN.out], by rw [hN.out]; simp [List.length_append], by rw [hN.out]; exact s8⟩
            case measure => simp [intOf]; omega
          · rw [decide_eq_false hc]
            refine reg_move (i := 9) rfl (by kernel_rfl) (by kernel_rfl) (by kernel_rfl) (fun _ _ _ _ h => h) rfl (.bool false) (fun _ => rfl) hS2.out ?_
            simp only [Act.put, List.getElem_toArray, List.getElem_cons_succ, List.getElem_cons_zero, List.setIfInBounds_toArray, List.set_cons_zero, List.set_cons_succ]
            refine wpAnyH_done (by kernel_rfl) (NoPanic.normal ?_) _
            have hN : Hid (pk f L (i + 1) = (oo ++ [x], false)) := by (show _ = _; rw [hm.out]; unfold pstep; rw [if_neg (by simp), if_neg hxf, if_neg hc])
            clear hS hS2 hr1 heH cL st2 hb2 hxf hc
            have hrW : Hid (W2.rangeAt cx ox x.cells) := hrx.out _ st3.out.b
            go_wp2_with (first
              | (refine wpList_load_mid rfl 84 _ rfl cx ox rfl [.int .i64 x.k, .int .i64 x.af, .int .i64 x.ap, .int .i64 x.bf, .int .i64 x.bp, .int .i64 x.n, .int .i64 x.y] _ hrW.out huF.out rfl (infoFd7 x) ?_)
              | (at_builtin; (refine wpList_app1 rfl (.tmp 34) (.tmp 39) 38 rfl (w.heap.size + 1) 84 iF _ 7 56 Tryz.underlying38 hiF hzF hsF hbF rfl (by decide) va vc (oo.map Fd.cells) (by rw [List.length_map]; rfl) st3.out.o [.int .i64 x.k, .int .i64 x.af, .int .i64 x.ap, .int .i64 x.bf, .int .i64 x.bp, .int .i64 x.n, .int .i64 x.y] rfl rfl (oneFdL x) (by rw [List.length_map]; have := hLb.out; unfold maxLen; omega) (by rw [List.length_map]; have := hLb.out; omega) (by have := st3.out.lt; omega) ?_); intro va8 vc8 W8 g; (have s8 : Hid (PtS w W8 f (oo ++ [x]) va8 vc8) := st3.out.add g); clear g; rw [List.length_map]))
            go_roundw
            case rel => exact ⟨i + 1, va8, vc8, by omega, by go_num, by rw [hN.out], by rw [hN.out]; simp [List.length_append], by rw [hN.out]; exact s8⟩
            case measure => simp [intOf]; omega
    · have hie : i = L.length := by omega
      subst hie
      have hLb : Hid ((pk f L L.length).1.length ≤ 700000) := by (have := pk_len f L L.length; show _ ≤ _; split at this <;> omega)
      obtain ⟨⟨oo, d⟩, hpk⟩ : ∃ s, pk f L L.length = s := ⟨_, rfl⟩
      rw [hpk] at st hLb hend ⊢
      dsimp only at st hLb hend
      clear hpk
      cases d with
      | true =>
        have hE : Hid (putF f L = oo) := by (have := hend.out; rw [if_pos rfl, List.append_nil] at this; exact this)
        clear hend
        go_wp2
        go_ret
        exact ⟨va, vc, by rw [hE.out]; rfl, by rw [hE.out]; exact own_mono_q st.out.o (Nat.le_succ _), st.out.b⟩
      | false =>
        have hE : Hid (putF f L = oo ++ [f]) := by (have := hend.out; rw [if_neg (by simp)] at this; exact this)
        clear hend
        go_wp2_with (first
          | (refine wpList_load_row rfl 84 _ rfl w.heap.size rfl _ _ _ _ st.out.f huF.out rfl (infoFd7 f) ?_)
          | (at_builtin; (refine wpList_app1 rfl (.tmp 43) (.tmp 45) 38 rfl (w.heap.size + 1) 84 iF _ 7 56 Tryz.underlying38 hiF hzF hsF hbF rfl (by decide) va vc (oo.map Fd.cells) (by rw [List.length_map]; rfl) st.out.o [.int .i64 f.k, .int .i64 f.af, .int .i64 f.ap, .int .i64 f.bf, .int .i64 f.bp, .int .i64 f.n, .int .i64 f.y] rfl rfl (oneFdL f) (by rw [List.length_map]; have := hLb.out; unfold maxLen; omega) (by rw [List.length_map]; have := hLb.out; omega) (by have := st.out.lt; omega) ?_); intro va8 vc8 W8 g; (have s8 : Hid (PtS w W8 f (oo ++ [f]) va8 vc8) := st.out.add g); clear g; rw [List.length_map]))
        go_ret
        exact ⟨va8, vc8, by rw [hE.out]; simp [List.length_append], by rw [hE.out]; exact own_mono_q s8.out.o (Nat.le_succ _), s8.out.b⟩
end Go.Proofs.YtafefnkgdnmjbaaGreatDoor.pg
/- Programs and traces that are not right: the document's Fit; package race's Races of them; two lists of what is found compared. -/
namespace Go.Proofs.YtafefnkgdnmjbaaGreatDoor.pg
open Go.ChangeShapes Go.WideShapes Go.ChangeAt Go.RowKit Go.Shelf
set_option linter.unusedVariables false
set_option linter.unusedSimpArgs false
set_option maxRecDepth 100000
attribute [local go_sem] Oper.semAt_some
attribute [local go_sem ↓] Go.wp_at_zero Go.wp_at_succ
theorem p4 {w : World} {B : Nat} {M : MPr} (h : w.heap[B]? = some (objP M)) : w.cell? ⟨B, 0, none⟩ = some (.slice M.va M.vars.length M.vcap) ∧ w.cell? ⟨B, 1, none⟩ = some (.int .i64 M.locks) ∧ w.cell? ⟨B, 2, none⟩ = some (.slice M.cha M.chans.length M.chcap) ∧ w.cell? ⟨B, 3, none⟩ = some (.slice M.fa M.fns.length M.fcap) := ⟨cell_of (k := 0) h rfl, cell_of (k := 1) h rfl, cell_of (k := 2) h rfl, cell_of (k := 3) h rfl⟩
set_option maxHeartbeats 2000000 in
theorem races_prog (M : MPr) (la : Option Addr) (ln lc : Nat) (w : World) (hM : M.lies w) (hF : prog.Forms w) (a b c : Int) (ha : a ≠ 0) (hr : chk insP M.pr = (a, b, c)) : Calls Tryz.prog 15 #[M.val, .slice la ln lc] w fun e w' => e = .returned (.tuple #[.slice none 0 0, .int .i64 3]) ∧ Below w.heap.size w w' := by
  have cO : ∀ wx, Below w.heap.size w wx → Calls Tryz.prog 44 #[M.val] wx fun e w' => e = .returned (.tuple #[.agg (boolRow 8 fun _ => false), .int .i64 3]) ∧ Below wx.heap.size wx w' := fun wx hb => plainOf_bad M wx (hM.later hb) (hF.later hb) a b c ha hr
  have hzV : Hid (∀ w, (zeroValue 86).run Tryz.prog w = .ok (.agg (boolRow 8 fun _ => false)) w) := zeroPl
  clear hM hF hr ha
  refine (callsIn_wide (n := 3)).1 ?_
  refine callsIn_of_wp_marks Tryz.func15 rfl trivial ?_ rfl
  simp only [Tryz.ntmps15, List.size_toArray, List.length_cons, List.length_nil, Nat.reduceAdd, Nat.reduceSub, Array.replicate_succ, Array.replicate_zero, List.push_toArray, List.append_toArray, List.nil_append, List.cons_append]
  refine wpIn_wide.2 ?_
  go_wp2_with (first
    | (refine wpList_alloc_big rfl 86 rfl hzV.out ?_)
    | (go_at_call 44; (with_reducible refine (cO _ (boxed _ _)).mono ?_); rintro e w1 ⟨rfl, hb1⟩; (have hB1 : Hid (Below w.heap.size w w1) := bthen (boxed _ _) hb1); clear hb1)
    | (refine wpList_store_row rfl 86 _ _ rfl w1.heap.size (boolRow 8 fun _ => false) rfl rfl _ _ (heap_alloc_new _ _) (infoPl _) rfl (boolRow_one _ _) ?_; (have hB2 : Hid (Below w.heap.size w ((w1.alloc (objV fun _ => false)).setRow w1.heap.size (boolRow 8 fun _ => false))) := below_setRow (bthen hB1.out (boxed _ _)) hB1.out.size _)))
  refine leaves_marksR (n₀ := w.heap.size) [] _ (MarksR.nil _ _) fun W' hk => ?_
  exact ⟨_, results_tmp2 Tryz.results15 _ _ _, rfl, hB2.out.trans hk.b⟩
set_option maxHeartbeats 2000000 in
theorem races_badT (M : MPr) (l : List Ev) (la : Option Addr) (lc : Nat) (w : World) (hM : M.lies w) (hF : prog.Forms w) (b c : Int) (hr : chk insP M.pr = (0, b, c)) (hl : Rows w 26 la lc (l.map Ev.cells)) (d : Int) (hc : checkP l d) (h0 : d = 2 ∨ d = 7) : Calls Tryz.prog 15 #[M.val, .slice la l.length lc] w fun e w' => e = .returned (.tuple #[.slice none 0 0, .int .i64 d]) ∧ Below w.heap.size w w' := by
  have cO : ∀ wx, Below w.heap.size w wx → Calls Tryz.prog 44 #[M.val] wx fun e w' => e = .returned (.tuple #[.agg (boolRow 8 (plV M.vars)), .int .i64 0]) ∧ Below wx.heap.size wx w' := fun wx hb => plainOf_ok M wx (hM.later hb) (hF.later hb) b c hr
  have cP : ∀ wx, Below w.heap.size w wx → Calls Tryz.prog 9 #[.slice la l.length lc] wx fun e w' => e = .returned (.tuple #[.slice none 0 0, .int .i64 d]) ∧ Below wx.heap.size wx w' := fun wx hb => pairs_bad l la lc wx (hl.later hb) d hc h0
  have hzV : Hid (∀ w, (zeroValue 86).run Tryz.prog w = .ok (.agg (boolRow 8 fun _ => false)) w) := zeroPl
  clear hM hF hr hl hc
  generalize plV M.vars = v at *
  rcases h0 with rfl | rfl
  all_goals
    refine (callsIn_wide (n := 3)).1 ?_
    refine callsIn_of_wp_marks Tryz.func15 rfl trivial ?_ rfl
    simp only [Tryz.ntmps15, List.size_toArray, List.length_cons, List.length_nil, Nat.reduceAdd, Nat.reduceSub, Array.replicate_succ, Array.replicate_zero, List.push_toArray, List.append_toArray, List.nil_append, List.cons_append]
    refine wpIn_wide.2 ?_
    go_wp2_with (first
      | (refine wpList_alloc_big rfl 86 rfl hzV.out ?_)
      | (go_at_call 44; (with_reducible refine (cO _ (boxed _ _)).mono ?_); rintro e w1 ⟨rfl, hb1⟩; (have hB1 : Hid (Below w.heap.size w w1) := bthen (boxed _ _) hb1); clear hb1)
      | (refine wpList_store_row rfl 86 _ _ rfl w1.heap.size (boolRow 8 v) rfl rfl _ _ (heap_alloc_new _ _) (infoPl _) (by rw [boolRow_size, boolRow_size]) (boolRow_one _ _) ?_; (obtain ⟨W2, hW2⟩ : ∃ W2, W2 = (w1.alloc (objV fun _ => false)).setRow w1.heap.size (boolRow 8 v) := ⟨_, rfl⟩); rw [← hW2]; (have hB2 : Hid (Below w.heap.size w W2) := by (rw [hW2]; exact below_setRow (bthen hB1.out (boxed _ _)) hB1.out.size _)); clear hW2)
      | (go_at_call 9; (with_reducible refine (cP _ hB2.out).mono ?_); rintro e w3 ⟨rfl, hb3⟩; (have hB3 : Hid (Below w.heap.size w w3) := bthen hB2.out hb3); clear hb3))
    refine leaves_marksR (n₀ := w.heap.size) [] _ (MarksR.nil _ _) fun W' hk => ?_
    exact ⟨_, results_tmp2 Tryz.results15 _ _ _, rfl, hB3.out.trans hk.b⟩
set_option maxHeartbeats 2000000 in
theorem sameFounds_any (L : List Fd) (hL : L.length ≤ 1000000) (hwf : ∀ x ∈ L, x.wf) (a b : Option Addr) (ac bc : Nat) (w : World) (ha : Rows w 7 a ac (L.map Fd.cells)) (hb : Rows w 7 b bc (L.map Fd.cells)) :
    Calls Tryz.prog 17 #[.slice a L.length ac, .slice b L.length bc] w fun e w' => e = .returned (.bool true) ∧ Below w.heap.size w w' := by
  have haH : Hid (Rows w 7 a ac (L.map Fd.cells)) := ha
  have hbH : Hid (Rows w 7 b bc (L.map Fd.cells)) := hb
  have hLI : (L.length : Int) ≤ 1000000 := by omega
  have hwH : Hid (∀ x ∈ L, x.wf) := hwf
  clear ha hb hwf
  go_enter Tryz.func17, Tryz.ntmps17
  go_wp2
  go_loopw [13] (fun u wr => ∃ i : Nat, i ≤ L.length ∧ u = .int .i64 (i : Int) ∧ Hid (Below w.heap.size w wr)) (fun u _ => L.length - (intOf u).toNat)
  case atStart => exact ⟨0, Nat.zero_le _, rfl, Below.refl _ _⟩
  case round =>
    obtain ⟨i, hi, rfl, hs⟩ := hrel
    by_cases hlt : i < L.length
    · have hiI : (i : Int) < L.length := by omega
      obtain ⟨p, hp⟩ : ∃ p, L[i]? = some p := ⟨_, List.getElem?_eq_getElem hlt⟩
      obtain ⟨c, q, xa, hc, ra⟩ := fd_at (haH.out.later hs.out) hp
      obtain ⟨d, t, xb, hd, rb⟩ := fd_at (hbH.out.later hs.out) hp
      have hF : Hid (∀ w', Below wr.heap.size wr w' → w'.rangeAt c q p.cells ∧ w'.rangeAt d t p.cells) := fun w' h => ⟨range_block ra (h.block c hc), range_block rb (h.block d hd)⟩
      have hS : Hid (Below wr.heap.size wr wr.drew) := bey_drew wr
      have hs2 : Hid (Below w.heap.size w wr.drew) := bthen hs.out (bey_drew wr)
      have hpw : Hid p.wf := hwH.out p (List.mem_of_getElem? hp)
      have hev := fun o q wx => neR_fd hpw.out hpw.out false (by simp) o q wx
      clear ra rb hc hd hs hp
      go_wp2_with fail
      refine wp_region_noPanic ?_
      refine wp_region_held_drew (S := fun w' => Below wr.heap.size wr w') (by kernel_rfl) hS.out (fun _ => ?_)
      refine reg_move (i := 0) rfl (by kernel_rfl) (by kernel_rfl) (by kernel_rfl) (fun _ _ _ _ h => h) rfl (.slice a L.length ac) (fun _ => rfl) hS.out ?_
      simp only [Act.put, List.getElem_toArray, List.getElem_cons_succ, List.getElem_cons_zero, List.setIfInBounds_toArray, List.set_cons_zero, List.set_cons_succ]
      refine reg_move (i := 1) rfl (by kernel_rfl) (by kernel_rfl) (by kernel_rfl) (fun _ _ _ _ h => h) rfl (.int .i64 (i : Int)) (fun _ => rfl) hS.out ?_
      simp only [Act.put, List.getElem_toArray, List.getElem_cons_succ, List.getElem_cons_zero, List.setIfInBounds_toArray, List.set_cons_zero, List.set_cons_succ]
      refine reg_move (i := 2) rfl (by kernel_rfl) (by kernel_rfl) (by kernel_rfl) (fun _ _ _ _ h => h) rfl (.pointer (some ⟨c, q, none⟩)) (fun wx => by unfold execOp; exact run_value_of (xa wx)) hS.out ?_
      simp only [Act.put, List.getElem_toArray, List.getElem_cons_succ, List.getElem_cons_zero, List.setIfInBounds_toArray, List.set_cons_zero, List.set_cons_succ]
      refine reg_load (i := 3) rfl (by kernel_rfl) (by kernel_rfl) (by kernel_rfl) (fun _ _ _ _ h => h) rfl 84 _ rfl c q rfl p.cells _ (fun w' h' => (hF.out w' h').1) Tryz.underlying84 rfl (infoFd7 p) hS.out ?_
      simp only [Act.put, List.getElem_toArray, List.getElem_cons_succ, List.getElem_cons_zero, List.setIfInBounds_toArray, List.set_cons_zero, List.set_cons_succ]
      refine reg_move (i := 4) rfl (by kernel_rfl) (by kernel_rfl) (by kernel_rfl) (fun _ _ _ _ h => h) rfl (.slice b L.length bc) (fun _ => rfl) hS.out ?_
      simp only [Act.put, List.getElem_toArray, List.getElem_cons_succ, List.getElem_cons_zero, List.setIfInBounds_toArray, List.set_cons_zero, List.set_cons_succ]
      refine reg_move (i := 5) rfl (by kernel_rfl) (by kernel_rfl) (by kernel_rfl) (fun _ _ _ _ h => h) rfl (.int .i64 (i : Int)) (fun _ => rfl) hS.out ?_
      simp only [Act.put, List.getElem_toArray, List.getElem_cons_succ, List.getElem_cons_zero, List.setIfInBounds_toArray, List.set_cons_zero, List.set_cons_succ]
      refine reg_move (i := 6) rfl (by kernel_rfl) (by kernel_rfl) (by kernel_rfl) (fun _ _ _ _ h => h) rfl (.pointer (some ⟨d, t, none⟩)) (fun wx => by unfold execOp; exact run_value_of (xb wx)) hS.out ?_
      simp only [Act.put, List.getElem_toArray, List.getElem_cons_succ, List.getElem_cons_zero, List.setIfInBounds_toArray, List.set_cons_zero, List.set_cons_succ]
      refine reg_load (i := 7) rfl (by kernel_rfl) (by kernel_rfl) (by kernel_rfl) (fun _ _ _ _ h => h) rfl 84 _ rfl d t rfl p.cells _ (fun w' h' => (hF.out w' h').2) Tryz.underlying84 rfl (infoFd7 p) hS.out ?_
      simp only [Act.put, List.getElem_toArray, List.getElem_cons_succ, List.getElem_cons_zero, List.setIfInBounds_toArray, List.set_cons_zero, List.set_cons_succ]
      refine reg_move (i := 8) rfl (by kernel_rfl) (by kernel_rfl) (by kernel_rfl) (fun _ _ _ _ h => h) rfl (.bool false) (fun wx => by unfold execOp; exact run_value_of (hev _ _ wx)) hS.out ?_
      simp only [Act.put, List.getElem_toArray, List.getElem_cons_succ, List.getElem_cons_zero, List.setIfInBounds_toArray, List.set_cons_zero, List.set_cons_succ]
      refine wpAnyH_done (by kernel_rfl) (NoPanic.normal ?_) _
      clear hS hF hev xa xb
      generalize wr.drew = W1 at *
      go_wp2
      go_roundw
      case rel => exact ⟨i + 1, by omega, by go_num, hs2⟩
      case measure => simp [intOf]; omega
    · have hie : i = L.length := by omega
      subst hie
      go_wp2
      go_ret
      exact ⟨rfl, hs.out⟩
end Go.Proofs.YtafefnkgdnmjbaaGreatDoor.pg
