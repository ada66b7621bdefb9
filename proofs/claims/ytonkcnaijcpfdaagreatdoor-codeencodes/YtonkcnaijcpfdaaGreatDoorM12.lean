/- The writer of package code: variables, cases, and lists of them. -/
import Derived.Test.YtonkcnaijcpfdaaGreatDoorM11
import Derived.Test.YtonkcnaijcpfdaaGreatDoorM4
namespace Go.Proofs.YtonkcnaijcpfdaaGreatDoor.pg
open Go.ChangeShapes Go.WideShapes Go.ChangeAt Go.RowKit
set_option linter.unusedVariables false
set_option linter.unusedSimpArgs false
set_option maxRecDepth 100000
def varB (v : Vr) : List Nat := flagB v.atomic ++ sgnB v.init
def casB (c : Cas) : List Nat := flagB c.send ++ (putB c.ch.toNat ++ (putB (c.reg + 1).toNat ++ putB c.to.toNat))
def chB (x : Int) : List Nat := putB x.toNat
theorem take_flat {α : Type} (f : α → List Nat) (l : List α) (k : Nat) : ((l.take k).flatMap f).length ≤ (l.flatMap f).length := by
  conv => rhs; rw [← List.take_append_drop k l]
  rw [List.flatMap_append, List.length_append]; omega
theorem take_flat_one {α : Type} (f : α → List Nat) (l : List α) (k : Nat) (x : α) (h : l[k]? = some x) : (l.take (k + 1)).flatMap f = (l.take k).flatMap f ++ f x := by
  rw [take_one l k x h, List.flatMap_append]; simp
abbrev objVr (x : Vr) : Obj := .cells #[.bool x.atomic, .int .i64 x.init] 75
section
variable {w : World} {lo g : Nat} {out : List Nat} {s1 s2 s3 : Value}
theorem variable_w (h : WOut w lo g out s1 s2 s3) (x : Vr) (hx : I64 x.init) (hn : out.length + (varB x).length ≤ 1000000000) :
    Wr lo g s1 s2 s3 51 #[.pointer (some ⟨g, 0, none⟩), .agg #[.bool x.atomic, .int .i64 x.init]] w (varB x) out := by
  have hb := boxed w (objVr x)
  have hbx : (w.alloc (objVr x)).heap[w.heap.size]? = some (objVr x) := heap_alloc_new _ _
  have hl := h.1
  rw [varB, List.length_append] at hn
  have c1 : Calls Tryz.prog 81 #[.pointer (some ⟨g, 0, none⟩), .bool x.atomic] (w.alloc (objVr x)) _ := flag_w (h.later hb) x.atomic (by omega)
  have c2 : ∀ w1, WOut w1 lo g (out ++ flagB x.atomic) s1 s2 s3 → Calls Tryz.prog 82 #[.pointer (some ⟨g, 0, none⟩), .int .i64 x.init] w1 _ := fun w1 h1 => signed_w h1 x.init hx (by rw [List.length_append]; omega)
  have hlw : Below lo w (w.alloc (objVr x)) := (hb.mono hl)
  unfold Wr
  go_enter Tryz.func51, Tryz.ntmps51
  go_wp2_with (first
    | (go_at_call 81; (with_reducible refine c1.mono ?_); rintro e w1 ⟨rfl, h1, hb1, ho1⟩; (have q := ho1 _ _ _ _ hbx (by decide) (by decide)); (have q0 := whole_cell q 0 _ rfl); (have q1 := whole_cell q 1 _ rfl))
    | (go_at_call 82; (with_reducible refine (c2 _ h1).mono ?_); rintro e w2 ⟨rfl, h2, hb2, ho2⟩))
  go_end0
  exact ⟨rfl, by rw [varB, ← List.append_assoc]; exact h2, (hlw.trans hb1).trans hb2, ((Oth.of hb).trans ho1).trans ho2⟩
set_option maxHeartbeats 4000000 in
theorem each_Var (h : WOut w lo g out s1 s2 s3) (l : List Vr) (a : Option Addr) (cap : Nat) (hr : ∀ wx, Below lo w wx → Rows wx 2 a cap (l.map Vr.cells)) (hw : ∀ x ∈ l, I64 x.init) (hn : out.length + ((putB l.length).length + (l.flatMap varB).length) ≤ 1000000000) :
    Wr lo g s1 s2 s3 50 #[.pointer (some ⟨g, 0, none⟩), .slice a l.length cap, .func (.func 51) #[.pointer (some ⟨g, 0, none⟩)] #[]] w (putB l.length ++ l.flatMap varB) out := by
  have hlI : (l.length : Int) ≤ 9223372036854775807 := rows_len (hr w (Below.refl _ _))
  have hl := h.1
  have c1 : Calls Tryz.prog 52 #[.pointer (some ⟨g, 0, none⟩), .int .i64 (l.length : Int)] w _ := number_w h l.length hlI (by omega)
  unfold Wr
  go_enter Tryz.func50, Tryz.ntmps50
  go_wp2_with (go_at_call 52; (with_reducible refine c1.mono ?_); rintro e w1 ⟨rfl, h1, hb1, ho1⟩)
  go_loopw [14] (fun u wr => ∃ j : Nat, j ≤ l.length ∧ u = .int .i64 j ∧ WOut wr lo g (out ++ putB l.length ++ (l.take j).flatMap varB) s1 s2 s3 ∧ Below lo w wr ∧ Oth w wr) (fun u _ => l.length - (intOf u).toNat)
  case atStart => exact ⟨0, Nat.zero_le _, rfl, by simpa using h1, hb1, ho1⟩
  case round =>
    clear h1 hb1 ho1 c1
    obtain ⟨j, hj, rfl, h1, hb1, ho1⟩ := hrel
    by_cases hlt : j < l.length
    · obtain ⟨x, hx, hxm⟩ := get_lt l j hlt
      obtain ⟨bb, o, hix, hbl, c0, c1⟩ := vr_ix (hr wr hb1) j x hx
      have hjI : (j : Int) < l.length := by omega
      have hfl := take_flat varB l (j + 1)
      rw [take_flat_one varB l j x hx, List.length_append] at hfl
      have hF : Hid ((l.take (j + 1)).flatMap varB = (l.take j).flatMap varB ++ varB x) := take_flat_one varB l j x hx
      have c2 : Calls Tryz.prog 51 #[.pointer (some ⟨g, 0, none⟩), .agg #[.bool x.atomic, .int .i64 x.init]] (wr.alloc (objVr x)) _ := variable_w (h1.later (boxed _ _)) x (hw x hxm) (by simp only [List.length_append] at *; omega)
      have hbb := boxed wr (objVr x)
      have hlo : Hid (lo ≤ wr.heap.size) := h1.1
      clear hfl h1
      go_wp2_with (go_at_call 51; (with_reducible refine c2.mono ?_); rintro e w2 ⟨rfl, h2, hb2, ho2⟩)
      go_roundw
      case rel => exact ⟨j + 1, by omega, by go_num, by rw [hF.out, ← List.append_assoc]; exact h2, (hb1.trans (hbb.mono hlo.out)).trans hb2, (ho1.trans (Oth.of hbb)).trans ho2⟩
      case measure => simp [intOf]; omega
    · have hj2 : j = l.length := by omega
      subst hj2
      rw [List.take_length] at h1
      go_wp2
      go_end0
      exact ⟨rfl, by rw [← List.append_assoc]; exact h1, hb1, ho1⟩
theorem nat_num {x : Int} (h0 : 0 ≤ x) : ((x.toNat : Nat) : Int) = x := by omega
theorem number_i (h : WOut w lo g out s1 s2 s3) (x : Int) (h0 : 0 ≤ x) (hx : x ≤ 9223372036854775807) (hn : out.length + (putB x.toNat).length ≤ 1000000000) : Wr lo g s1 s2 s3 52 #[.pointer (some ⟨g, 0, none⟩), .int .i64 x] w (putB x.toNat) out := by
  have := number_w h x.toNat (by omega) (by omega)
  rwa [nat_num h0] at this
theorem branch_w (h : WOut w lo g out s1 s2 s3) (x : Cas) (hx : (0 ≤ x.ch ∧ x.ch ≤ 1000) ∧ (-1 ≤ x.reg ∧ x.reg ≤ 1000) ∧ (0 ≤ x.to ∧ x.to ≤ 1000)) (hn : out.length + (casB x).length ≤ 1000000000) :
    Wr lo g s1 s2 s3 114 #[.pointer (some ⟨g, 0, none⟩), .agg #[.bool x.send, .int .i64 x.ch, .int .i64 x.reg, .int .i64 x.to]] w (casB x) out := by
  have hb := boxed w (objC x)
  have hbx : (w.alloc (objC x)).heap[w.heap.size]? = some (objC x) := heap_alloc_new _ _
  have hl := h.1
  obtain ⟨⟨hx1, hx2⟩, ⟨hx3, hx4⟩, hx5, hx6⟩ := hx
  rw [casB, List.length_append, List.length_append, List.length_append] at hn
  have c1 : Calls Tryz.prog 81 #[.pointer (some ⟨g, 0, none⟩), .bool x.send] (w.alloc (objC x)) _ := flag_w (h.later hb) x.send (by omega)
  have c2 : ∀ w1, WOut w1 lo g (out ++ flagB x.send) s1 s2 s3 → Calls Tryz.prog 52 #[.pointer (some ⟨g, 0, none⟩), .int .i64 x.ch] w1 _ := fun w1 h1 => number_i h1 x.ch hx1 (by omega) (by rw [List.length_append]; omega)
  have c3 : ∀ w1, WOut w1 lo g (out ++ flagB x.send ++ putB x.ch.toNat) s1 s2 s3 → Calls Tryz.prog 52 #[.pointer (some ⟨g, 0, none⟩), .int .i64 (x.reg + 1)] w1 _ := fun w1 h1 => number_i h1 (x.reg + 1) (by omega) (by omega) (by rw [List.length_append, List.length_append]; omega)
  have c4 : ∀ w1, WOut w1 lo g (out ++ flagB x.send ++ putB x.ch.toNat ++ putB (x.reg + 1).toNat) s1 s2 s3 → Calls Tryz.prog 52 #[.pointer (some ⟨g, 0, none⟩), .int .i64 x.to] w1 _ := fun w1 h1 => number_i h1 x.to hx5 (by omega) (by rw [List.length_append, List.length_append, List.length_append]; omega)
  have hlw : Below lo w (w.alloc (objC x)) := (hb.mono hl)
  unfold Wr
  go_enter Tryz.func114, Tryz.ntmps114
  go_wp2_with (first
    | (go_at_call 81; (with_reducible refine c1.mono ?_); rintro e w1 ⟨rfl, h1, hb1, ho1⟩; (have q := ho1 _ _ _ _ hbx (by decide) (by decide)); (have q0 := whole_cell q 0 _ rfl); (have q1 := whole_cell q 1 _ rfl); (have q2 := whole_cell q 2 _ rfl); (have q3 := whole_cell q 3 _ rfl))
    | (go_at_call 52; (with_reducible refine (c2 _ h1).mono ?_); rintro e w2 ⟨rfl, h2, hb2, ho2⟩; (have r := ho2 _ _ _ _ q (by decide) (by decide)); (have r0 := whole_cell r 0 _ rfl); (have r1 := whole_cell r 1 _ rfl); (have r2 := whole_cell r 2 _ rfl); (have r3 := whole_cell r 3 _ rfl))
    | (go_at_call 52; (with_reducible refine (c3 _ h2).mono ?_); rintro e w3 ⟨rfl, h3, hb3, ho3⟩; (have t := ho3 _ _ _ _ r (by decide) (by decide)); (have t0 := whole_cell t 0 _ rfl); (have t1 := whole_cell t 1 _ rfl); (have t2 := whole_cell t 2 _ rfl); (have t3 := whole_cell t 3 _ rfl))
    | (go_at_call 52; (with_reducible refine (c4 _ h3).mono ?_); rintro e w4 ⟨rfl, h4, hb4, ho4⟩))
  go_end0
  exact ⟨rfl, by rw [casB]; simpa only [List.append_assoc] using h4, (((hlw.trans hb1).trans hb2).trans hb3).trans hb4, ((((Oth.of hb).trans ho1).trans ho2).trans ho3).trans ho4⟩
set_option maxHeartbeats 4000000 in
theorem each_Case (h : WOut w lo g out s1 s2 s3) (l : List Cas) (a : Option Addr) (cap : Nat) (hr : ∀ wx, Below lo w wx → Rows wx 4 a cap (l.map Cas.cells)) (hw : ∀ x ∈ l, (0 ≤ x.ch ∧ x.ch ≤ 1000) ∧ (-1 ≤ x.reg ∧ x.reg ≤ 1000) ∧ (0 ≤ x.to ∧ x.to ≤ 1000)) (hn : out.length + ((putB l.length).length + (l.flatMap casB).length) ≤ 1000000000) :
    Wr lo g s1 s2 s3 113 #[.pointer (some ⟨g, 0, none⟩), .slice a l.length cap, .func (.func 114) #[.pointer (some ⟨g, 0, none⟩)] #[]] w (putB l.length ++ l.flatMap casB) out := by
  have hlI : (l.length : Int) ≤ 9223372036854775807 := rows_len (hr w (Below.refl _ _))
  have hl := h.1
  have c1 : Calls Tryz.prog 52 #[.pointer (some ⟨g, 0, none⟩), .int .i64 (l.length : Int)] w _ := number_w h l.length hlI (by omega)
  unfold Wr
  go_enter Tryz.func113, Tryz.ntmps113
  go_wp2_with (go_at_call 52; (with_reducible refine c1.mono ?_); rintro e w1 ⟨rfl, h1, hb1, ho1⟩)
  go_loopw [14] (fun u wr => ∃ j : Nat, j ≤ l.length ∧ u = .int .i64 j ∧ WOut wr lo g (out ++ putB l.length ++ (l.take j).flatMap casB) s1 s2 s3 ∧ Below lo w wr ∧ Oth w wr) (fun u _ => l.length - (intOf u).toNat)
  case atStart => exact ⟨0, Nat.zero_le _, rfl, by simpa using h1, hb1, ho1⟩
  case round =>
    clear h1 hb1 ho1 c1
    obtain ⟨j, hj, rfl, h1, hb1, ho1⟩ := hrel
    by_cases hlt : j < l.length
    · obtain ⟨x, hx, hxm⟩ := get_lt l j hlt
      obtain ⟨bb, o, hix, hbl, c0, c1, c2, c3⟩ := cas_ix (hr wr hb1) j x hx
      have hjI : (j : Int) < l.length := by omega
      have hfl := take_flat casB l (j + 1)
      rw [take_flat_one casB l j x hx, List.length_append] at hfl
      have hF : Hid ((l.take (j + 1)).flatMap casB = (l.take j).flatMap casB ++ casB x) := take_flat_one casB l j x hx
      have cc : Calls Tryz.prog 114 #[.pointer (some ⟨g, 0, none⟩), .agg #[.bool x.send, .int .i64 x.ch, .int .i64 x.reg, .int .i64 x.to]] (wr.alloc (objC x)) _ := branch_w (h1.later (boxed _ _)) x (hw x hxm) (by simp only [List.length_append] at *; omega)
      have hbb := boxed wr (objC x)
      have hlo : Hid (lo ≤ wr.heap.size) := h1.1
      clear hfl h1
      go_wp2_with (go_at_call 114; (with_reducible refine cc.mono ?_); rintro e w2 ⟨rfl, h2, hb2, ho2⟩)
      go_roundw
      case rel => exact ⟨j + 1, by omega, by go_num, by rw [hF.out, ← List.append_assoc]; exact h2, (hb1.trans (hbb.mono hlo.out)).trans hb2, (ho1.trans (Oth.of hbb)).trans ho2⟩
      case measure => simp [intOf]; omega
    · have hj2 : j = l.length := by omega
      subst hj2
      rw [List.take_length] at h1
      go_wp2
      go_end0
      exact ⟨rfl, by rw [← List.append_assoc]; exact h1, hb1, ho1⟩
end
end Go.Proofs.YtonkcnaijcpfdaaGreatDoor.pg
/- The writer of package code: numbers, selects, and lists of them. -/
namespace Go.Proofs.YtonkcnaijcpfdaaGreatDoor.pg
open Go.ChangeShapes Go.WideShapes Go.ChangeAt Go.RowKit
set_option linter.unusedVariables false
set_option linter.unusedSimpArgs false
set_option maxRecDepth 100000
def selB (s : Sel) : List Nat := putB s.cases.length ++ s.cases.flatMap casB ++ putB (s.els + 1).toNat
abbrev casOk (x : Cas) : Prop := (0 ≤ x.ch ∧ x.ch ≤ 1000) ∧ (-1 ≤ x.reg ∧ x.reg ≤ 1000) ∧ (0 ≤ x.to ∧ x.to ≤ 1000)
section
variable {w : World} {lo g : Nat} {out : List Nat} {s1 s2 s3 : Value}
theorem choice_w (h : WOut w lo g out s1 s2 s3) (x : MSel) (hx : (∀ c ∈ x.cases, casOk c) ∧ -1 ≤ x.els ∧ x.els ≤ 1000) (hr : ∀ wx, Below lo w wx → Rows wx 4 x.at_ x.cap (x.cases.map Cas.cells)) (hn : out.length + (selB x.sel).length ≤ 1000000000) :
    Wr lo g s1 s2 s3 85 #[.pointer (some ⟨g, 0, none⟩), .agg #[.slice x.at_ x.cases.length x.cap, .int .i64 x.els]] w (selB x.sel) out := by
  have hb := boxed w (objS x)
  have hbx : (w.alloc (objS x)).heap[w.heap.size]? = some (objS x) := heap_alloc_new _ _
  have hl := h.1
  have hlw : Below lo w (w.alloc (objS x)) := (hb.mono hl)
  have hB : Hid (selB x.sel = putB x.cases.length ++ x.cases.flatMap casB ++ putB (x.els + 1).toNat) := rfl
  rw [hB.out, List.length_append, List.length_append] at hn
  have c1 : Calls Tryz.prog 113 #[.pointer (some ⟨g, 0, none⟩), .slice x.at_ x.cases.length x.cap, .func (.func 114) #[.pointer (some ⟨g, 0, none⟩)] #[]] (w.alloc (objS x)) _ := each_Case (h.later hb) x.cases x.at_ x.cap (fun wx hx => hr wx (hlw.trans hx)) hx.1 (by omega)
  have c2 : ∀ w1, WOut w1 lo g (out ++ (putB x.cases.length ++ x.cases.flatMap casB)) s1 s2 s3 → Calls Tryz.prog 52 #[.pointer (some ⟨g, 0, none⟩), .int .i64 (x.els + 1)] w1 _ := fun w1 h1 => number_i h1 (x.els + 1) (by omega) (by omega) (by rw [List.length_append, List.length_append]; omega)
  have hx1 := hx.2.1
  have hx2 := hx.2.2
  clear hx hr hn
  unfold Wr
  go_enter Tryz.func85, Tryz.ntmps85
  go_wp2_with (first
    | (go_at_call 113; (with_reducible refine c1.mono ?_); rintro e w1 ⟨rfl, h1, hb1, ho1⟩; (have q := ho1 _ _ _ _ hbx (by decide) (by decide)); (have q0 := whole_cell q 0 _ rfl); (have q1 := whole_cell q 1 _ rfl))
    | (go_at_call 52; (with_reducible refine (c2 _ h1).mono ?_); rintro e w2 ⟨rfl, h2, hb2, ho2⟩))
  go_end0
  exact ⟨rfl, by rw [hB.out]; simpa only [List.append_assoc] using h2, (hlw.trans hb1).trans hb2, ((Oth.of hb).trans ho1).trans ho2⟩
set_option maxHeartbeats 4000000 in
theorem each_Select (h : WOut w lo g out s1 s2 s3) (l : List MSel) (a : Option Addr) (cap : Nat) (hr : ∀ wx, Below lo w wx → Rows wx 2 a cap (l.map MSel.cells)) (hw : ∀ x ∈ l, ((∀ c ∈ x.cases, casOk c) ∧ -1 ≤ x.els ∧ x.els ≤ 1000) ∧ ∀ wx, Below lo w wx → Rows wx 4 x.at_ x.cap (x.cases.map Cas.cells)) (hn : out.length + ((putB l.length).length + (l.flatMap (fun y : MSel => selB y.sel)).length) ≤ 1000000000) :
    Wr lo g s1 s2 s3 84 #[.pointer (some ⟨g, 0, none⟩), .slice a l.length cap, .func (.func 85) #[.pointer (some ⟨g, 0, none⟩)] #[]] w (putB l.length ++ l.flatMap (fun y : MSel => selB y.sel)) out := by
  have hlI : (l.length : Int) ≤ 9223372036854775807 := rows_len (hr w (Below.refl _ _))
  have hl := h.1
  have c1 : Calls Tryz.prog 52 #[.pointer (some ⟨g, 0, none⟩), .int .i64 (l.length : Int)] w _ := number_w h l.length hlI (by omega)
  unfold Wr
  go_enter Tryz.func84, Tryz.ntmps84
  go_wp2_with (go_at_call 52; (with_reducible refine c1.mono ?_); rintro e w1 ⟨rfl, h1, hb1, ho1⟩)
  go_loopw [14] (fun u wr => ∃ j : Nat, j ≤ l.length ∧ u = .int .i64 j ∧ WOut wr lo g (out ++ putB l.length ++ (l.take j).flatMap (fun y : MSel => selB y.sel)) s1 s2 s3 ∧ Below lo w wr ∧ Oth w wr) (fun u _ => l.length - (intOf u).toNat)
  case atStart => exact ⟨0, Nat.zero_le _, rfl, by simpa using h1, hb1, ho1⟩
  case round =>
    clear h1 hb1 ho1 c1
    obtain ⟨j, hj, rfl, h1, hb1, ho1⟩ := hrel
    by_cases hlt : j < l.length
    · obtain ⟨x, hx, hxm⟩ := get_lt l j hlt
      obtain ⟨bb, o, hix, hbl, c0, c1⟩ := sel_ix (hr wr hb1) j x hx
      have hjI : (j : Int) < l.length := by omega
      have hfl := take_flat (fun y : MSel => selB y.sel) l (j + 1)
      rw [take_flat_one (fun y : MSel => selB y.sel) l j x hx, List.length_append] at hfl
      have hF : Hid ((l.take (j + 1)).flatMap (fun y : MSel => selB y.sel) = (l.take j).flatMap (fun y : MSel => selB y.sel) ++ (fun y : MSel => selB y.sel) x) := take_flat_one (fun y : MSel => selB y.sel) l j x hx
      have cc : Calls Tryz.prog 85 #[.pointer (some ⟨g, 0, none⟩), .agg #[.slice x.at_ x.cases.length x.cap, .int .i64 x.els]] (wr.alloc (objS x)) _ := choice_w (h1.later (boxed _ _)) x (hw x hxm).1 (fun wx hx => (hw x hxm).2 wx ((hb1.trans ((boxed wr (objS x)).mono h1.1)).trans hx)) (by simp only [List.length_append] at *; omega)
      have hbb := boxed wr (objS x)
      have hlo : Hid (lo ≤ wr.heap.size) := h1.1
      clear hfl h1
      go_wp2_with (go_at_call 85; (with_reducible refine cc.mono ?_); rintro e w2 ⟨rfl, h2, hb2, ho2⟩)
      go_roundw
      case rel => exact ⟨j + 1, by omega, by go_num, by rw [hF.out, ← List.append_assoc]; exact h2, (hb1.trans (hbb.mono hlo.out)).trans hb2, (ho1.trans (Oth.of hbb)).trans ho2⟩
      case measure => simp [intOf]; omega
    · have hj2 : j = l.length := by omega
      subst hj2
      rw [List.take_length] at h1
      go_wp2
      go_end0
      exact ⟨rfl, by rw [← List.append_assoc]; exact h1, hb1, ho1⟩
set_option maxHeartbeats 4000000 in
theorem each_Int (h : WOut w lo g out s1 s2 s3) (l : List Int) (a : Option Addr) (cap : Nat) (hr : ∀ wx, Below lo w wx → Rows wx 1 a cap (l.map chCells)) (hw : ∀ x ∈ l, 0 ≤ x ∧ x ≤ 1000) (hn : out.length + ((putB l.length).length + (l.flatMap chB).length) ≤ 1000000000) :
    Wr lo g s1 s2 s3 53 #[.pointer (some ⟨g, 0, none⟩), .slice a l.length cap, .func (.func 52) #[.pointer (some ⟨g, 0, none⟩)] #[]] w (putB l.length ++ l.flatMap chB) out := by
  have hlI : (l.length : Int) ≤ 9223372036854775807 := rows_len (hr w (Below.refl _ _))
  have hl := h.1
  have c1 : Calls Tryz.prog 52 #[.pointer (some ⟨g, 0, none⟩), .int .i64 (l.length : Int)] w _ := number_w h l.length hlI (by omega)
  unfold Wr
  go_enter Tryz.func53, Tryz.ntmps53
  go_wp2_with (go_at_call 52; (with_reducible refine c1.mono ?_); rintro e w1 ⟨rfl, h1, hb1, ho1⟩)
  go_loopw [14] (fun u wr => ∃ j : Nat, j ≤ l.length ∧ u = .int .i64 j ∧ WOut wr lo g (out ++ putB l.length ++ (l.take j).flatMap chB) s1 s2 s3 ∧ Below lo w wr ∧ Oth w wr) (fun u _ => l.length - (intOf u).toNat)
  case atStart => exact ⟨0, Nat.zero_le _, rfl, by simpa using h1, hb1, ho1⟩
  case round =>
    clear h1 hb1 ho1 c1
    obtain ⟨j, hj, rfl, h1, hb1, ho1⟩ := hrel
    by_cases hlt : j < l.length
    · obtain ⟨x, hx, hxm⟩ := get_lt l j hlt
      obtain ⟨bb, o, hix, hbl, c0⟩ := ch_ix (hr wr hb1) j x hx
      have hjI : (j : Int) < l.length := by omega
      have hfl := take_flat chB l (j + 1)
      rw [take_flat_one chB l j x hx, List.length_append] at hfl
      have hF : Hid ((l.take (j + 1)).flatMap chB = (l.take j).flatMap chB ++ chB x) := take_flat_one chB l j x hx
      have cc : Calls Tryz.prog 52 #[.pointer (some ⟨g, 0, none⟩), .int .i64 x] wr _ := number_i h1 x (hw x hxm).1 (by have := (hw x hxm).2; omega) (by simp only [List.length_append, chB] at *; omega)
      have hlo : Hid (lo ≤ wr.heap.size) := h1.1
      clear hfl h1
      go_wp2_with (go_at_call 52; (with_reducible refine cc.mono ?_); rintro e w2 ⟨rfl, h2, hb2, ho2⟩)
      go_roundw
      case rel => exact ⟨j + 1, by omega, by go_num, by rw [hF.out, ← List.append_assoc]; exact h2, hb1.trans hb2, ho1.trans ho2⟩
      case measure => simp [intOf]; omega
    · have hj2 : j = l.length := by omega
      subst hj2
      rw [List.take_length] at h1
      go_wp2
      go_end0
      exact ⟨rfl, by rw [← List.append_assoc]; exact h1, hb1, ho1⟩
end
end Go.Proofs.YtonkcnaijcpfdaaGreatDoor.pg
/- A letter of an operation's form, as the program takes it. -/
namespace Go.Proofs.YtonkcnaijcpfdaaGreatDoor.pg
open Go.ChangeShapes Go.WideShapes Go.ChangeAt Go.RowKit
set_option linter.unusedVariables false
set_option linter.unusedSimpArgs false
set_option maxRecDepth 100000
/-- A letter of an operation's form. -/
theorem str_ix {op : Int} {F : ByteArray} (hF : prog.frm op = F) (hk : known op) (k : Nat) (h4 : k < 4) : ∀ wx, (Instr.index 9 (.string F) (.int .i64 (k : Int))).run Tryz.prog wx = .ok (.int .u8 (lt op k)) wx := by
  intro wx
  rw [frm_form] at hF
  rcases formOf_four op with hne | ⟨a0, a1, a2, a3, hf4, q0, q1, q2, q3⟩
  · exact absurd hne hk
  · have B0 := byte_str a0 q0
    have B1 := byte_str a1 q1
    have B2 := byte_str a2 q2
    have B3 := byte_str a3 q3
    rw [hf4] at hF
    simp only [List.map] at hF
    have hl : lt op k = ([(a0 : Int), a1, a2, a3] : List Int).getD k 0 := by unfold lt; rw [hf4]
    rw [hl]
    clear hl hf4
    generalize UInt8.ofNat ((a0 : Int).toNat) = c0 at *
    generalize UInt8.ofNat ((a1 : Int).toNat) = c1 at *
    generalize UInt8.ofNat ((a2 : Int).toNat) = c2 at *
    generalize UInt8.ofNat ((a3 : Int).toNat) = c3 at *
    subst hF
    have hk4 : k = 0 ∨ k = 1 ∨ k = 2 ∨ k = 3 := by omega
    have C0 : ((⟨#[c0, c1, c2, c3]⟩ : ByteArray)[0]'(by show 0 < 4; decide)).toNat = a0 := by show c0.toNat = a0; omega
    have C1 : ((⟨#[c0, c1, c2, c3]⟩ : ByteArray)[1]'(by show 1 < 4; decide)).toNat = a1 := by show c1.toNat = a1; omega
    have C2 : ((⟨#[c0, c1, c2, c3]⟩ : ByteArray)[2]'(by show 2 < 4; decide)).toNat = a2 := by show c2.toNat = a2; omega
    have C3 : ((⟨#[c0, c1, c2, c3]⟩ : ByteArray)[3]'(by show 3 < 4; decide)).toNat = a3 := by show c3.toNat = a3; omega
    have hz : (⟨#[c0, c1, c2, c3]⟩ : ByteArray).size = 4 := rfl
    have hu := Tryz.underlying9
    rcases hk4 with rfl | rfl | rfl | rfl
    all_goals simp [Instr.index, run_underlying hu, asIntOf, go_sem, C0, C1, C2, C3, hz]

end Go.Proofs.YtonkcnaijcpfdaaGreatDoor.pg
