/- Clocks as plain data, and where they lie. -/
import Derived.Test.YtafefnkgdnmjbaaGreatDoorM2
import Derived.Test.YtafefnkgdnmjbaaGreatDoorM3
import Derived.Laws.StructEq
import Derived.ChangeKeysEq
import Derived.Lib.MinMax
import Derived.Outline
import Derived.Laws.Tables
namespace Go.Proofs.YtafefnkgdnmjbaaGreatDoor.pg
open Go.ChangeShapes Go.WideShapes Go.ChangeAt Go.RowKit
set_option linter.unusedVariables false
set_option linter.unusedSimpArgs false
set_option maxRecDepth 100000
/-- A clock. -/
structure Ck where
  c0 : Int
  c1 : Int
  c2 : Int
  c3 : Int
  c4 : Int
  c5 : Int
def Ck.cells (x : Ck) : List Value := [.int .i64 x.c0, .int .i64 x.c1, .int .i64 x.c2, .int .i64 x.c3, .int .i64 x.c4, .int .i64 x.c5]
abbrev Ck.val (x : Ck) : Value := .agg #[.int .i64 x.c0, .int .i64 x.c1, .int .i64 x.c2, .int .i64 x.c3, .int .i64 x.c4, .int .i64 x.c5]
def Ck.list (x : Ck) : List Int := [x.c0, x.c1, x.c2, x.c3, x.c4, x.c5]
def Ck.wf (x : Ck) : Prop := I64 x.c0 ∧ I64 x.c1 ∧ I64 x.c2 ∧ I64 x.c3 ∧ I64 x.c4 ∧ I64 x.c5
abbrev objK (x : Ck) : Obj := .cells #[.int .i64 x.c0, .int .i64 x.c1, .int .i64 x.c2, .int .i64 x.c3, .int .i64 x.c4, .int .i64 x.c5] 114
def BoxK (w : World) (B : Nat) (x : Ck) : Prop := w.cell? ⟨B, 0, none⟩ = some (.int .i64 x.c0) ∧ w.cell? ⟨B, 1, none⟩ = some (.int .i64 x.c1) ∧ w.cell? ⟨B, 2, none⟩ = some (.int .i64 x.c2) ∧ w.cell? ⟨B, 3, none⟩ = some (.int .i64 x.c3) ∧ w.cell? ⟨B, 4, none⟩ = some (.int .i64 x.c4) ∧ w.cell? ⟨B, 5, none⟩ = some (.int .i64 x.c5)
theorem BoxK.later {w w' : World} {B : Nat} {x : Ck} (h : BoxK w B x) (hb : Below w.heap.size w w') : BoxK w' B x := ⟨cell_later hb h.1, cell_later hb h.2.1, cell_later hb h.2.2.1, cell_later hb h.2.2.2.1, cell_later hb h.2.2.2.2.1, cell_later hb h.2.2.2.2.2⟩
theorem boxK_new (w : World) (x : Ck) : BoxK (w.alloc (objK x)) w.heap.size x := by
  refine ⟨?_, ?_, ?_, ?_, ?_, ?_⟩ <;> exact World.cell?_alloc_at _ _ _ _ rfl
/-- A clock is right. -/
def okC (n : Int) : Prop := 0 ≤ n ∧ n ≤ 1073741824
def Ck.ok (x : Ck) : Prop := ∀ n ∈ x.list, okC n
theorem Ck.ok_iff (x : Ck) : x.ok ↔ okC x.c0 ∧ okC x.c1 ∧ okC x.c2 ∧ okC x.c3 ∧ okC x.c4 ∧ okC x.c5 := by
  unfold Ck.ok Ck.list
  simp
theorem Ck.list_len (x : Ck) : x.list.length = 6 := rfl
theorem ck_ix (x : Ck) (k : Nat) (n : Int) (h : x.list[k]? = some n) : ∀ wx, (Instr.index 114 x.val (.int .i64 (k : Int))).run Tryz.prog wx = .ok (.int .i64 n) wx := by
  match k, h with
  | 0, h => simp only [Ck.list, List.getElem?_cons_zero, List.getElem?_cons_succ, Option.some.injEq] at h; subst h; exact fun _ => by kernel_rfl
  | 1, h => simp only [Ck.list, List.getElem?_cons_zero, List.getElem?_cons_succ, Option.some.injEq] at h; subst h; exact fun _ => by kernel_rfl
  | 2, h => simp only [Ck.list, List.getElem?_cons_zero, List.getElem?_cons_succ, Option.some.injEq] at h; subst h; exact fun _ => by kernel_rfl
  | 3, h => simp only [Ck.list, List.getElem?_cons_zero, List.getElem?_cons_succ, Option.some.injEq] at h; subst h; exact fun _ => by kernel_rfl
  | 4, h => simp only [Ck.list, List.getElem?_cons_zero, List.getElem?_cons_succ, Option.some.injEq] at h; subst h; exact fun _ => by kernel_rfl
  | 5, h => simp only [Ck.list, List.getElem?_cons_zero, List.getElem?_cons_succ, Option.some.injEq] at h; subst h; exact fun _ => by kernel_rfl
  | k + 6, h => simp [Ck.list] at h
/-- An index of a clock in its box. -/
theorem ck_at (B : Nat) (k : Nat) (h : k < 6) : ∀ wx, (Instr.indexAt 114 (.pointer (some ⟨B, 0, none⟩)) (.int .i64 (k : Int))).run Tryz.prog wx = .ok (.pointer (some ⟨B, k, none⟩)) wx := by
  match k, h with
  | 0, _ => exact fun _ => by kernel_rfl
  | 1, _ => exact fun _ => by kernel_rfl
  | 2, _ => exact fun _ => by kernel_rfl
  | 3, _ => exact fun _ => by kernel_rfl
  | 4, _ => exact fun _ => by kernel_rfl
  | 5, _ => exact fun _ => by kernel_rfl
section
variable {H : Type} {enc : TypeId × Value → H} {w : World} {base : Nat} {spare : Nat → Bool} {held : Bool}
theorem len6 {α : Type} {l : List α} (h : l.length = 6) : ∃ a b c d e f, l = [a, b, c, d, e, f] := by
  match l, h with
  | [a, b, c, d, e, f], _ => exact ⟨a, b, c, d, e, f, rfl⟩
theorem ck_in {n : Nat} {cs : List Value} {y : DataW H × List MemPlace} (hl : cs.length = 6) (h : DataW.trod enc Tryz.prog w base spare held n 114 cs = some y) : ∃ x : Ck, cs = x.cells ∧ x.wf := by
  have hc1 : Tryz.prog.cellsOf 3 = 1 := by kernel_rfl
  obtain ⟨xs, m, _, _, _, hlen, hf⟩ := DataW.trod_array Tryz.underlying114 h
  rw [hc1] at hf
  obtain ⟨v0, v1, v2, v3, v4, v5, rfl⟩ := len6 hl
  obtain ⟨y0, y1, y2, y3, y4, y5, rfl⟩ := len6 hlen
  obtain ⟨z0, rfl, b0⟩ := int_in Tryz.underlying3 (hf 0 (by omega))
  obtain ⟨z1, rfl, b1⟩ := int_in Tryz.underlying3 (hf 1 (by omega))
  obtain ⟨z2, rfl, b2⟩ := int_in Tryz.underlying3 (hf 2 (by omega))
  obtain ⟨z3, rfl, b3⟩ := int_in Tryz.underlying3 (hf 3 (by omega))
  obtain ⟨z4, rfl, b4⟩ := int_in Tryz.underlying3 (hf 4 (by omega))
  obtain ⟨z5, rfl, b5⟩ := int_in Tryz.underlying3 (hf 5 (by omega))
  exact ⟨⟨z0, z1, z2, z3, z4, z5⟩, rfl, b0, b1, b2, b3, b4, b5⟩
/-- A clock that came in. -/
theorem ck_arg {n : Nat} {cs : List Value} {y : DataW H × List MemPlace} (h : DataW.trod enc Tryz.prog w base spare held n 114 cs = some y) : ∃ x : Ck, Value.agg cs.toArray = x.val ∧ x.wf := by
  have hl : cs.length = 6 := by
    obtain ⟨xs, m, _, _, hl, _⟩ := DataW.trod_array Tryz.underlying114 h
    rw [hl]
    kernel_rfl
  obtain ⟨x, rfl, hw⟩ := ck_in hl h
  exact ⟨x, rfl, hw⟩
/-- A list of clocks that came in. -/
theorem cks_in {n : Nat} {a : Option Addr} {len cap : Nat} {y : DataW H × List MemPlace} (h : DataW.trod enc Tryz.prog w base spare held n 104 [.slice a len cap] = some y) : ∃ l : List Ck, l.length = len ∧ Rows w 6 a cap (l.map Ck.cells) ∧ ∀ x ∈ l, x.wf :=
  rows_in (k := 6) ⟨0, 0, 0, 0, 0, 0⟩ Ck.cells Ck.wf Tryz.underlying104 (by kernel_rfl) (by omega) (fun n cs y hl h => ck_in hl h) h
end
def eqK (x y : Ck) : Bool := x.c0 == y.c0 && x.c1 == y.c1 && x.c2 == y.c2 && x.c3 == y.c3 && x.c4 == y.c4 && x.c5 == y.c5
theorem eqK_iff (x y : Ck) : eqK x y = true ↔ x = y := by
  cases x; cases y; simp [eqK, Bool.and_eq_true, beq_iff_eq, and_assoc]
end Go.Proofs.YtafefnkgdnmjbaaGreatDoor.pg
/- Clocks held against each other; whether they are right. -/
namespace Go.Proofs.YtafefnkgdnmjbaaGreatDoor.pg
open Go.ChangeShapes Go.WideShapes Go.ChangeAt Go.RowKit
set_option linter.unusedVariables false
set_option linter.unusedSimpArgs false
set_option maxRecDepth 100000
attribute [local go_sem ↓] Go.wp_at_zero Go.wp_at_succ
theorem infoI_some : ∃ i, Tryz.prog.info? 3 = some i := by
  have h : (Tryz.prog.info? 3).isSome = true := by kernel_rfl
  exact Option.isSome_iff_exists.mp h
theorem run_inK (x y : Ck) (w : World) : (Op.equalIn 10000 114 x.val y.val).run Tryz.prog w = .ok (eqK x y) w := by
  obtain ⟨i, hi⟩ := infoI_some
  have hc1 : Tryz.prog.cellsOf 3 = 1 := by kernel_rfl
  have u1 := Tryz.underlying3
  have a1 := Tryz.isAgg3
  have z1 := Tryz.sizeOf3
  rw [show (10000 : Nat) = 9999 + 1 from rfl, run_equalIn_array w 9999 _ _ Tryz.underlying114 hi, hc1]
  simp only [List.range, List.range.loop, Op.eqItems]
  go_simp
  by_cases h0 : x.c0 = y.c0 <;> simp [eqK, h0]
  by_cases h1 : x.c1 = y.c1 <;> simp [h1]
  by_cases h2 : x.c2 = y.c2 <;> simp [h2]
  by_cases h3 : x.c3 = y.c3 <;> simp [h3]
  by_cases h4 : x.c4 = y.c4 <;> simp [h4]
  by_cases h5 : x.c5 = y.c5 <;> simp [h5]
theorem run_eqK (x y : Ck) (w : World) : (binOp .eql 114 x.val y.val).run Tryz.prog w = .ok (.bool (eqK x y)) w := by
  rw [run_eql_struct, run_inK]; rfl
theorem run_neK (x y : Ck) (w : World) : (binOp .neq 114 x.val y.val).run Tryz.prog w = .ok (.bool (!eqK x y)) w := by
  rw [run_neq_struct, run_inK]; rfl
theorem check_ok (x : Ck) (hx : x.ok) (w : World) : Calls Tryz.prog 139 #[x.val] w fun e w' => e = .returned (.int .i64 0) ∧ Below w.heap.size w w' := by
  have hxH : Hid x.ok := hx
  clear hx
  go_enter Tryz.func139, Tryz.ntmps139
  go_wp2
  go_loopw [6] (fun u wr => ∃ k : Nat, k ≤ 6 ∧ u = .int .i64 k ∧ wr = w.alloc (objK x)) (fun u _ => 6 - (intOf u).toNat)
  case atStart => exact ⟨0, by omega, rfl, rfl⟩
  case round =>
    obtain ⟨k, hk, rfl, rfl⟩ := hrel
    by_cases hlt : k < 6
    · obtain ⟨n, hn, hm⟩ := get_lt x.list k hlt
      have hix := ck_ix x k n hn
      have h1 : ¬ n < 0 := by have := hxH.out n hm; unfold okC at this; omega
      have h2 : ¬ 1073741824 < n := by have := hxH.out n hm; unfold okC at this; omega
      have hkI : (k : Int) < 6 := by omega
      clear hn hm
      go_wp2
      go_roundw
      case rel => exact ⟨k + 1, by omega, by go_num, trivial⟩
      case measure => simp [intOf]; omega
    · have hk6 : k = 6 := by omega
      subst hk6
      go_wp2
      go_ret
      exact ⟨rfl, boxed _ _⟩
theorem check_bad (x : Ck) (hx : ¬ x.ok) (w : World) : Calls Tryz.prog 139 #[x.val] w fun e w' => e = .returned (.int .i64 1) ∧ Below w.heap.size w w' := by
  have hxH : Hid (¬ x.ok) := hx
  clear hx
  go_enter Tryz.func139, Tryz.ntmps139
  go_wp2
  go_loopw [6] (fun u wr => ∃ k : Nat, k ≤ 6 ∧ u = .int .i64 k ∧ wr = w.alloc (objK x) ∧ Hid (∀ n ∈ x.list.take k, okC n)) (fun u _ => 6 - (intOf u).toNat)
  case atStart => exact ⟨0, by omega, rfl, rfl, fun n hn => by simp at hn⟩
  case round =>
    obtain ⟨k, hk, rfl, rfl, hno⟩ := hrel
    by_cases hlt : k < 6
    · obtain ⟨n, hn, hm⟩ := get_lt x.list k hlt
      have hix := ck_ix x k n hn
      have hkI : (k : Int) < 6 := by omega
      have hnH : Hid (x.list[k]? = some n) := hn
      clear hn hm
      by_cases h1 : n < 0
      · go_wp2
        go_ret
        exact ⟨rfl, boxed _ _⟩
      · by_cases h2 : 1073741824 < n
        · go_wp2
          go_ret
          exact ⟨rfl, boxed _ _⟩
        · have hno2 : Hid (∀ n ∈ x.list.take (k + 1), okC n) := fun z hz => by
            rw [List.take_add_one, hnH.out] at hz
            simp only [Option.toList_some, List.mem_append, List.mem_singleton] at hz
            rcases hz with hz | rfl
            · exact hno.out z hz
            · exact ⟨by omega, by omega⟩
          go_wp2
          go_roundw
          case rel => exact ⟨k + 1, by omega, by go_num, trivial, hno2⟩
          case measure => simp [intOf]; omega
    · have hk6 : k = 6 := by omega
      subst hk6
      exact absurd (fun n hn => hno.out n (by rw [List.take_of_length_le (by rw [Ck.list_len]; omega)]; exact hn)) hxH.out
end Go.Proofs.YtafefnkgdnmjbaaGreatDoor.pg
/- Join and Meet of clocks. -/
namespace Go.Proofs.YtafefnkgdnmjbaaGreatDoor.pg
open Go.ChangeShapes Go.WideShapes Go.ChangeAt Go.RowKit
set_option linter.unusedVariables false
set_option linter.unusedSimpArgs false
set_option maxRecDepth 100000
attribute [local go_sem ↓] Go.wp_at_zero Go.wp_at_succ
abbrev Ck.join (x y : Ck) : Ck := ⟨max x.c0 y.c0, max x.c1 y.c1, max x.c2 y.c2, max x.c3 y.c3, max x.c4 y.c4, max x.c5 y.c5⟩
abbrev Ck.meet (x y : Ck) : Ck := ⟨min x.c0 y.c0, min x.c1 y.c1, min x.c2 y.c2, min x.c3 y.c3, min x.c4 y.c4, min x.c5 y.c5⟩
theorem ck_ixs (y : Ck) : (∀ wx, (Instr.index 114 y.val (.int .i64 0)).run Tryz.prog wx = .ok (.int .i64 y.c0) wx) ∧ (∀ wx, (Instr.index 114 y.val (.int .i64 1)).run Tryz.prog wx = .ok (.int .i64 y.c1) wx) ∧ (∀ wx, (Instr.index 114 y.val (.int .i64 2)).run Tryz.prog wx = .ok (.int .i64 y.c2) wx) ∧ (∀ wx, (Instr.index 114 y.val (.int .i64 3)).run Tryz.prog wx = .ok (.int .i64 y.c3) wx) ∧ (∀ wx, (Instr.index 114 y.val (.int .i64 4)).run Tryz.prog wx = .ok (.int .i64 y.c4) wx) ∧ (∀ wx, (Instr.index 114 y.val (.int .i64 5)).run Tryz.prog wx = .ok (.int .i64 y.c5) wx) :=
  ⟨ck_ix y 0 _ rfl, ck_ix y 1 _ rfl, ck_ix y 2 _ rfl, ck_ix y 3 _ rfl, ck_ix y 4 _ rfl, ck_ix y 5 _ rfl⟩
theorem join_in (x y : Ck) (w : World) : Calls Tryz.prog 111 #[x.val, y.val] w fun e w' => e = .returned (x.join y).val ∧ Below w.heap.size w w' := by
  obtain ⟨i0, i1, i2, i3, i4, i5⟩ := ck_ixs y
  go_enter Tryz.func111, Tryz.ntmps111
  go_wp2
  go_rounds 7
  exact bodyPost_ret (v := (x.join y).val) (by simp [results, Tryz.results111, go_sem]) rfl ⟨rfl, boxed3 _ _ _ _⟩
theorem infoK : (Tryz.prog.info? 114).map (·.size) = some 6 := by kernel_rfl
abbrev zeroK : Ck := ⟨0, 0, 0, 0, 0, 0⟩
/-- A clock has a block of its own. -/
def InB (w : World) (B : Nat) (x : Ck) : Prop := w.heap[B]? = some (objK x)
theorem InB.lt {w : World} {B : Nat} {x : Ck} (h : InB w B x) : B < w.heap.size := (Array.getElem?_eq_some_iff.mp h).1
theorem InB.later {w w' : World} {B : Nat} {x : Ck} (h : InB w B x) (hb : Below w.heap.size w w') : InB w' B x := (hb.block B h.lt).trans h
theorem inB_new (w : World) (x : Ck) : InB (w.alloc (objK x)) w.heap.size x := heap_alloc_new w _
theorem InB.set {w : World} {B : Nat} {x : Ck} (h : InB w B x) (y : Ck) : InB (w.setRow B y.cells.toArray) B y := setRow_heap w B _ _ _ _ h
theorem InB.other {w : World} {B B' : Nat} {x : Ck} (h : InB w B x) (cs : Array Value) (hne : B ≠ B') : InB (w.setRow B' cs) B x := (setRow_other w B' B cs hne).trans h
theorem InB.box {w : World} {B : Nat} {x : Ck} (h : InB w B x) : BoxK w B x :=
  ⟨cell_of_row w B 0 _ _ _ h, cell_of_row w B 1 _ _ _ h, cell_of_row w B 2 _ _ _ h, cell_of_row w B 3 _ _ _ h, cell_of_row w B 4 _ _ _ h, cell_of_row w B 5 _ _ _ h⟩
theorem below_setRow {n B : Nat} {a w : World} (h : Below n a w) (hB : n ≤ B) (cs : Array Value) : Below n a (w.setRow B cs) :=
  ⟨h.os, h.tape, h.output, by rw [setRow_size]; exact h.size, fun k hk => (setRow_other w B k cs (by omega)).trans (h.block k hk)⟩
theorem one6 (x : Ck) : x.cells.toArray.all (·.oneCell') = true := by simp [Ck.cells, Value.oneCell']
/-- What is returned: a clock in its cell, and a number. -/
theorem results_ck {fn : Func} {p q : Tmp} (h : fn.results = #[.cell p 114, .tmp q]) (tmps : Array Value) (w : World) (B : Nat) (x : Ck) (v : Value) (hp : tmps.getD p undef = .pointer (some ⟨B, 0, none⟩)) (hq : tmps.getD q undef = v) (hB : InB w B x) :
    (results fn tmps).run Tryz.prog w = .ok (.tuple #[x.val, v]) w := by
  have hp' : tmps[p]?.getD undef = .pointer (some ⟨B, 0, none⟩) := by simpa using hp
  have hq' : tmps[q]?.getD undef = v := by simpa using hq
  simp [results, h, hp', hq', asAddr, run_loadVar_row w B _ 114 _ _ _ hB Tryz.underlying114 rfl infoK]
end Go.Proofs.YtafefnkgdnmjbaaGreatDoor.pg
