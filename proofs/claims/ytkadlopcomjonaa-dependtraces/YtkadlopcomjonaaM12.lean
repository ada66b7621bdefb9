/- Clocks held against each other; whether they are right. -/
import Derived.Test.YtkadlopcomjonaaM11
import Derived.Test.YtkadlopcomjonaaM3
import Derived.ChangeKeysEq
import Derived.Lib.MinMax
import Derived.Outline
import Derived.Laws.Tables
import Derived.Test.YtkadlopcomjonaaM4
namespace Go.Proofs.Ytkadlopcomjonaa.pg
open Go.ChangeShapes Go.WideShapes Go.ChangeAt Go.RowKit
set_option linter.unusedVariables false
set_option linter.unusedSimpArgs false
set_option maxRecDepth 100000
attribute [local go_sem ↓] Go.wp_at_zero Go.wp_at_succ
theorem infoI_some : ∃ i, Try.prog.info? 3 = some i := by
  have h : (Try.prog.info? 3).isSome = true := by kernel_rfl
  exact Option.isSome_iff_exists.mp h
theorem run_inK (x y : Ck) (w : World) : (Op.equalIn 10000 86 x.val y.val).run Try.prog w = .ok (eqK x y) w := by
  obtain ⟨i, hi⟩ := infoI_some
  have hc1 : Try.prog.cellsOf 3 = 1 := by kernel_rfl
  have u1 := Try.underlying3
  have a1 := Try.isAgg3
  have z1 := Try.sizeOf3
  rw [show (10000 : Nat) = 9999 + 1 from rfl, run_equalIn_array w 9999 _ _ Try.underlying86 hi, hc1]
  simp only [List.range, List.range.loop, Op.eqItems]
  go_simp
  by_cases h0 : x.c0 = y.c0 <;> simp [eqK, h0]
  by_cases h1 : x.c1 = y.c1 <;> simp [h1]
  by_cases h2 : x.c2 = y.c2 <;> simp [h2]
  by_cases h3 : x.c3 = y.c3 <;> simp [h3]
  by_cases h4 : x.c4 = y.c4 <;> simp [h4]
  by_cases h5 : x.c5 = y.c5 <;> simp [h5]
theorem run_eqK (x y : Ck) (w : World) : (binOp .eql 86 x.val y.val).run Try.prog w = .ok (.bool (eqK x y)) w := by
  rw [run_eql_struct, run_inK]; rfl
theorem run_neK (x y : Ck) (w : World) : (binOp .neq 86 x.val y.val).run Try.prog w = .ok (.bool (!eqK x y)) w := by
  rw [run_neq_struct, run_inK]; rfl
theorem check_ok (x : Ck) (hx : x.ok) (w : World) : Calls Try.prog 113 #[x.val] w fun e w' => e = .returned (.int .i64 0) ∧ Below w.heap.size w w' := by
  have hxH : Hid x.ok := hx
  clear hx
  go_enter Try.func113, Try.ntmps113
  go_wp2
  go_loopw [6] (fun u wr => ∃ k : Nat, k ≤ 6 ∧ u = .int .i64 k ∧ wr = w.alloc (objK x)) (fun u _ => 6 - (intOf u).toNat)
  case atStart => exact ⟨0, by omega, rfl, rfl⟩
  case round =>
    obtain ⟨k, hk, rfl, rfl⟩ := hrel
    by_cases hlt : k < 6
    · obtain ⟨n, hn, hm⟩ := get_lt x.list k hlt
      have hix := ck_ix x k n hn
      have h1 : ¬ n < 0 := by have := hxH.out n hm; unfold okC at this; omega
      have h2 : ¬ 1073741824 < n := by have := hxH.out n hm; unfold okC at this; omega
      have hkI : (k : Int) < 6 := by omega
      clear hn hm
      go_wp2
      go_roundw
      case rel => exact ⟨k + 1, by omega, by go_num, trivial⟩
      case measure => simp [intOf]; omega
    · have hk6 : k = 6 := by omega
      subst hk6
      go_wp2
      go_ret
      exact ⟨rfl, boxed _ _⟩
theorem check_bad (x : Ck) (hx : ¬ x.ok) (w : World) : Calls Try.prog 113 #[x.val] w fun e w' => e = .returned (.int .i64 1) ∧ Below w.heap.size w w' := by
  have hxH : Hid (¬ x.ok) := hx
  clear hx
  go_enter Try.func113, Try.ntmps113
  go_wp2
  go_loopw [6] (fun u wr => ∃ k : Nat, k ≤ 6 ∧ u = .int .i64 k ∧ wr = w.alloc (objK x) ∧ Hid (∀ n ∈ x.list.take k, okC n)) (fun u _ => 6 - (intOf u).toNat)
  case atStart => exact ⟨0, by omega, rfl, rfl, fun n hn => by simp at hn⟩
  case round =>
    obtain ⟨k, hk, rfl, rfl, hno⟩ := hrel
    by_cases hlt : k < 6
    · obtain ⟨n, hn, hm⟩ := get_lt x.list k hlt
      have hix := ck_ix x k n hn
      have hkI : (k : Int) < 6 := by omega
      have hnH : Hid (x.list[k]? = some n) := hn
      clear hn hm
      by_cases h1 : n < 0
      · go_wp2
        go_ret
        exact ⟨rfl, boxed _ _⟩
      · by_cases h2 : 1073741824 < n
        · go_wp2
          go_ret
          exact ⟨rfl, boxed _ _⟩
        · have hno2 : Hid (∀ n ∈ x.list.take (k + 1), okC n) := fun z hz => by
            rw [List.take_add_one, hnH.out] at hz
            simp only [Option.toList_some, List.mem_append, List.mem_singleton] at hz
            rcases hz with hz | rfl
            · exact hno.out z hz
            · exact ⟨by omega, by omega⟩
          go_wp2
          go_roundw
          case rel => exact ⟨k + 1, by omega, by go_num, trivial, hno2⟩
          case measure => simp [intOf]; omega
    · have hk6 : k = 6 := by omega
      subst hk6
      exact absurd (fun n hn => hno.out n (by rw [List.take_of_length_le (by rw [Ck.list_len]; omega)]; exact hn)) hxH.out
end Go.Proofs.Ytkadlopcomjonaa.pg
/- Join and Meet of clocks. -/
namespace Go.Proofs.Ytkadlopcomjonaa.pg
open Go.ChangeShapes Go.WideShapes Go.ChangeAt Go.RowKit
set_option linter.unusedVariables false
set_option linter.unusedSimpArgs false
set_option maxRecDepth 100000
attribute [local go_sem ↓] Go.wp_at_zero Go.wp_at_succ
abbrev Ck.join (x y : Ck) : Ck := ⟨max x.c0 y.c0, max x.c1 y.c1, max x.c2 y.c2, max x.c3 y.c3, max x.c4 y.c4, max x.c5 y.c5⟩
abbrev Ck.meet (x y : Ck) : Ck := ⟨min x.c0 y.c0, min x.c1 y.c1, min x.c2 y.c2, min x.c3 y.c3, min x.c4 y.c4, min x.c5 y.c5⟩
theorem ck_ixs (y : Ck) : (∀ wx, (Instr.index 86 y.val (.int .i64 0)).run Try.prog wx = .ok (.int .i64 y.c0) wx) ∧ (∀ wx, (Instr.index 86 y.val (.int .i64 1)).run Try.prog wx = .ok (.int .i64 y.c1) wx) ∧ (∀ wx, (Instr.index 86 y.val (.int .i64 2)).run Try.prog wx = .ok (.int .i64 y.c2) wx) ∧ (∀ wx, (Instr.index 86 y.val (.int .i64 3)).run Try.prog wx = .ok (.int .i64 y.c3) wx) ∧ (∀ wx, (Instr.index 86 y.val (.int .i64 4)).run Try.prog wx = .ok (.int .i64 y.c4) wx) ∧ (∀ wx, (Instr.index 86 y.val (.int .i64 5)).run Try.prog wx = .ok (.int .i64 y.c5) wx) :=
  ⟨ck_ix y 0 _ rfl, ck_ix y 1 _ rfl, ck_ix y 2 _ rfl, ck_ix y 3 _ rfl, ck_ix y 4 _ rfl, ck_ix y 5 _ rfl⟩
theorem join_in (x y : Ck) (w : World) : Calls Try.prog 112 #[x.val, y.val] w fun e w' => e = .returned (x.join y).val ∧ Below w.heap.size w w' := by
  obtain ⟨i0, i1, i2, i3, i4, i5⟩ := ck_ixs y
  go_enter Try.func112, Try.ntmps112
  go_wp2
  go_rounds 7
  exact bodyPost_ret (v := (x.join y).val) (by simp [results, Try.results112, go_sem]) rfl ⟨rfl, boxed3 _ _ _ _⟩
theorem infoK : (Try.prog.info? 86).map (·.size) = some 6 := by kernel_rfl
abbrev zeroK : Ck := ⟨0, 0, 0, 0, 0, 0⟩
/-- A clock has a block of its own. -/
def InB (w : World) (B : Nat) (x : Ck) : Prop := w.heap[B]? = some (objK x)
theorem InB.lt {w : World} {B : Nat} {x : Ck} (h : InB w B x) : B < w.heap.size := (Array.getElem?_eq_some_iff.mp h).1
theorem InB.later {w w' : World} {B : Nat} {x : Ck} (h : InB w B x) (hb : Below w.heap.size w w') : InB w' B x := (hb.block B h.lt).trans h
theorem inB_new (w : World) (x : Ck) : InB (w.alloc (objK x)) w.heap.size x := heap_alloc_new w _
theorem InB.set {w : World} {B : Nat} {x : Ck} (h : InB w B x) (y : Ck) : InB (w.setRow B y.cells.toArray) B y := setRow_heap w B _ _ _ _ h
theorem InB.other {w : World} {B B' : Nat} {x : Ck} (h : InB w B x) (cs : Array Value) (hne : B ≠ B') : InB (w.setRow B' cs) B x := (setRow_other w B' B cs hne).trans h
theorem InB.box {w : World} {B : Nat} {x : Ck} (h : InB w B x) : BoxK w B x :=
  ⟨cell_of_row w B 0 _ _ _ h, cell_of_row w B 1 _ _ _ h, cell_of_row w B 2 _ _ _ h, cell_of_row w B 3 _ _ _ h, cell_of_row w B 4 _ _ _ h, cell_of_row w B 5 _ _ _ h⟩
theorem below_setRow {n B : Nat} {a w : World} (h : Below n a w) (hB : n ≤ B) (cs : Array Value) : Below n a (w.setRow B cs) :=
  ⟨h.os, h.tape, h.output, by rw [setRow_size]; exact h.size, fun k hk => (setRow_other w B k cs (by omega)).trans (h.block k hk)⟩
theorem one6 (x : Ck) : x.cells.toArray.all (·.oneCell') = true := by simp [Ck.cells, Value.oneCell']
/-- What is returned: a clock in its cell, and a number. -/
theorem results_ck {fn : Func} {p q : Tmp} (h : fn.results = #[.cell p 86, .tmp q]) (tmps : Array Value) (w : World) (B : Nat) (x : Ck) (v : Value) (hp : tmps.getD p undef = .pointer (some ⟨B, 0, none⟩)) (hq : tmps.getD q undef = v) (hB : InB w B x) :
    (results fn tmps).run Try.prog w = .ok (.tuple #[x.val, v]) w := by
  have hp' : tmps[p]?.getD undef = .pointer (some ⟨B, 0, none⟩) := by simpa using hp
  have hq' : tmps[q]?.getD undef = v := by simpa using hq
  simp [results, h, hp', hq', asAddr, run_loadVar_row w B _ 86 _ _ _ hB Try.underlying86 rfl infoK]
end Go.Proofs.Ytkadlopcomjonaa.pg
/- Lists of clocks: what is wrong with them. Join, Meet, Cmp. -/
namespace Go.Proofs.Ytkadlopcomjonaa.pg
open Go.ChangeShapes Go.WideShapes Go.ChangeAt Go.RowKit
set_option linter.unusedVariables false
set_option linter.unusedSimpArgs false
set_option maxRecDepth 100000
attribute [local go_sem ↓] Go.wp_at_zero Go.wp_at_succ
theorem cks_ix {w : World} {a : Option Addr} {cap : Nat} {l : List Ck} (h : Rows w 6 a cap (l.map Ck.cells)) (i : Nat) (x : Ck) (hi : l[i]? = some x) :
    ∃ b o, (∀ wx, (Instr.indexAt 79 (.slice a l.length cap) (.int .i64 (i : Int))).run Try.prog wx = .ok (.pointer (some ⟨b, o, none⟩)) wx) ∧ b < w.heap.size ∧ w.cell? ⟨b, o, none⟩ = some (.int .i64 x.c0) ∧ w.cell? ⟨b, o + 1, none⟩ = some (.int .i64 x.c1) ∧ w.cell? ⟨b, o + 2, none⟩ = some (.int .i64 x.c2) ∧ w.cell? ⟨b, o + 3, none⟩ = some (.int .i64 x.c3) ∧ w.cell? ⟨b, o + 4, none⟩ = some (.int .i64 x.c4) ∧ w.cell? ⟨b, o + 5, none⟩ = some (.int .i64 x.c5) := by
  obtain ⟨b, o, hr, hlt, hc⟩ := h.ix 79 86 Try.underlying79 (by kernel_rfl) (fun wx => Try.sizeOf86 wx) i (row := x.cells) (by simp [hi])
  rw [List.length_map] at hr
  exact ⟨b, o, hr, hlt, hc 0 _ rfl, hc 1 _ rfl, hc 2 _ rfl, hc 3 _ rfl, hc 4 _ rfl, hc 5 _ rfl⟩
/-- What is wrong with a list of clocks. -/
def errL (l : List Ck) (c : Int) : Prop := (256 < l.length ∧ c = 2) ∨ (l.length ≤ 256 ∧ (∃ x ∈ l, ¬ x.ok) ∧ c = 1) ∨ (l.length ≤ 256 ∧ (∀ x ∈ l, x.ok) ∧ c = 0)
theorem take_more {α : Type} {p : α → Prop} {l : List α} {k : Nat} {x : α} (hx : l[k]? = some x) (h : ∀ z ∈ l.take k, p z) (hp : p x) : ∀ z ∈ l.take (k + 1), p z := by
  intro z hz
  rw [List.take_add_one, hx] at hz
  simp only [Option.toList_some, List.mem_append, List.mem_singleton] at hz
  rcases hz with hz | rfl
  · exact h z hz
  · exact hp
set_option maxHeartbeats 1000000 in
theorem checks_any (l : List Ck) (la : Option Addr) (lc : Nat) (w : World) (hl : Rows w 6 la lc (l.map Ck.cells)) (c : Int) (hc : Hid (errL l c)) : Calls Try.prog 111 #[.slice la l.length lc] w fun e w' => e = .returned (.int .i64 c) ∧ Below w.heap.size w w' := by
  have hlI := rows_len hl
  have hlH : Hid (Rows w 6 la lc (l.map Ck.cells)) := hl
  clear hl
  by_cases hlong : 256 < l.length
  · have hcc : c = 2 := by rcases hc.out with ⟨_, q⟩ | ⟨q, _⟩ | ⟨q, _⟩ <;> omega
    have hI : (256 : Int) < l.length := by omega
    subst hcc
    go_enter Try.func111, Try.ntmps111
    go_wp2
    go_ret
    exact ⟨rfl, Below.refl _ _⟩
  · have hI : ¬ (256 : Int) < l.length := by omega
    go_enter Try.func111, Try.ntmps111
    go_wp2
    go_loopw [11] (fun u wr => ∃ k : Nat, k ≤ l.length ∧ u = .int .i64 k ∧ Below w.heap.size w wr ∧ Hid (∀ x ∈ l.take k, x.ok)) (fun u _ => l.length - (intOf u).toNat)
    case atStart => exact ⟨0, Nat.zero_le _, rfl, Below.refl _ _, fun x hx => by simp at hx⟩
    case round =>
      obtain ⟨k, hk, rfl, hb2, hok⟩ := hrel
      by_cases hlt : k < l.length
      · obtain ⟨x, hx, hxm⟩ := get_lt l k hlt
        obtain ⟨b0, o0, hix, hbl, k0, k1, k2, k3, k4, k5⟩ := cks_ix (hlH.out.later hb2) k x hx
        have hkI : (k : Int) < l.length := by omega
        by_cases e : x.ok
        · have c1 : ∀ wx, Calls Try.prog 113 #[x.val] wx _ := fun wx => check_ok x e wx
          have hok2 : Hid (∀ x ∈ l.take (k + 1), x.ok) := take_more hx hok.out e
          clear e hx hxm
          go_wp2_with (go_at_call 113; (with_reducible refine (c1 _).mono ?_); rintro e w1 ⟨rfl, hb1⟩)
          go_roundw
          case rel => exact ⟨k + 1, by omega, by go_num, bthen hb2 (bthen (boxed _ _) hb1), hok2⟩
          case measure => simp [intOf]; omega
        · have c1 : ∀ wx, Calls Try.prog 113 #[x.val] wx _ := fun wx => check_bad x e wx
          have hcc : Hid (c = 1) := by
            rcases hc.out with ⟨q, _⟩ | ⟨_, _, q⟩ | ⟨_, q, _⟩
            · omega
            · exact q
            · exact absurd (q x hxm) e
          clear e hx hxm
          go_wp2_with (go_at_call 113; (with_reducible refine (c1 _).mono ?_); rintro e w1 ⟨rfl, hb1⟩)
          go_ret
          exact ⟨by rw [hcc.out]; rfl, bthen hb2 (bthen (boxed _ _) hb1)⟩
      · have hk2 : k = l.length := by omega
        subst hk2
        rw [List.take_length] at hok
        have hcc : Hid (c = 0) := by
          rcases hc.out with ⟨q, _⟩ | ⟨_, ⟨x, hx, q⟩, _⟩ | ⟨_, _, q⟩
          · omega
          · exact absurd (hok.out x hx) q
          · exact q
        go_wp2
        go_ret
        exact ⟨by rw [hcc.out]; rfl, hb2⟩
/-- Two clocks, laid one behind the other. -/
theorem rows_two {w : World} {b : Nat} {x y : Ck} {t : TypeId} (h : w.heap[b]? = some (.cells #[.int .i64 x.c0, .int .i64 x.c1, .int .i64 x.c2, .int .i64 x.c3, .int .i64 x.c4, .int .i64 x.c5, .int .i64 y.c0, .int .i64 y.c1, .int .i64 y.c2, .int .i64 y.c3, .int .i64 y.c4, .int .i64 y.c5] t (0, 0))) : Rows w 6 (some ⟨b, 0, none⟩) 2 ([x, y].map Ck.cells) := by
  refine ⟨by simp, by omega, by simp, .inr ⟨b, 0, rfl, (Array.getElem?_eq_some_iff.mp h).1, fun i row hi => ?_⟩⟩
  match i, hi with
  | 0, hi =>
    simp at hi
    subst hi
    refine ⟨rfl, fun j u hj => ?_⟩
    rw [cell_of_row w b _ _ _ _ h]
    match j, hj with
    | 0, hj => exact hj
    | 1, hj => exact hj
    | 2, hj => exact hj
    | 3, hj => exact hj
    | 4, hj => exact hj
    | 5, hj => exact hj
    | j + 6, hj => simp [Ck.cells] at hj
  | 1, hi =>
    simp at hi
    subst hi
    refine ⟨rfl, fun j u hj => ?_⟩
    rw [cell_of_row w b _ _ _ _ h]
    match j, hj with
    | 0, hj => exact hj
    | 1, hj => exact hj
    | 2, hj => exact hj
    | 3, hj => exact hj
    | 4, hj => exact hj
    | 5, hj => exact hj
    | j + 6, hj => simp [Ck.cells] at hj
  | i + 2, hi => simp at hi
end Go.Proofs.Ytkadlopcomjonaa.pg
