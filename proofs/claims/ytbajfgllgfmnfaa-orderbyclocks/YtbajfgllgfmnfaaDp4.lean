/- What the document's own package says an event touches. -/
import Derived.Test.YtbajfgllgfmnfaaAp0
import Derived.Test.YtbajfgllgfmnfaaDp3
namespace Go.Proofs.Ytbajfgllgfmnfaa.pg
open Go.ChangeShapes Go.WideShapes Go.ChangeAt Go.RowKit
set_option linter.unusedVariables false
set_option linter.unusedSimpArgs false
set_option maxRecDepth 100000
attribute [local go_sem ↓] Go.wp_at_zero Go.wp_at_succ
theorem infoA : (Try.prog.info? 63).map (fun i => (i.zero, i.size, i.bytes)) = some (some (.agg #[.int .i64 0, .int .i64 0, .bool false]), 3, 24) := by kernel_rfl
/-- An access of an event in its box, by its place. -/
theorem ev_ix {w : World} {B : Nat} {x : Ev} (h : BoxE w B x) (i : Nat) (a : Acc) (hi : x.list[i]? = some a) :
    (∀ wx, (Instr.indexAt 64 (.pointer (some ⟨B, 7, none⟩)) (.int .i64 (i : Int))).run Try.prog wx = .ok (.pointer (some ⟨B, 7 + i * 3, none⟩)) wx) ∧ w.cell? ⟨B, 7 + i * 3, none⟩ = some (.int .i64 a.kind) ∧ w.cell? ⟨B, 7 + i * 3 + 1, none⟩ = some (.int .i64 a.num) ∧ w.cell? ⟨B, 7 + i * 3 + 2, none⟩ = some (.bool a.wr) := by
  have hl : i < 6 := by have := (List.getElem?_eq_some_iff.mp hi).1; simpa [Ev.list] using this
  refine ⟨fun wx => ?_, ?_, ?_, ?_⟩
  · have h6 : i = 0 ∨ i = 1 ∨ i = 2 ∨ i = 3 ∨ i = 4 ∨ i = 5 := by omega
    have u := Try.underlying64
    have z := Try.sizeOf63
    rcases h6 with rfl | rfl | rfl | rfl | rfl | rfl
    all_goals simp [Instr.indexAt, run_underlying u, asIntOf, go_sem, z]
  · have := x.list_at h i a hi 0 _ rfl; simpa using this
  · have := x.list_at h i a hi 1 _ rfl; rw [Nat.add_assoc]; exact this
  · have := x.list_at h i a hi 2 _ rfl; rw [Nat.add_assoc]; exact this
/-- How far Of has come. -/
structure OfSt (x : Ev) (W : World) (k : Nat) (va : Option Addr) (vc : Nat) (wr : World) : Prop where
  be : Below W.heap.size W wr
  ow : OwnL wr W.heap.size 63 3 va vc ((x.list.take k).map Acc.cells)
theorem tN_lt {n : Int} {k : Nat} (h : k < tN n) : (k : Int) < 6 ∧ (k : Int) < n := by
  have h1 := tN_int n
  rw [Int.max_def, Int.min_def] at h1
  split at h1 <;> split at h1 <;> omega
theorem tN_ge {n : Int} {k : Nat} (h : k ≤ tN n) (h2 : ¬ k < tN n) : ¬ (k : Int) < 6 ∨ (k : Int) < 6 ∧ ¬ (k : Int) < n := by
  have h1 := tN_int n
  rw [Int.max_def, Int.min_def] at h1
  split at h1 <;> split at h1 <;> omega
set_option maxHeartbeats 1000000 in
theorem of_any (x : Ev) (w : World) :
    Calls Try.prog 53 #[x.val] w fun e w' => ∃ va vc, e = .returned (.slice va x.of.length vc) ∧ OwnL w' w.heap.size 63 3 va vc (x.of.map Acc.cells) ∧ Below w.heap.size w w' := by
  obtain ⟨iA, hiA, hzA, hsA, hbA⟩ := info_q infoA
  have hb := boxed w (objE x)
  have bxH : Hid (BoxE (w.alloc (objE x)) w.heap.size x) := boxE_new w x
  have hll : x.list.length = 6 := rfl
  have hT := tN_le x.n
  go_enter Try.func53, Try.ntmps53
  go_wp2_with fail
  generalize w.alloc (objE x) = W at *
  have hbH : Hid (Below w.heap.size w W) := hb
  have hws : w.heap.size ≤ W.heap.size := hb.size
  clear hb
  go_loopw [3, 4] (fun l i wr => ∃ (k : Nat) (va : Option Addr) (vc : Nat), k ≤ tN x.n ∧ i = .int .i64 k ∧ l = .slice va k vc ∧ OfSt x W k va vc wr) (fun _ i _ => 6 - (intOf i).toNat)
  case atStart => exact ⟨0, none, 0, Nat.zero_le _, rfl, rfl, Below.refl _ _, own_nil_q _ _ _ _⟩
  case round =>
    obtain ⟨k, va, vc, hk, rfl, rfl, st⟩ := hrel
    have bx2 := bxH.out.later st.be
    have c25 : wr.cell? ⟨w.heap.size, 25, none⟩ = some (.int .i64 x.n) := bx2.at 25 _ rfl
    by_cases hlt : k < tN x.n
    · obtain ⟨a, ha, _⟩ := get_lt x.list k (by omega)
      obtain ⟨h6, hn⟩ := tN_lt hlt
      obtain ⟨hix, k0, k1, k2⟩ := ev_ix bx2 k a ha
      have hlen : (List.map Acc.cells (x.list.take k)).length = k := by rw [List.length_map, List.length_take]; omega
      have haH : Hid (x.list[k]? = some a) := ha
      have stH : Hid (OfSt x W k va vc wr) := st
      have hbs : Hid (W.heap.size ≤ wr.heap.size) := st.be.size
      have howH : Hid (OwnL wr W.heap.size 63 3 va vc ((x.list.take k).map Acc.cells)) := st.ow
      clear st bx2 ha
      go_wp2_with (first
        | (at_builtin; (refine wpList_app1 rfl (.tmp 15) (.tmp 20) 95 rfl W.heap.size 63 iA _ 3 24 Try.underlying95 hiA hzA hsA hbA rfl (by decide) va vc ((x.list.take k).map Acc.cells) (by rw [hlen]; rfl) howH.out a.cells rfl rfl (one3a [a] _ (by simp)) (by unfold maxLen; omega) (by omega) hbs.out ?_); intro va' vc' w2 hg; rw [hlen]))
      go_roundw
      case rel => exact ⟨k + 1, va', vc', by omega, by go_num, rfl, below_min stH.out.be hbs.out hg.be, by rw [take_one x.list k a haH.out, List.map_append]; exact hg.ow⟩
      case measure => simp [intOf]; omega
    · have hk2 : k = tN x.n := by omega
      have stH : Hid (OfSt x W k va vc wr) := st
      clear st bx2
      rcases tN_ge hk hlt with q | ⟨q, q2⟩
      all_goals
        go_wp2
        go_ret
        exact ⟨va, vc, by rw [Ev.of_len, ← hk2]; rfl, own_mono_q (by unfold Ev.of; rw [← hk2]; exact stH.out.ow) hws, bthen hbH.out stH.out.be⟩
end Go.Proofs.Ytbajfgllgfmnfaa.pg
