/- The text of a clock, by package clock. -/
import Derived.Test.YtodkmmmbomoheaaDoorCk8
import Derived.Test.YtodkmmmbomoheaaDoorShelf
import Derived.Lib.AppendIntMem
import Derived.Lib.ItoaLen
import Derived.Lib.Join
namespace Go.Proofs.YtodkmmmbomoheaaDoor.pg
open Go.ChangeShapes Go.WideShapes Go.ChangeAt Go.RowKit
set_option linter.unusedVariables false
set_option linter.unusedSimpArgs false
set_option maxRecDepth 100000
attribute [local go_sem ↓] Go.wp_at_zero Go.wp_at_succ
/-- The library's table of the powers of ten is as its initialiser lays it. -/
def Tab (w : World) : Prop := Lib.TabIs Tryd.prog w "internal/strconv.uint64pow10" .u64 Lib.pow10Tab
theorem Tab.later {w w' : World} (h : Tab w) (hb : Below w.heap.size w w') : Tab w' := by
  unfold Tab Lib.TabIs World.var? at *
  obtain ⟨g, hg⟩ : ∃ g, Tryd.prog.globalNamed "internal/strconv.uint64pow10" = some g := by
    cases hg : Tryd.prog.globalNamed "internal/strconv.uint64pow10" with
    | none => simp [hg] at h
    | some g => exact ⟨g, rfl⟩
  simp only [hg, Option.bind_some] at h ⊢
  have hlt : g < w.heap.size := by
    rcases Nat.lt_or_ge g w.heap.size with h' | h'
    · exact h'
    · simp [Array.getElem?_eq_none h'] at h
  rw [hb.block g hlt]; exact h
/-- The text of a number. -/
def numT (n : Int) : ByteArray := ⟨(Lib.itoa n).toArray⟩
theorem itoa_any (n : Int) (h0 : -9223372036854775808 ≤ n) (h1 : n ≤ 9223372036854775807) (w : World) (hT : Tab w) : Calls Tryd.prog 34 #[.int .i64 n] w fun e w' => e = .returned (.string (numT n)) ∧ Below w.heap.size w w' :=
  (Tryd.strconv_Itoa n h0 h1 w hT).mono fun e w' ⟨he, k, os, hw⟩ => ⟨he, by rw [hw]; exact Lib.below_grow _ w (Nat.le_refl _) k os⟩
/-- A clock's text, between its brackets. -/
def midT (x : Ck) : List UInt8 := Lib.join ((x.list.map numT).map (·.data.toList)) [44]
def textK (x : Ck) : ByteArray := (⟨#[60]⟩ : ByteArray) ++ ⟨(midT x).toArray⟩ ++ ⟨#[62]⟩
theorem mid_len (x : Ck) (hx : x.ok) : (midT x).length ≤ 131 := by
  have hn : ∀ n ∈ x.list, (Lib.itoa n).length ≤ 21 := fun n hn => Lib.itoa_length_le n (by have := hx n hn; unfold okC at this; omega) (by have := hx n hn; unfold okC at this; omega)
  have h0 := hn x.c0 (by simp [Ck.list])
  have h1 := hn x.c1 (by simp [Ck.list])
  have h2 := hn x.c2 (by simp [Ck.list])
  have h3 := hn x.c3 (by simp [Ck.list])
  have h4 := hn x.c4 (by simp [Ck.list])
  have h5 := hn x.c5 (by simp [Ck.list])
  unfold midT Ck.list
  simp only [List.map_cons, List.map_nil]
  rw [Lib.join_length]
  simp only [Lib.lens, List.map_cons, List.map_nil, List.length_cons, List.length_nil, List.sum_cons, List.sum_nil, numT]
  omega
/-- Texts in a block of their own. -/
def InS (w : World) (B : Nat) (L : List ByteArray) : Prop := w.heap[B]? = some (.cells (L.map Value.string).toArray 56 (0, 0))
theorem InS.lt {w : World} {B : Nat} {L : List ByteArray} (h : InS w B L) : B < w.heap.size := (Array.getElem?_eq_some_iff.mp h).1
theorem InS.later {w w' : World} {B : Nat} {L : List ByteArray} (h : InS w B L) (hb : Below w.heap.size w w') : InS w' B L := (hb.block B h.lt).trans h
theorem InS.cell {w : World} {B : Nat} {L : List ByteArray} (h : InS w B L) {k : Nat} {s : ByteArray} (hk : L[k]? = some s) : w.cell? ⟨B, k, none⟩ = some (.string s) ∧ w.frozen? ⟨B, k, none⟩ = false := by
  refine ⟨?_, frozen_of_row w B k _ _ h⟩
  rw [cell_of_row w B k _ _ _ h]
  simp [hk]
theorem InS.put {w : World} {B : Nat} {L : List ByteArray} (h : InS w B L) (k : Nat) (s : ByteArray) : InS (w.setCell ⟨B, k, none⟩ (.string s)) B (L.set k s) := by
  rw [setCell_eq_setRow w B k _ _ _ _ h]
  refine (setRow_heap w B _ _ _ _ h).trans ?_
  rw [List.setIfInBounds_toArray, List.map_set]
theorem strs_at (B : Nat) (k : Nat) (h : k < 6) : ∀ wx, (Instr.indexAt 56 (.pointer (some ⟨B, 0, none⟩)) (.int .i64 (k : Int))).run Tryd.prog wx = .ok (.pointer (some ⟨B, k, none⟩)) wx := by
  match k, h with
  | 0, _ => exact fun _ => by kernel_rfl
  | 1, _ => exact fun _ => by kernel_rfl
  | 2, _ => exact fun _ => by kernel_rfl
  | 3, _ => exact fun _ => by kernel_rfl
  | 4, _ => exact fun _ => by kernel_rfl
  | 5, _ => exact fun _ => by kernel_rfl
theorem strs_slice (B : Nat) : ∀ wx, (Instr.sliceAt 56 (.pointer (some ⟨B, 0, none⟩)) none none none).run Tryd.prog wx = .ok (.slice (some ⟨B, 0, none⟩) 6 6) wx := by
  have u := Tryd.underlying56
  have z := Tryd.sizeOf9
  exact fun wx => by simp [Instr.sliceAt, run_underlying u, asIntOf, go_sem, z]
abbrev none6 : List ByteArray := [⟨#[]⟩, ⟨#[]⟩, ⟨#[]⟩, ⟨#[]⟩, ⟨#[]⟩, ⟨#[]⟩]
/-- How far the texts of the numbers have come. -/
structure TxS (w : World) (n B k : Nat) (x : Ck) (wr : World) : Prop where
  be : Below n w wr
  nl : n ≤ wr.heap.size
  ss : InS wr B ((x.list.map numT).take k ++ none6.drop k)
theorem text_bad (x : Ck) (hx : ¬ x.ok) (w : World) : Calls Tryd.prog 20 #[x.val] w fun e w' => e = .returned (.tuple #[.string ⟨#[]⟩, .int .i64 1]) ∧ Below w.heap.size w w' := by
  have c1 : ∀ wx, Calls Tryd.prog 13 #[x.val] wx _ := fun wx => check_bad x hx wx
  clear hx
  go_enter Tryd.func20, Tryd.ntmps20
  go_wp2_with (go_at_call 13; (with_reducible refine (c1 _).mono ?_); rintro e w1 ⟨rfl, hb1⟩)
  go_ret2
  exact ⟨rfl, bthen (boxed _ _) hb1⟩
set_option maxHeartbeats 1000000 in
theorem text_any (x : Ck) (hx : x.ok) (w : World) (hT : Tab w) : Calls Tryd.prog 20 #[x.val] w fun e w' => e = .returned (.tuple #[.string (textK x), .int .i64 0]) ∧ Below w.heap.size w w' := by
  have c1 : ∀ wx, Calls Tryd.prog 13 #[x.val] wx _ := fun wx => check_ok x hx wx
  have hxH : Hid x.ok := hx
  have hTH : Hid (Tab w) := hT
  have hsl := strs_slice
  clear hx hT
  go_enter Tryd.func20, Tryd.ntmps20
  go_wp2_with (first
    | (go_at_call 13; (with_reducible refine (c1 _).mono ?_); rintro e w1 ⟨rfl, hb1⟩; (have hx2 := ((inB_new w x).later hb1)); (have hB1 : Hid (Below w.heap.size w w1) := bthen (boxed _ _) hb1); (have hx3 := hx2.later (boxed w1 (.cells #[.string ⟨#[]⟩, .string ⟨#[]⟩, .string ⟨#[]⟩, .string ⟨#[]⟩, .string ⟨#[]⟩, .string ⟨#[]⟩] 56))); clear hb1 c1)
    | (refine wpList_load_row rfl 23 _ rfl w.heap.size rfl _ _ _ _ hx3 Tryd.underlying23 rfl infoK ?_))
  have st : Hid (TxS w w.heap.size w1.heap.size 0 x (w1.alloc (.cells #[.string ⟨#[]⟩, .string ⟨#[]⟩, .string ⟨#[]⟩, .string ⟨#[]⟩, .string ⟨#[]⟩, .string ⟨#[]⟩] 56))) := ⟨bthen hB1.out (boxed _ _), (bthen hB1.out (boxed _ _)).size, heap_alloc_new _ _⟩
  have hlo : Hid (w.heap.size ≤ w1.heap.size) := hB1.out.size
  clear hx2 hx3 hB1
  generalize w1.alloc _ = W0 at *
  generalize w1.heap.size = B at *
  go_loopw [14] (fun u wr => ∃ k : Nat, k ≤ 6 ∧ u = .int .i64 k ∧ Hid (TxS w w.heap.size B k x wr)) (fun u _ => 6 - (intOf u).toNat)
  case atStart => exact ⟨0, by omega, rfl, st⟩
  case round =>
    obtain ⟨k, hk, rfl, sH⟩ := hrel
    clear st
    by_cases hlt : k < 6
    · obtain ⟨n, hn, hm⟩ := get_lt x.list k hlt
      have hix := ck_ix x k n hn
      have hat := strs_at B k hlt
      have hkI : (k : Int) < 6 := by omega
      have hok := hxH.out n hm
      have c2 : ∀ wx, Tab wx → Calls Tryd.prog 34 #[.int .i64 n] wx _ := fun wx h => itoa_any n (by unfold okC at hok; omega) (by unfold okC at hok; omega) wx h
      have hnH : Hid (x.list[k]? = some n) := hn
      have hs5 : Hid (∃ s, ((x.list.map numT).take k ++ none6.drop k)[k]? = some s) := by
        obtain ⟨s, hs, _⟩ := get_lt none6 k hlt
        exact ⟨s, by rw [mix_at (M := x.list.map numT) (X := none6) rfl hlt]; exact hs⟩
      clear hn hm hok
      obtain ⟨s5, hs5⟩ := hs5.out
      have hs5H : Hid (((x.list.map numT).take k ++ none6.drop k)[k]? = some s5) := hs5
      clear hs5
      go_wp2_with (go_at_call 34; (with_reducible refine (c2 _ (hTH.out.later sH.out.be)).mono ?_); rintro e w2 ⟨rfl, hb2⟩; (obtain ⟨q1, q2⟩ := (sH.out.ss.later hb2).cell hs5H.out); (have hs6 : Hid (TxS w w.heap.size B (k + 1) x (w2.setCell ⟨B, k, none⟩ (.string (numT n)))) := ⟨(sH.out.be.trans (hb2.mono sH.out.nl)).setCell (p := ⟨B, k, none⟩) hlo.out _, by rw [World.size_setCell]; exact Nat.le_trans sH.out.nl hb2.size, by rw [← set_mix (M := x.list.map numT) (X := none6) rfl hlt (by rw [List.getElem?_map, hnH.out]; rfl)]; exact (sH.out.ss.later hb2).put k _⟩); clear hb2)
      go_roundw
      case rel => exact ⟨k + 1, by omega, by go_num, hs6⟩
      case measure => simp [intOf]; omega
    · have hk6 : k = 6 := by omega
      subst hk6
      have hss : InS wr B (x.list.map numT) := by
        have := sH.out.ss
        rw [List.take_of_length_le (by simp [Ck.list]), List.drop_of_length_le (by simp), List.append_nil] at this
        exact this
      have c3 : Calls Tryd.prog 35 #[.slice (some ⟨B, 0, none⟩) 6 6, .string ⟨#[44]⟩] wr fun e w' => e = .returned (.string ⟨(midT x).toArray⟩) ∧ Below wr.heap.size wr w' := Tryd.strings_Join B 0 6 (x.list.map numT) ⟨#[44]⟩ wr (fun j s hj => by rw [Nat.zero_add]; exact (hss.cell hj).1) hss.lt (by simp [Ck.list]) (by simp [Ck.list]) (Nat.le_trans (mid_len x hxH.out) (by omega))
      have hbe : Hid (Below w.heap.size w wr) := sH.out.be
      clear hss
      generalize hM : (⟨(midT x).toArray⟩ : ByteArray) = M at c3
      have hMH : Hid ((⟨(midT x).toArray⟩ : ByteArray) = M) := hM
      have hMs : M.size ≤ 131 := by
        rw [← hM]
        exact mid_len x hxH.out
      clear hM
      go_wp2_with (go_at_call 35; (with_reducible refine c3.mono ?_); rintro e w3 ⟨rfl, hb3⟩)
      go_ret2
      exact ⟨by unfold textK; rw [hMH.out]; rfl, bthen hbe.out hb3⟩
end Go.Proofs.YtodkmmmbomoheaaDoor.pg
