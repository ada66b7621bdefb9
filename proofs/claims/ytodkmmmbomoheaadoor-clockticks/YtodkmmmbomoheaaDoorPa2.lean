/- Trim, Split and Atoi at the texts of clocks; Parse of package clock. -/
import Derived.Test.YtodkmmmbomoheaaDoorPa1
import Derived.Test.YtodkmmmbomoheaaDoorShelf
import Derived.Shelf.Strings.SlTrimAscii
import Derived.Lib.AtoiErrMem
namespace Go.Proofs.YtodkmmmbomoheaaDoor.pg
open Go.ChangeShapes Go.WideShapes Go.ChangeAt Go.RowKit
set_option linter.unusedVariables false
set_option linter.unusedSimpArgs false
set_option maxRecDepth 100000
attribute [local go_sem ↓] Go.wp_at_zero Go.wp_at_succ
/-- The library's variables that are read: the table of the powers of ten; a length; two errors. -/
structure Vars (w : World) : Prop where
  tb : Tab w
  mx : ∃ m, w.cell? ⟨3, 0, none⟩ = some (.int .i64 m)
  es : ∃ ev, w.cell? ⟨0, 0, none⟩ = some ev ∧ (ev = .nilIface ∨ ∃ te pe, ev = .iface te pe)
  er : ∃ ev, w.cell? ⟨1, 0, none⟩ = some ev ∧ (ev = .nilIface ∨ ∃ te pe, ev = .iface te pe)
theorem Vars.later {w w' : World} (h : Vars w) (hb : Below w.heap.size w w') : Vars w' :=
  ⟨h.tb.later hb, h.mx.imp fun _ q => cell_later hb q, h.es.imp fun _ q => ⟨cell_later hb q.1, q.2⟩, h.er.imp fun _ q => ⟨cell_later hb q.1, q.2⟩⟩
theorem trim_len (l cs : List UInt8) : (Lib.trimS l cs).length ≤ l.length := by
  unfold Lib.trimS Lib.trimLeftS Lib.trimRightS
  refine Nat.le_trans (List.Sublist.length_le (List.dropWhile_sublist _)) ?_
  rw [List.length_reverse]
  refine Nat.le_trans (List.Sublist.length_le (List.dropWhile_sublist _)) ?_
  rw [List.length_reverse]; exact Nat.le_refl _
theorem inner_size (s : ByteArray) : (inner s).size ≤ s.size := by
  rw [Lib.size_eq, Lib.size_eq s]
  exact trim_len _ _
theorem splitK_le (sep : List UInt8) : ∀ (k : Nat) (l d : List UInt8), d ∈ Lib.splitK sep 0 k l → d.length ≤ l.length
  | 0, l, d, h => by simp only [Lib.splitK, List.mem_singleton] at h; rw [h]; exact Nat.le_refl _
  | k + 1, l, d, h => by
    unfold Lib.splitK at h
    split at h
    · simp only [List.mem_singleton] at h; rw [h]; exact Nat.le_refl _
    · rcases List.mem_cons.mp h with rfl | h
      · rw [List.length_take]; omega
      · have := splitK_le sep k _ d h
        rw [List.length_drop] at this
        omega
theorem piece_size {s d : ByteArray} (h : d ∈ pieces s) : d.size ≤ s.size := by
  have h1 : d.data.toList ∈ (pieces s).map (·.data.toList) := List.mem_map.mpr ⟨d, h, rfl⟩
  unfold pieces at h1
  rw [Lib.splitB_data] at h1
  have := splitK_le _ _ _ _ h1
  rw [Lib.size_eq]
  have h2 := inner_size s
  rw [Lib.size_eq] at h2
  omega
theorem trim_any (s : ByteArray) (hs : s.size ≤ 65536) (w : World) : Calls Tryd.prog 37 #[.string s, .string ⟨#[60, 62]⟩] w fun e w' => e = .returned (.string (inner s)) ∧ Below w.heap.size w w' :=
  Any.strings_Trim_laid Tryd.lays160 (by kernel_rfl) s ⟨#[60, 62]⟩ w (by omega) (by decide) (fun j b hj => by
    match j, hj with
    | 0, hj => simp at hj; subst hj; decide
    | 1, hj => simp at hj; subst hj; decide
    | j + 2, hj => simp at hj)
theorem split_any (s : ByteArray) (hs : s.size ≤ 65536) (w : World) (hV : Vars w) : Calls Tryd.prog 36 #[.string (inner s), .string ⟨#[44]⟩] w fun e w' => e = .returned (.slice (some ⟨w.heap.size, 0, none⟩) (pieces s).length (pieces s).length) ∧ w' = w.alloc (.cells ((pieces s).map Value.string).toArray 9) := by
  obtain ⟨m, hm⟩ := hV.mx
  have h := Tryd.strings_Split (inner s) ⟨#[44]⟩ m w (by have := inner_size s; omega) hm (by decide)
  rw [← pieces_len] at h
  exact h
theorem atoi_ok (d : ByteArray) (hd : d.size ≤ 65536) (v : Int) (h : Lib.atoiAll d.data.toList = .ok v) (w : World) : Calls Tryd.prog 38 #[.string d] w fun e w' => e = .returned (.tuple #[.int .i64 v, .nilIface]) ∧ Below w.heap.size w w' :=
  (Tryd.strconv_Atoi_ok d (by omega) v h w).mono fun e w' ⟨he, hw⟩ => ⟨he, by
    rcases hw with rfl | ⟨t, rfl⟩
    · exact Below.refl _ _
    · exact Lib.bytesWorld_below _ _ _⟩
theorem atoi_bad (d : ByteArray) (hd : d.size ≤ 65536) (h : ∀ v, Lib.atoiAll d.data.toList ≠ .ok v) (w : World) (hV : Vars w) : Calls Tryd.prog 38 #[.string d] w fun e w' => ∃ v T p, e = .returned (.tuple #[.int .i64 v, .iface T p]) ∧ Below w.heap.size w w' := by
  cases hq : Lib.atoiAll d.data.toList with
  | ok v => exact absurd hq (h v)
  | «syntax» =>
    obtain ⟨ev, h1, h2⟩ := hV.es
    exact (Tryd.strconv_Atoi_syntax d (by omega) hq ev w h1 h2).mono fun e w' ⟨N, he, _, _, hb⟩ => ⟨_, _, _, he, hb⟩
  | range =>
    obtain ⟨ev, h1, h2⟩ := hV.er
    exact (Tryd.strconv_Atoi_range d (by omega) hq ev w h1 h2).mono fun e w' ⟨N, he, _, _, hb⟩ => ⟨_, _, _, he, hb⟩
/-- Texts of a list in a block of their own. -/
def InL (w : World) (B : Nat) (L : List ByteArray) : Prop := w.heap[B]? = some (.cells (L.map Value.string).toArray 9 (0, 0))
theorem InL.lt {w : World} {B : Nat} {L : List ByteArray} (h : InL w B L) : B < w.heap.size := (Array.getElem?_eq_some_iff.mp h).1
theorem InL.later {w w' : World} {B : Nat} {L : List ByteArray} (h : InL w B L) (hb : Below w.heap.size w w') : InL w' B L := (hb.block B h.lt).trans h
theorem InL.cell {w : World} {B : Nat} {L : List ByteArray} (h : InL w B L) {k : Nat} {s : ByteArray} (hk : L[k]? = some s) : w.cell? ⟨B, k, none⟩ = some (.string s) := by
  rw [cell_of_row w B k _ _ _ h]
  simp [hk]
theorem strl_ix (B n k : Nat) (h : k < n) : ∀ wx, (Instr.indexAt 59 (.slice (some ⟨B, 0, none⟩) n n) (.int .i64 (k : Int))).run Tryd.prog wx = .ok (.pointer (some ⟨B, k, none⟩)) wx := by
  intro wx
  have he : Tryd.prog.elem 59 = 9 := by kernel_rfl
  rw [run_indexAt_slice wx 59 ⟨B, 0, none⟩ _ _ _ _ Tryd.underlying59, if_pos (by omega), he, Tryd.sizeOf9 wx]
  simp only [Result.andThen_ok, Int.toNat_natCast, Nat.mul_one, add_none, Nat.zero_add]
end Go.Proofs.YtodkmmmbomoheaaDoor.pg
