/- The document's own Text and Parse of clocks. -/
import Derived.Test.YtodkmmmbomoheabDoorPa3
namespace Go.Proofs.YtodkmmmbomoheabDoor.pg
open Go.ChangeShapes Go.WideShapes Go.ChangeAt Go.RowKit
set_option linter.unusedVariables false
set_option linter.unusedSimpArgs false
set_option maxRecDepth 100000
attribute [local go_sem ↓] Go.wp_at_zero Go.wp_at_succ
/-- The first k numbers, with commas between. -/
def jn (x : Ck) (k : Nat) : List UInt8 := Lib.join ((x.list.take k).map Lib.itoa) [44]
theorem join_snoc (a : List UInt8) (r : List (List UInt8)) (y sep : List UInt8) : Lib.join ((a :: r) ++ [y]) sep = Lib.join (a :: r) sep ++ (sep ++ y) := by
  rw [List.cons_append, Lib.join_cons, Lib.join_cons]
  simp [Lib.joinTail]
theorem jn_zero {x : Ck} {n : Int} (h : x.list[0]? = some n) : jn x 1 = Lib.itoa n := by
  unfold jn
  rw [List.take_add_one, h]
  simp [Lib.join_one]
theorem jn_more {x : Ck} {k : Nat} {n : Int} (hk : 0 < k) (h : x.list[k]? = some n) : jn x (k + 1) = jn x k ++ (44 :: Lib.itoa n) := by
  unfold jn
  rw [List.take_add_one, h]
  have hl : x.list.take k ≠ [] := by
    intro q
    have := congrArg List.length q
    rw [List.length_take, Ck.list_len] at this
    simp at this
    omega
  obtain ⟨a, r, e⟩ := List.exists_cons_of_ne_nil hl
  rw [e]
  simp only [Option.toList_some, List.map_append, List.map_cons, List.map_nil]
  rw [show (Lib.itoa a :: List.map Lib.itoa r) ++ [Lib.itoa n] = (Lib.itoa a :: List.map Lib.itoa r) ++ [Lib.itoa n] from rfl, join_snoc]
  rfl
theorem jn_six (x : Ck) : jn x 6 = midT x := by
  unfold jn midT
  rw [List.take_of_length_le (by rw [Ck.list_len]; omega)]
  simp only [List.map_map]
  congr 1
theorem app_list (a b : ByteArray) : (a ++ b).data.toList = a.data.toList ++ b.data.toList := by simp [ByteArray.data_append]
theorem num_size {n : Int} (h : okC n) : (numT n).size ≤ 21 := by
  rw [Lib.size_eq, num_list]
  exact Lib.itoa_length_le n (by unfold okC at h; omega) (by unfold okC at h; omega)
theorem byte_ix (s : ByteArray) (i : Nat) (c : UInt8) (r : List UInt8) (h : s.data.toList.drop i = c :: r) : i < s.size ∧ (∀ wx, (Instr.index 9 (.string s) (.int .i64 (i : Int))).run Tryd.prog wx = .ok (.int .u8 (c.toNat : Int)) wx) ∧ s.data.toList.drop (i + 1) = r := by
  have hl : i < s.data.toList.length := by
    rcases Nat.lt_or_ge i s.data.toList.length with q | q
    · exact q
    · rw [List.drop_of_length_le q] at h; cases h
  have hs : i < s.size := by rw [Lib.size_eq]; exact hl
  rw [List.drop_eq_getElem_cons hl] at h
  simp only [List.cons.injEq] at h
  refine ⟨hs, fun wx => ?_, h.2⟩
  rw [run_index_string wx 9 s .i64 (i : Int) Tryd.underlying9, dif_pos ⟨by omega, by omega⟩]
  have : s[((i : Int)).toNat]'(by omega) = c := by
    rw [← h.1]
    simp only [Int.toNat_natCast]
    rfl
  rw [this]
/-- How far the document's own reader has come. -/
structure QSt (w : World) (R0 A : Nat) (a : Ck) (wr : World) : Prop where
  be : Below w.heap.size w wr
  rs : InB wr R0 zeroK
  al : InB wr A a
theorem QSt.put {w : World} {R0 A n : Nat} {a : Ck} {wr : World} (h : QSt w R0 A a wr) (hn : n < 6) (hA : w.heap.size ≤ A) (hR : R0 ≠ A) (v : Int) : QSt w R0 A (a.put n v) (wr.setCell ⟨A, n, none⟩ (.int .i64 v)) :=
  ⟨h.be.setCell (p := ⟨A, n, none⟩) hA _, h.rs.setCell hR _, h.al.put hn v⟩
theorem rp_no {s : ByteArray} (h : rp (s.data.toList.drop 1) 0 false zeroK = none) (x : Ck) (hx : x.ok) : s ≠ textK x := fun q => by
  subst q
  rw [text_list] at h
  simp only [List.drop_succ_cons, List.drop_zero] at h
  rw [rp_text x hx] at h
  cases h
theorem rp_other {s : ByteArray} {a : Ck} (h : rp (s.data.toList.drop 1) 0 false zeroK = some a) (hne : textK a ≠ s) (x : Ck) (hx : x.ok) : s ≠ textK x := fun q => by
  subst q
  rw [text_list] at h
  simp only [List.drop_succ_cons, List.drop_zero] at h
  rw [rp_text x hx] at h
  cases h
  exact hne rfl
theorem zero_ok : zeroK.ok := by rw [Ck.ok_iff]; simp [okC]
end Go.Proofs.YtodkmmmbomoheabDoor.pg
