/- The document's own Text and Parse of clocks. -/
import Derived.Test.YtodkmmmbomoheaaDoorPa3
namespace Go.Proofs.YtodkmmmbomoheaaDoor.pg
open Go.ChangeShapes Go.WideShapes Go.ChangeAt Go.RowKit
set_option linter.unusedVariables false
set_option linter.unusedSimpArgs false
set_option maxRecDepth 100000
attribute [local go_sem ↓] Go.wp_at_zero Go.wp_at_succ
/-- The first k numbers, with commas between. -/
def jn (x : Ck) (k : Nat) : List UInt8 := Lib.join ((x.list.take k).map Lib.itoa) [44]
theorem join_snoc (a : List UInt8) (r : List (List UInt8)) (y sep : List UInt8) : Lib.join ((a :: r) ++ [y]) sep = Lib.join (a :: r) sep ++ (sep ++ y) := by
  rw [List.cons_append, Lib.join_cons, Lib.join_cons]
  simp [Lib.joinTail]
theorem jn_zero {x : Ck} {n : Int} (h : x.list[0]? = some n) : jn x 1 = Lib.itoa n := by
  unfold jn
  rw [List.take_add_one, h]
  simp [Lib.join_one]
theorem jn_more {x : Ck} {k : Nat} {n : Int} (hk : 0 < k) (h : x.list[k]? = some n) : jn x (k + 1) = jn x k ++ (44 :: Lib.itoa n) := by
  unfold jn
  rw [List.take_add_one, h]
  have hl : x.list.take k ≠ [] := by
    intro q
    have := congrArg List.length q
    rw [List.length_take, Ck.list_len] at this
    simp at this
    omega
  obtain ⟨a, r, e⟩ := List.exists_cons_of_ne_nil hl
  rw [e]
  simp only [Option.toList_some, List.map_append, List.map_cons, List.map_nil]
  rw [show (Lib.itoa a :: List.map Lib.itoa r) ++ [Lib.itoa n] = (Lib.itoa a :: List.map Lib.itoa r) ++ [Lib.itoa n] from rfl, join_snoc]
  rfl
theorem jn_six (x : Ck) : jn x 6 = midT x := by
  unfold jn midT
  rw [List.take_of_length_le (by rw [Ck.list_len]; omega)]
  simp only [List.map_map]
  congr 1
theorem app_list (a b : ByteArray) : (a ++ b).data.toList = a.data.toList ++ b.data.toList := by simp [ByteArray.data_append]
theorem num_size {n : Int} (h : okC n) : (numT n).size ≤ 21 := by
  rw [Lib.size_eq, num_list]
  exact Lib.itoa_length_le n (by unfold okC at h; omega) (by unfold okC at h; omega)
set_option maxHeartbeats 1000000 in
theorem rtext_any (x : Ck) (hx : x.ok) (w : World) (hT : Tab w) : Calls Tryd.prog 23 #[x.val] w fun e w' => e = .returned (.string (textK x)) ∧ Below w.heap.size w w' := by
  have hxH : Hid x.ok := hx
  have hTH : Hid (Tab w) := hT
  clear hx hT
  go_enter Tryd.func23, Tryd.ntmps23
  go_wp2
  have hb0 : Hid (Below w.heap.size w (w.alloc (objK x))) := boxed _ _
  generalize w.alloc (objK x) = W0 at *
  go_loopw [3, 7] (fun t u wr => ∃ (k : Nat) (S : ByteArray), k ≤ 6 ∧ u = .int .i64 k ∧ t = .string S ∧ S.size ≤ 1 + 22 * k ∧ Hid (Below w.heap.size w wr ∧ S.data.toList = 60 :: jn x k)) (fun _ u _ => 6 - (intOf u).toNat)
  case atStart => exact ⟨0, ⟨#[60]⟩, by omega, rfl, rfl, by decide, hb0, rfl⟩
  case round =>
    obtain ⟨k, S, hk, rfl, rfl, hsz, sH⟩ := hrel
    by_cases hlt : k < 6
    · obtain ⟨n, hn, hm⟩ := get_lt x.list k hlt
      have hix := ck_ix x k n hn
      have hkI : (k : Int) < 6 := by omega
      have hok := hxH.out n hm
      have hts := num_size hok
      have c2 : ∀ wx, Tab wx → Calls Tryd.prog 34 #[.int .i64 n] wx _ := fun wx h => itoa_any n (by unfold okC at hok; omega) (by unfold okC at hok; omega) wx h
      have hnH : Hid (x.list[k]? = some n) := hn
      have hTl : Hid ((numT n).data.toList = Lib.itoa n) := num_list n
      clear hn hm hok
      generalize numT n = T at *
      by_cases h0 : k = 0
      · subst h0
        have hS2 : Hid ((S ++ T).data.toList = 60 :: jn x 1) := by show _ = _; rw [app_list, sH.out.2, hTl.out, jn_zero hnH.out]; rfl
        have hz2 : Hid ((S ++ T).size ≤ 1 + 22 * 1) := by simp only [Hid, ByteArray.size_append]; omega
        have hix0 : ∀ wx, (Instr.index 23 x.val (.int .i64 0)).run Tryd.prog wx = .ok (.int .i64 n) wx := hix
        clear hix
        go_wp2_with (go_at_call 34; (with_reducible refine (c2 _ (hTH.out.later sH.out.1)).mono ?_); rintro e w2 ⟨rfl, hb2⟩)
        go_roundw
        case rel => exact ⟨1, S ++ T, by omega, by go_num, rfl, hz2.out, bthen sH.out.1 hb2, hS2.out⟩
        case measure => simp [intOf]
      · have hk0 : (0 : Int) < k := by omega
        have hS2 : Hid ((S ++ ⟨#[44]⟩ ++ T).data.toList = 60 :: jn x (k + 1)) := by show _ = _; rw [app_list, app_list, sH.out.2, hTl.out, jn_more (by omega) hnH.out]; simp
        have hz2 : Hid ((S ++ ⟨#[44]⟩ ++ T).size ≤ 1 + 22 * (k + 1)) := by
          have : (⟨#[44]⟩ : ByteArray).size = 1 := rfl
          simp only [Hid, ByteArray.size_append, this]; omega
        go_wp2_with (go_at_call 34; (with_reducible refine (c2 _ (hTH.out.later sH.out.1)).mono ?_); rintro e w2 ⟨rfl, hb2⟩)
        go_roundw
        case rel => exact ⟨k + 1, S ++ ⟨#[44]⟩ ++ T, by omega, by go_num, rfl, hz2.out, bthen sH.out.1 hb2, hS2.out⟩
        case measure => simp [intOf]; omega
    · have hk6 : k = 6 := by omega
      subst hk6
      have hE : Hid (S ++ ⟨#[62]⟩ = textK x) := by
        apply bytes_ext
        rw [app_list, sH.out.2, text_list, jn_six]
        rfl
      go_wp2
      go_ret
      exact ⟨by rw [← hE.out]; rfl, sH.out.1⟩
theorem byte_ix (s : ByteArray) (i : Nat) (c : UInt8) (r : List UInt8) (h : s.data.toList.drop i = c :: r) : i < s.size ∧ (∀ wx, (Instr.index 9 (.string s) (.int .i64 (i : Int))).run Tryd.prog wx = .ok (.int .u8 (c.toNat : Int)) wx) ∧ s.data.toList.drop (i + 1) = r := by
  have hl : i < s.data.toList.length := by
    rcases Nat.lt_or_ge i s.data.toList.length with q | q
    · exact q
    · rw [List.drop_of_length_le q] at h; cases h
  have hs : i < s.size := by rw [Lib.size_eq]; exact hl
  rw [List.drop_eq_getElem_cons hl] at h
  simp only [List.cons.injEq] at h
  refine ⟨hs, fun wx => ?_, h.2⟩
  rw [run_index_string wx 9 s .i64 (i : Int) Tryd.underlying9, dif_pos ⟨by omega, by omega⟩]
  have : s[((i : Int)).toNat]'(by omega) = c := by
    rw [← h.1]
    simp only [Int.toNat_natCast]
    rfl
  rw [this]
/-- How far the document's own reader has come. -/
structure QSt (w : World) (R0 A : Nat) (a : Ck) (wr : World) : Prop where
  be : Below w.heap.size w wr
  rs : InB wr R0 zeroK
  al : InB wr A a
theorem QSt.put {w : World} {R0 A n : Nat} {a : Ck} {wr : World} (h : QSt w R0 A a wr) (hn : n < 6) (hA : w.heap.size ≤ A) (hR : R0 ≠ A) (v : Int) : QSt w R0 A (a.put n v) (wr.setCell ⟨A, n, none⟩ (.int .i64 v)) :=
  ⟨h.be.setCell (p := ⟨A, n, none⟩) hA _, h.rs.setCell hR _, h.al.put hn v⟩
theorem rparse_long (s : ByteArray) (hs : 65536 < s.size) (w : World) : Calls Tryd.prog 22 #[.string s] w fun e w' => e = .returned (.tuple #[zeroK.val, .int .i64 2]) ∧ Below w.heap.size w w' := by
  have hI : (65536 : Int) < s.size := by omega
  have hz2 := inB_new w zeroK
  clear hs
  go_enter Tryd.func22, Tryd.ntmps22
  go_wp2_with (refine wpList_store_row rfl 23 _ _ rfl w.heap.size _ rfl rfl _ _ hz2 infoK rfl (one6 zeroK) ?_)
  exact bodyPost_ret (results_ck Tryd.results22 _ _ w.heap.size zeroK _ rfl rfl (hz2.set zeroK)) rfl ⟨rfl, below_setRow (boxed _ _) (Nat.le_refl _) _⟩
theorem rp_no {s : ByteArray} (h : rp (s.data.toList.drop 1) 0 false zeroK = none) (x : Ck) (hx : x.ok) : s ≠ textK x := fun q => by
  subst q
  rw [text_list] at h
  simp only [List.drop_succ_cons, List.drop_zero] at h
  rw [rp_text x hx] at h
  cases h
theorem rp_other {s : ByteArray} {a : Ck} (h : rp (s.data.toList.drop 1) 0 false zeroK = some a) (hne : textK a ≠ s) (x : Ck) (hx : x.ok) : s ≠ textK x := fun q => by
  subst q
  rw [text_list] at h
  simp only [List.drop_succ_cons, List.drop_zero] at h
  rw [rp_text x hx] at h
  cases h
  exact hne rfl
theorem zero_ok : zeroK.ok := by rw [Ck.ok_iff]; simp [okC]
end Go.Proofs.YtodkmmmbomoheaaDoor.pg
