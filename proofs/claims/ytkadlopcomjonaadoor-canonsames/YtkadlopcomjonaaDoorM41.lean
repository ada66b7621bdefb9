/- The document's text of an event. -/
import Derived.Test.YtkadlopcomjonaaDoorM40
import Derived.Test.YtkadlopcomjonaaDoorM33
namespace Go.Proofs.YtkadlopcomjonaaDoor.pg
open Go.ChangeShapes Go.WideShapes Go.ChangeAt Go.RowKit Go.Shelf
set_option linter.unusedVariables false
set_option linter.unusedSimpArgs false
set_option maxRecDepth 100000
/-- The text of a number. -/
def numK (n : Int) : ByteArray := ⟨(Lib.itoa n).toArray⟩
theorem numK_list (n : Int) : (numK n).data.toList = Lib.itoa n := by simp [numK]
theorem numK_size {n : Int} (h : I64 n) : (numK n).size ≤ 21 := by
  rw [Lib.size_eq, numK_list]
  exact Lib.itoa_length_le n h.1 h.2
theorem itoa_anyK (n : Int) (h : I64 n) (w : World) (hT : Tab w) : Calls Tryd.prog 31 #[.int .i64 n] w fun e w' => e = .returned (.string (numK n)) ∧ Below w.heap.size w w' :=
  (Tryd.strconv_Itoa n h.1 h.2 w hT).mono fun e w' ⟨he, k, os, hw⟩ => ⟨he, by rw [hw]; exact Lib.below_grow _ w (Nat.le_refl _) k os⟩
theorem fmt_anyK (n : Int) (h : I64 n) (w : World) (hT : Tab w) : Calls Tryd.prog 32 #[.int .i64 n, .int .i64 10] w fun e w' => e = .returned (.string (numK n)) ∧ Below w.heap.size w w' :=
  (Tryd.strconv_FormatInt_10 n h.1 h.2 w hT).mono fun e w' ⟨he, k, os, hw⟩ => ⟨he, by rw [hw]; exact Lib.below_grow _ w (Nat.le_refl _) k os⟩
theorem bytes_extK {a b : ByteArray} (h : a.data.toList = b.data.toList) : a = b := by
  cases a; cases b; simp at h; simp [h]
theorem app_listK (a b : ByteArray) : (a ++ b).data.toList = a.data.toList ++ b.data.toList := by simp [ByteArray.data_append]
theorem nest7 (x : Ev) {T0 T1 T2 T3 T4 T5 T6 : ByteArray} (h0 : numK x.go = T0) (h1 : numK x.fn = T1) (h2 : numK x.pc = T2) (h3 : numK x.op = T3) (h4 : numK x.alt = T4) (h5 : numK x.vl = T5) (h6 : numK x.tag = T6) : (T0 ++ ⟨#[44]⟩ ++ T1 ++ ⟨#[44]⟩ ++ T2 ++ ⟨#[44]⟩ ++ T3 ++ ⟨#[44]⟩ ++ T4 ++ ⟨#[44]⟩ ++ T5 ++ ⟨#[44]⟩ ++ T6 : ByteArray).data.toList = numsB (evH x) := by
  subst h0; subst h1; subst h2; subst h3; subst h4; subst h5; subst h6
  simp only [app_listK, numK_list, evH, numsB]
  simp
theorem itoa_bit (b : Bool) : Lib.itoa (bitI b) = [if b then 49 else 48] := by cases b <;> decide +kernel
theorem nest_acc (a : Acc) {S T1 T2 : ByteArray} (h1 : numK a.kind = T1) (h2 : numK a.num = T2) : (S ++ ⟨#[58]⟩ ++ T1 ++ ⟨#[44]⟩ ++ T2 ++ ⟨#[44, if a.wr then 49 else 48]⟩).data.toList = S.data.toList ++ ([58] ++ numsB (accL a)) := by
  subst h1; subst h2
  simp only [app_listK, numK_list, accL, numsB, itoa_bit]
  simp
theorem ix_touch (B j : Nat) (h : j < 6) : ∀ wx, (Instr.indexAt 40 (.pointer (some ⟨B, 7, none⟩)) (.int .i64 (j : Int))).run Tryd.prog wx = .ok (.pointer (some ⟨B, 7 + j * 3, none⟩)) wx := by
  match j, h with
  | 0, _ => exact fun _ => by kernel_rfl
  | 1, _ => exact fun _ => by kernel_rfl
  | 2, _ => exact fun _ => by kernel_rfl
  | 3, _ => exact fun _ => by kernel_rfl
  | 4, _ => exact fun _ => by kernel_rfl
  | 5, _ => exact fun _ => by kernel_rfl
set_option maxHeartbeats 8000000 in
theorem line_any (x : Ev) (hx : x.wf) (hr : rightP x) (w : World) (hT : Tab w) : Calls Tryd.prog 20 #[.agg x.cells.toArray] w fun e w' => e = .returned (.string ⟨(lineB (evL x)).toArray⟩) ∧ Below w.heap.size w w' := by
  have hxw : Hid x.wf := hx
  have hxr : Hid (rightP x) := hr
  have hTH : Hid (Tab w) := hT
  have hbx : Hid (BoxE (w.alloc (objE x)) w.heap.size x) := boxE_new w x
  have hb0 : Hid (Below w.heap.size w (w.alloc (objE x))) := boxed _ _
  have hTW : Hid (Tab (w.alloc (objE x))) := hT.later hb0.out
  clear hx hr hT
  go_enter Tryd.func20, Tryd.ntmps20
  go_upto_region 1 with fail
  change Code.wp _ _ _ _ (w.alloc (objE x))
  generalize w.alloc (objE x) = W0 at *
  obtain ⟨T0, hT0⟩ : ∃ T, numK x.go = T := ⟨_, rfl⟩
  have hz0 : T0.size ≤ 21 := by rw [← hT0]; exact numK_size (hxw.out.1.1)
  have cT0 : ∀ q : Cls (Bey W0), Calls Tryd.prog 31 #[.int .i64 x.go] q.w fun e w' => e = .returned (.string T0) ∧ Below q.w.heap.size q.w w' := fun q => by rw [← hT0]; exact itoa_anyK x.go (hxw.out.1.1) q.w (hTW.out.later q.h)
  have zc0 : ∀ q : Cls (Bey W0), q.w.cell? ⟨w.heap.size, 0, none⟩ = some (.int .i64 x.go) := fun q => bey_cell (hbx.out.at 0 _ rfl) q
  obtain ⟨T1, hT1⟩ : ∃ T, numK x.fn = T := ⟨_, rfl⟩
  have hz1 : T1.size ≤ 21 := by rw [← hT1]; exact numK_size (hxw.out.1.2.1)
  have cT1 : ∀ q : Cls (Bey W0), Calls Tryd.prog 31 #[.int .i64 x.fn] q.w fun e w' => e = .returned (.string T1) ∧ Below q.w.heap.size q.w w' := fun q => by rw [← hT1]; exact itoa_anyK x.fn (hxw.out.1.2.1) q.w (hTW.out.later q.h)
  have zc1 : ∀ q : Cls (Bey W0), q.w.cell? ⟨w.heap.size, 1, none⟩ = some (.int .i64 x.fn) := fun q => bey_cell (hbx.out.at 1 _ rfl) q
  obtain ⟨T2, hT2⟩ : ∃ T, numK x.pc = T := ⟨_, rfl⟩
  have hz2 : T2.size ≤ 21 := by rw [← hT2]; exact numK_size (hxw.out.1.2.2.1)
  have cT2 : ∀ q : Cls (Bey W0), Calls Tryd.prog 31 #[.int .i64 x.pc] q.w fun e w' => e = .returned (.string T2) ∧ Below q.w.heap.size q.w w' := fun q => by rw [← hT2]; exact itoa_anyK x.pc (hxw.out.1.2.2.1) q.w (hTW.out.later q.h)
  have zc2 : ∀ q : Cls (Bey W0), q.w.cell? ⟨w.heap.size, 2, none⟩ = some (.int .i64 x.pc) := fun q => bey_cell (hbx.out.at 2 _ rfl) q
  obtain ⟨T3, hT3⟩ : ∃ T, numK x.op = T := ⟨_, rfl⟩
  have hz3 : T3.size ≤ 21 := by rw [← hT3]; exact numK_size (hxw.out.1.2.2.2.1)
  have cT3 : ∀ q : Cls (Bey W0), Calls Tryd.prog 31 #[.int .i64 x.op] q.w fun e w' => e = .returned (.string T3) ∧ Below q.w.heap.size q.w w' := fun q => by rw [← hT3]; exact itoa_anyK x.op (hxw.out.1.2.2.2.1) q.w (hTW.out.later q.h)
  have zc3 : ∀ q : Cls (Bey W0), q.w.cell? ⟨w.heap.size, 3, none⟩ = some (.int .i64 x.op) := fun q => bey_cell (hbx.out.at 3 _ rfl) q
  obtain ⟨T4, hT4⟩ : ∃ T, numK x.alt = T := ⟨_, rfl⟩
  have hz4 : T4.size ≤ 21 := by rw [← hT4]; exact numK_size (hxw.out.1.2.2.2.2.1)
  have cT4 : ∀ q : Cls (Bey W0), Calls Tryd.prog 31 #[.int .i64 x.alt] q.w fun e w' => e = .returned (.string T4) ∧ Below q.w.heap.size q.w w' := fun q => by rw [← hT4]; exact itoa_anyK x.alt (hxw.out.1.2.2.2.2.1) q.w (hTW.out.later q.h)
  have zc4 : ∀ q : Cls (Bey W0), q.w.cell? ⟨w.heap.size, 4, none⟩ = some (.int .i64 x.alt) := fun q => bey_cell (hbx.out.at 4 _ rfl) q
  obtain ⟨T5, hT5⟩ : ∃ T, numK x.vl = T := ⟨_, rfl⟩
  have hz5 : T5.size ≤ 21 := by rw [← hT5]; exact numK_size (hxw.out.1.2.2.2.2.2.1)
  have cT5 : ∀ q : Cls (Bey W0), Calls Tryd.prog 32 #[.int .i64 x.vl, .int .i64 10] q.w fun e w' => e = .returned (.string T5) ∧ Below q.w.heap.size q.w w' := fun q => by rw [← hT5]; exact fmt_anyK x.vl (hxw.out.1.2.2.2.2.2.1) q.w (hTW.out.later q.h)
  have zc5 : ∀ q : Cls (Bey W0), q.w.cell? ⟨w.heap.size, 5, none⟩ = some (.int .i64 x.vl) := fun q => bey_cell (hbx.out.at 5 _ rfl) q
  obtain ⟨T6, hT6⟩ : ∃ T, numK x.tag = T := ⟨_, rfl⟩
  have hz6 : T6.size ≤ 21 := by rw [← hT6]; exact numK_size (hxw.out.1.2.2.2.2.2.2)
  have cT6 : ∀ q : Cls (Bey W0), Calls Tryd.prog 32 #[.int .i64 x.tag, .int .i64 10] q.w fun e w' => e = .returned (.string T6) ∧ Below q.w.heap.size q.w w' := fun q => by rw [← hT6]; exact fmt_anyK x.tag (hxw.out.1.2.2.2.2.2.2) q.w (hTW.out.later q.h)
  have zc6 : ∀ q : Cls (Bey W0), q.w.cell? ⟨w.heap.size, 6, none⟩ = some (.int .i64 x.tag) := fun q => bey_cell (hbx.out.at 6 _ rfl) q
  have hnn := bey_some W0
  have hS0 : Hid ((T0 ++ ⟨#[44]⟩ ++ T1 ++ ⟨#[44]⟩ ++ T2 ++ ⟨#[44]⟩ ++ T3 ++ ⟨#[44]⟩ ++ T4 ++ ⟨#[44]⟩ ++ T5 ++ ⟨#[44]⟩ ++ T6 : ByteArray).data.toList = numsB (evH x)) := nest7 x hT0 hT1 hT2 hT3 hT4 hT5 hT6
  clear hT0 hT1 hT2 hT3 hT4 hT5 hT6
  refine wp_region_cls (Bey W0) (by kernel_rfl) (by kernel_rfl) (bey_drew W0) ?_
  repeat (go_big_quiet_step (first | (go_at_call 31; first | exact calls_bey (cT0 _) | exact calls_bey (cT1 _) | exact calls_bey (cT2 _) | exact calls_bey (cT3 _) | exact calls_bey (cT4 _)) | (go_at_call 32; first | exact calls_bey (cT5 _) | exact calls_bey (cT6 _))))
  refine wpQuiet_nil ?_
  intro _ hw'
  obtain ⟨sq, hw''⟩ := hw'
  subst hw''
  have hbq : Hid (Below W0.heap.size W0 sq.w) := sq.h
  have hsz : (T0 ++ ⟨#[44]⟩ ++ T1 ++ ⟨#[44]⟩ ++ T2 ++ ⟨#[44]⟩ ++ T3 ++ ⟨#[44]⟩ ++ T4 ++ ⟨#[44]⟩ ++ T5 ++ ⟨#[44]⟩ ++ T6 : ByteArray).size ≤ 160 := by
    have e : (⟨#[44]⟩ : ByteArray).size = 1 := rfl
    simp only [ByteArray.size_append, e]
    omega
  clear cT0 zc0 cT1 zc1 cT2 zc2 cT3 zc3 cT4 zc4 cT5 zc5 cT6 zc6 hnn
  generalize (T0 ++ ⟨#[44]⟩ ++ T1 ++ ⟨#[44]⟩ ++ T2 ++ ⟨#[44]⟩ ++ T3 ++ ⟨#[44]⟩ ++ T4 ++ ⟨#[44]⟩ ++ T5 ++ ⟨#[44]⟩ ++ T6 : ByteArray) = S0 at *
  generalize sq.w = W1 at *
  have c25 : ∀ wx, Below W0.heap.size W0 wx → wx.cell? ⟨w.heap.size, 25, none⟩ = some (.int .i64 x.n) := fun wx hb => cell_later hb (hbx.out.at 25 _ rfl)
  obtain ⟨N, hN⟩ : ∃ N, N = tN x.n := ⟨_, rfl⟩
  have hNI : x.n = ((N : Nat) : Int) := by rw [hN]; exact (tN_eq hxr.out.1.2.2.1 hxr.out.1.2.2.2).symm
  rw [hNI] at c25
  have hofl : Hid (x.of.length = N) := by show _ = _; rw [hN, Ev.of_len]
  have hN6 : (N : Int) ≤ 6 := by have := tN_le x.n; omega
  have c25H : Hid (∀ wx, Below W0.heap.size W0 wx → wx.cell? ⟨w.heap.size, 25, none⟩ = some (.int .i64 ((N : Nat) : Int))) := c25
  have s0 : Hid (S0.data.toList = numsB (evH x) ++ tchTo x 0 ∧ Below W0.heap.size W0 W1) := ⟨by rw [hS0.out]; simp [tchTo], hbq.out⟩
  have hsz0 : S0.size ≤ 160 + 70 * 0 := by omega
  clear c25 hN hNI hS0 hbq hsz
  go_wp2_with fail
  go_loopw [3, 4] (fun ss u wr => ∃ (j : Nat) (S : ByteArray), j ≤ N ∧ ss = .string S ∧ u = .int .i64 (j : Int) ∧ S.size ≤ 160 + 70 * j ∧ Hid (S.data.toList = numsB (evH x) ++ tchTo x j ∧ Below W0.heap.size W0 wr)) (fun _ u _ => N - (intOf u).toNat)
  case atStart => exact ⟨0, S0, Nat.zero_le _, rfl, rfl, hsz0, s0⟩
  case round =>
    obtain ⟨j, S, hj, rfl, rfl, hsz, hs⟩ := hrel
    clear s0 hsz0
    have c25 := c25H.out wr hs.out.2
    by_cases hjt : j < N
    · have hjI : (j : Int) < N := by omega
      have hj6 : j < 6 := by omega
      obtain ⟨a, ha, ham⟩ := get_lt x.of j (by rw [hofl.out]; exact hjt)
      have hal : x.list[j]? = some a := by
        unfold Ev.of at ha
        rw [List.getElem?_take] at ha
        split at ha
        · exact ha
        · cases ha
      have hbx2 := hbx.out.later hs.out.2
      have k0 := x.list_at hbx2 j a hal 0 _ rfl
      have k1 := x.list_at hbx2 j a hal 1 _ rfl
      have k2 := x.list_at hbx2 j a hal 2 _ rfl
      have xi := ix_touch w.heap.size j hj6
      rw [Nat.add_zero] at k0
      rw [← Nat.add_assoc] at k1 k2
      have haw := hxw.out.2.1 a (List.mem_of_mem_take ham)
      obtain ⟨T1, hT1⟩ : ∃ T, numK a.kind = T := ⟨_, rfl⟩
      obtain ⟨T2, hT2⟩ : ∃ T, numK a.num = T := ⟨_, rfl⟩
      have hz1 : T1.size ≤ 21 := by rw [← hT1]; exact numK_size haw.1
      have hz2 : T2.size ≤ 21 := by rw [← hT2]; exact numK_size haw.2
      have hnx : Hid ((S ++ ⟨#[58]⟩ ++ T1 ++ ⟨#[44]⟩ ++ T2 ++ ⟨#[44, if a.wr then 49 else 48]⟩).data.toList = numsB (evH x) ++ tchTo x (j + 1)) := by
        show _ = _
        rw [nest_acc a hT1 hT2, hs.out.1, tchTo_more ha, List.append_assoc]
      have hsz2 : Hid ((S ++ ⟨#[58]⟩ ++ T1 ++ ⟨#[44]⟩ ++ T2 ++ ⟨#[44, if a.wr then 49 else 48]⟩).size ≤ 160 + 70 * (j + 1)) := by
        have e : (⟨#[44]⟩ : ByteArray).size = 1 := rfl
        have e2 : (⟨#[58]⟩ : ByteArray).size = 1 := rfl
        have e3 : (⟨#[44, if a.wr then 49 else 48]⟩ : ByteArray).size = 2 := rfl
        simp only [Hid, ByteArray.size_append, e, e2, e3]
        omega
      have hbw : Hid (Below W0.heap.size W0 (wr.alloc (objA a))) := bthen hs.out.2 (boxed _ _)
      have hTa : Hid (Tab (wr.alloc (objA a))) := hTW.out.later hbw.out
      have g0 : (wr.alloc (objA a)).cell? ⟨wr.heap.size, 0, none⟩ = some (.int .i64 a.kind) := (accB_cells (heap_alloc_new wr (objA a))).1
      have g1 : (wr.alloc (objA a)).cell? ⟨wr.heap.size, 1, none⟩ = some (.int .i64 a.num) := (accB_cells (heap_alloc_new wr (objA a))).2.1
      have g2 : (wr.alloc (objA a)).cell? ⟨wr.heap.size, 2, none⟩ = some (.bool a.wr) := (accB_cells (heap_alloc_new wr (objA a))).2.2
      clear hbx2 ha hal ham hs
      cases hw : a.wr with
      | false =>
        rw [hw] at k2 g2 hnx hsz2
        go_upto_region 9 with fail
        have eO : wr.alloc (.cells #[.int .i64 a.kind, .int .i64 a.num, .bool false] 39) = wr.alloc (objA a) := by rw [← hw]
        rw [eO]
        clear eO
        have zc0 : ∀ q : Cls (Bey (wr.alloc (objA a))), q.w.cell? ⟨wr.heap.size, 0, none⟩ = some (.int .i64 a.kind) := fun q => bey_cell g0 q
        have zc1 : ∀ q : Cls (Bey (wr.alloc (objA a))), q.w.cell? ⟨wr.heap.size, 1, none⟩ = some (.int .i64 a.num) := fun q => bey_cell g1 q
        have cT1 : ∀ q : Cls (Bey (wr.alloc (objA a))), Calls Tryd.prog 31 #[.int .i64 a.kind] q.w fun e w' => e = .returned (.string T1) ∧ Below q.w.heap.size q.w w' := fun q => by rw [← hT1]; exact itoa_anyK a.kind haw.1 q.w (hTa.out.later q.h)
        have cT2 : ∀ q : Cls (Bey (wr.alloc (objA a))), Calls Tryd.prog 31 #[.int .i64 a.num] q.w fun e w' => e = .returned (.string T2) ∧ Below q.w.heap.size q.w w' := fun q => by rw [← hT2]; exact itoa_anyK a.num haw.2 q.w (hTa.out.later q.h)
        have hnn := bey_some (wr.alloc (objA a))
        clear g0 g1 g2 k0 k1 k2 hT1 hT2 haw xi
        generalize wr.alloc (objA a) = W2 at *
        generalize wr.heap.size = Y at *
        refine wp_region_cls (Bey W2) (by kernel_rfl) (by kernel_rfl) (bey_drew W2) ?_
        repeat (go_big_quiet_step ((go_at_call 31; first | exact calls_bey (cT1 _) | exact calls_bey (cT2 _))))
        refine wpQuiet_nil ?_
        intro _ hw'
        obtain ⟨sq2, hw''⟩ := hw'
        subst hw''
        have hb2 : Hid (Below W0.heap.size W0 sq2.w) := bthen hbw.out sq2.h
        clear zc0 zc1 cT1 cT2 hnn
        go_wp2
        go_roundw
        case rel => exact ⟨j + 1, _, by omega, rfl, by go_num, hsz2.out, ⟨hnx.out, hb2.out⟩⟩
        case measure => simp [intOf]; omega
      | true =>
        rw [hw] at k2 g2 hnx hsz2
        go_upto_region 9 with fail
        have eO : wr.alloc (.cells #[.int .i64 a.kind, .int .i64 a.num, .bool true] 39) = wr.alloc (objA a) := by rw [← hw]
        rw [eO]
        clear eO
        have zc0 : ∀ q : Cls (Bey (wr.alloc (objA a))), q.w.cell? ⟨wr.heap.size, 0, none⟩ = some (.int .i64 a.kind) := fun q => bey_cell g0 q
        have zc1 : ∀ q : Cls (Bey (wr.alloc (objA a))), q.w.cell? ⟨wr.heap.size, 1, none⟩ = some (.int .i64 a.num) := fun q => bey_cell g1 q
        have cT1 : ∀ q : Cls (Bey (wr.alloc (objA a))), Calls Tryd.prog 31 #[.int .i64 a.kind] q.w fun e w' => e = .returned (.string T1) ∧ Below q.w.heap.size q.w w' := fun q => by rw [← hT1]; exact itoa_anyK a.kind haw.1 q.w (hTa.out.later q.h)
        have cT2 : ∀ q : Cls (Bey (wr.alloc (objA a))), Calls Tryd.prog 31 #[.int .i64 a.num] q.w fun e w' => e = .returned (.string T2) ∧ Below q.w.heap.size q.w w' := fun q => by rw [← hT2]; exact itoa_anyK a.num haw.2 q.w (hTa.out.later q.h)
        have hnn := bey_some (wr.alloc (objA a))
        clear g0 g1 g2 k0 k1 k2 hT1 hT2 haw xi
        generalize wr.alloc (objA a) = W2 at *
        generalize wr.heap.size = Y at *
        refine wp_region_cls (Bey W2) (by kernel_rfl) (by kernel_rfl) (bey_drew W2) ?_
        repeat (go_big_quiet_step ((go_at_call 31; first | exact calls_bey (cT1 _) | exact calls_bey (cT2 _))))
        refine wpQuiet_nil ?_
        intro _ hw'
        obtain ⟨sq2, hw''⟩ := hw'
        subst hw''
        have hb2 : Hid (Below W0.heap.size W0 sq2.w) := bthen hbw.out sq2.h
        clear zc0 zc1 cT1 cT2 hnn
        go_wp2
        go_roundw
        case rel => exact ⟨j + 1, _, by omega, rfl, by go_num, hsz2.out, ⟨hnx.out, hb2.out⟩⟩
        case measure => simp [intOf]; omega
    · have hjI : ¬ ((j : Int) < N) := by omega
      have hE : Hid (S ++ ⟨#[59]⟩ = ⟨(lineB (evL x)).toArray⟩) := by
        apply bytes_extK
        rw [app_listK, hs.out.1, line_parts, show j = x.of.length by rw [hofl.out]; omega]
      have hfin : Hid (Below w.heap.size w wr) := bthen hb0.out hs.out.2
      clear hs
      go_wp2
      go_ret
      exact ⟨by rw [← hE.out]; rfl, hfin.out⟩
end Go.Proofs.YtkadlopcomjonaaDoor.pg
/- The document's Key and Same. -/
namespace Go.Proofs.YtkadlopcomjonaaDoor.pg
open Go.ChangeShapes Go.WideShapes Go.ChangeAt Go.RowKit Go.Shelf
set_option linter.unusedVariables false
set_option linter.unusedSimpArgs false
set_option maxRecDepth 100000
set_option maxHeartbeats 1000000 in
theorem rkey_bad (l : List Ev) (la : Option Addr) (lc : Nat) (w : World) (hl : Rows w 26 la lc (l.map Ev.cells)) (c : Int) (hc : checkP l c) (h0 : c = 2 ∨ c = 7) :
    Calls Tryd.prog 9 #[.slice la l.length lc] w fun e w' => e = .returned (.tuple #[.string ⟨#[]⟩, .int .i64 c]) ∧ Below w.heap.size w w' := by
  have c1 := rcheck_any l la lc w hl c hc
  have d : (c != 0) = true := by rcases h0 with rfl | rfl <;> rfl
  clear hl hc h0
  go_enter Tryd.func9, Tryd.ntmps9
  go_wp2_with (go_at_call 11; (with_reducible refine c1.mono ?_); rintro e w1 ⟨rfl, hb1⟩; (have hbH : Hid (Below w.heap.size w w1) := hb1); clear hb1)
  go_ret2
  exact ⟨rfl, hbH.out⟩
set_option maxHeartbeats 4000000 in
theorem rkey_is {l X : List Ev} (hX : CanX l X) (la : Option Addr) (lc : Nat) (w : World) (hl : EvsIn w la lc l) (hT : Tab w) :
    Calls Tryd.prog 9 #[.slice la l.length lc] w fun e w' => e = .returned (.tuple #[.string ⟨(keyB X).toArray⟩, .int .i64 0]) ∧ Below w.heap.size w w' := by
  obtain ⟨B, hB⟩ := tells_some (dpf l)
  have c1 := rcheck_any l la lc w hl.1 0 (chk0 hX.le.1 hX.le.2)
  have cO : ∀ wx, Below w.heap.size w wx → Calls Tryd.prog 17 #[.slice la l.length lc] wx fun e w' => ∃ (ps : List Int) (va : Option Addr) (vc : Nat), e = .returned (.slice va l.length vc) ∧ Hid (ps.length = l.length ∧ Rows w' 1 va vc (ps.map chCells) ∧ (∀ k, k < l.length → ∃ x : Nat, ps[k]? = some (x : Int) ∧ x < l.length ∧ X[k]? = some (evf l x)) ∧ Below wx.heap.size wx w') := fun wx hb => by
    refine (rorder_any l la lc wx (hl.1.later hb) hX.le.1 hX.le.2 hB).mono fun e w' ⟨L, va, vc, he, hq⟩ => ⟨L.map fun x : Nat => (x : Int), va, vc, he, ⟨by rw [List.length_map, hq.out.2.1], hq.out.2.2.1, fun k hk => ?_, hq.out.2.2.2⟩⟩
    have hn := nth_at (L := L) (i := k) (by rw [hq.out.2.1]; exact hk)
    refine ⟨nth L k, by rw [List.getElem?_map, hn]; rfl, hq.out.1.lin.lt _ (List.mem_of_getElem? hn), ?_⟩
    rw [← hX.one hB hq.out.1 hq.out.2.1]
    unfold laidE
    rw [List.getElem?_map, hn]
    rfl
  have cL : ∀ (x : Nat) wx, x < l.length → Below w.heap.size w wx → Calls Tryd.prog 20 #[.agg (evf l x).cells.toArray] wx fun e w' => e = .returned (.string ⟨(lineB (evL (evf l x))).toArray⟩) ∧ Below wx.heap.size wx w' := fun x wx hx hb => line_any (evf l x) (hl.2 _ (List.mem_of_getElem? (evf_at hx))) (hX.le.2 _ (List.mem_of_getElem? (evf_at hx))) wx (hT.later hb)
  have hlH : Hid (EvsIn w la lc l) := hl
  have hXl : Hid (X.length = l.length) := by
    obtain ⟨B', L', _, _, k2, e⟩ := hX.ex
    show _ = _
    rw [← e, laid_len, k2]
  have hll : Hid (∀ x, x < l.length → (lineB (evL (evf l x))).length ≤ 600) := fun x hx => by
    have := keyB_len (X := [evf l x]) (by intro y hy; rw [List.mem_singleton] at hy; subst hy; exact hl.2 _ (List.mem_of_getElem? (evf_at hx)))
    simpa [keyB, linesB] using this
  have hlI : (l.length : Int) ≤ 256 := by have := hX.le.1; omega
  have huE : Hid (Tryd.prog.underlying 42 = _) := Tryd.underlying42
  have hiE : Hid ((Tryd.prog.info? 42).map (·.size) = some 26) := infoE26
  clear hl hT hX hB
  go_enter Tryd.func9, Tryd.ntmps9
  go_wp2_with (first
    | (go_at_call 11; (with_reducible refine c1.mono ?_); rintro e w1 ⟨rfl, hb1⟩; (have hbH : Hid (Below w.heap.size w w1) := hb1); clear hb1 c1)
    | (go_at_call 17; (refine (cO _ hbH.out).mono ?_); rintro e w2 ⟨ps, va, vc, rfl, hq⟩; (have hb2 : Hid (Below w.heap.size w w2) := bthen hbH.out hq.out.2.2.2); clear cO hbH))
  have s0 : Hid ((⟨#[]⟩ : ByteArray).data.toList = keyB (X.take 0) ∧ Below w2.heap.size w2 w2) := ⟨by simp [keyB, linesB], Below.refl _ _⟩
  have z0 : (⟨#[]⟩ : ByteArray).size ≤ 600 * 0 := by decide
  go_loopw [5, 16] (fun ss u wr => ∃ (k : Nat) (S : ByteArray), k ≤ l.length ∧ ss = .string S ∧ u = .int .i64 (k : Int) ∧ S.size ≤ 600 * k ∧ Hid (S.data.toList = keyB (X.take k) ∧ Below w2.heap.size w2 wr)) (fun _ u _ => l.length - (intOf u).toNat)
  case atStart => exact ⟨0, ⟨#[]⟩, Nat.zero_le _, rfl, rfl, z0, s0⟩
  case round =>
    obtain ⟨k, S, hk, rfl, rfl, hsz, hs⟩ := hrel
    clear s0 z0
    by_cases hlt : k < l.length
    · have hkI : (k : Int) < l.length := by omega
      obtain ⟨x, hx1, hxl, hx2⟩ := hq.out.2.2.1 k hlt
      obtain ⟨b1, o1, x1, l1, ci⟩ := ch_ixK (hq.out.2.1.later hs.out.2) k (x : Int) hx1
      rw [hq.out.1] at x1
      obtain ⟨b2, o2, x2, l2, r2⟩ := evs_ix (hlH.out.1.later (bthen hb2.out hs.out.2)) x (evf l x) (evf_at hxl)
      have hr2 : Hid (wr.rangeAt b2 o2 (evf l x).cells) := r2
      have cLx := cL x wr hxl (bthen hb2.out hs.out.2)
      have hlx := hll.out x hxl
      obtain ⟨T, hT⟩ : ∃ T : ByteArray, (⟨(lineB (evL (evf l x))).toArray⟩ : ByteArray) = T := ⟨_, rfl⟩
      have hTz : T.size ≤ 600 := by rw [← hT, Lib.size_eq]; simpa using hlx
      have hnx : Hid ((S ++ T).data.toList = keyB (X.take (k + 1))) := by
        show _ = _
        have ht : X.take (k + 1) = X.take k ++ [evf l x] := by rw [List.take_add_one, hx2]; rfl
        rw [app_listK, hs.out.1, ht, keyB_snoc, ← hT]
      have hz2 : Hid ((S ++ T).size ≤ 600 * (k + 1)) := by simp only [Hid, ByteArray.size_append]; omega
      rw [hT] at cLx
      have hbs : Hid (Below w2.heap.size w2 wr) := hs.out.2
      clear r2 hs hT hlx hx1 hx2
      generalize evf l x = ex at *
      go_wp2_with (first
        | (refine wpList_load_g rfl 42 _ rfl b2 o2 rfl ex.cells _ hr2.out huE.out rfl hiE.out ?_)
        | (go_at_call 20; (with_reducible refine cLx.mono ?_); rintro e w3 ⟨rfl, hb3⟩; (have hb4 : Hid (Below w2.heap.size w2 w3) := bthen hbs.out hb3); clear hb3 cLx))
      go_roundw
      case rel => exact ⟨k + 1, S ++ T, by omega, rfl, by go_num, hz2.out, ⟨hnx.out, hb4.out⟩⟩
      case measure => simp [intOf]; omega
    · have hkI : ¬ ((k : Int) < l.length) := by omega
      have hE : Hid (S = ⟨(keyB X).toArray⟩) := by
        apply bytes_extK
        rw [hs.out.1, List.take_of_length_le (by rw [hXl.out]; omega)]
      have hfin : Hid (Below w.heap.size w wr) := bthen hb2.out hs.out.2
      clear hs
      go_wp2
      go_ret2
      exact ⟨by rw [← hE.out]; rfl, hfin.out⟩
set_option maxHeartbeats 1000000 in
theorem rsame_bad (a b : List Ev) (la lb : Option Addr) (ca cb : Nat) (w : World) (ha : Rows w 26 la ca (a.map Ev.cells)) (hb : Rows w 26 lb cb (b.map Ev.cells)) (xa xb : Int) (qa : checkP a xa) (qb : checkP b xb) (c : Int) (hc : xa ≠ 0 ∧ c = xa ∨ xa = 0 ∧ xb ≠ 0 ∧ c = xb) :
    Calls Tryd.prog 7 #[.slice la a.length ca, .slice lb b.length cb] w fun e w' => e = .returned (.tuple #[.bool false, .int .i64 c]) ∧ Below w.heap.size w w' := by
  have k1 := rcheck_any a la ca w ha xa qa
  have k2 : ∀ wx, Below w.heap.size w wx → Calls Tryd.prog 11 #[.slice lb b.length cb] wx _ := fun wx hb' => rcheck_any b lb cb wx (hb.later hb') xb qb
  clear ha hb qa qb
  rcases hc with ⟨h1, rfl⟩ | ⟨rfl, h2, rfl⟩
  · have d : (c == 0) = false := by simpa using h1
    have d2 : (c != 0) = true := by simpa using h1
    go_enter Tryd.func7, Tryd.ntmps7
    go_wp2_with (go_at_call 11; (with_reducible refine k1.mono ?_); rintro e w1 ⟨rfl, hb1⟩; (have hbH : Hid (Below w.heap.size w w1) := hb1); clear hb1)
    go_ret2
    exact ⟨rfl, hbH.out⟩
  · have d2 : (c != 0) = true := by simpa using h2
    go_enter Tryd.func7, Tryd.ntmps7
    go_wp2_with (go_at_call 11; (first | (with_reducible refine k1.mono ?_); rintro e w1 ⟨rfl, hb1⟩; (have hbH : Hid (Below w.heap.size w w1) := hb1); clear hb1 k1 | (with_reducible refine (k2 _ hbH.out).mono ?_); rintro e w2 ⟨rfl, hb2⟩; (have hbH := hidB hbH hb2); clear hb2 k2))
    go_ret2
    exact ⟨rfl, hbH.out⟩
set_option maxHeartbeats 1000000 in
theorem rsame_out (na nb : Nat) (la lb : Option Addr) (ca cb : Nat) (w : World) (k1 : Calls Tryd.prog 11 #[.slice la na ca] w fun e w' => e = .returned (.int .i64 0) ∧ Below w.heap.size w w') (k2 : ∀ wx, Below w.heap.size w wx → Calls Tryd.prog 11 #[.slice lb nb cb] wx fun e w' => e = .returned (.int .i64 0) ∧ Below wx.heap.size wx w') (h : na ≠ nb) :
    Calls Tryd.prog 7 #[.slice la na ca, .slice lb nb cb] w fun e w' => e = .returned (.tuple #[.bool false, .int .i64 0]) ∧ Below w.heap.size w w' := by
  have d : ((na : Int) != (nb : Int)) = true := by simp; omega
  have d2 : ¬ ((na : Int) = (nb : Int)) := by omega
  go_enter Tryd.func7, Tryd.ntmps7
  go_wp2_with (go_at_call 11; (first | (with_reducible refine k1.mono ?_); rintro e w1 ⟨rfl, hb1⟩; (have hbH : Hid (Below w.heap.size w w1) := hb1); clear hb1 k1 | (with_reducible refine (k2 _ hbH.out).mono ?_); rintro e w2 ⟨rfl, hb2⟩; (have hbH := hidB hbH hb2); clear hb2 k2))
  go_ret2
  exact ⟨rfl, hbH.out⟩
/-- Laid in its canonical order, by the document. -/
theorem rlaid_is {l X : List Ev} (hX : CanX l X) (la : Option Addr) (lc : Nat) (w : World) (hl : EvsIn w la lc l) :
    Calls Tryd.prog 17 #[.slice la l.length lc] w fun e w' => ∃ (va : Option Addr) (vc : Nat), e = .returned (.slice va l.length vc) ∧ Hid (Below w.heap.size w w' ∧ ∀ wx, Below w'.heap.size w' wx → Calls Tryd.prog 16 #[.slice la l.length lc, .slice va l.length vc] wx fun e w2 => ∃ (ua : Option Addr) (uc : Nat), e = .returned (.slice ua l.length uc) ∧ Hid (Rows w2 26 ua uc (X.map Ev.cells) ∧ Below wx.heap.size wx w2)) := by
  obtain ⟨B, hB⟩ := tells_some (dpf l)
  refine (rorder_any l la lc w hl.1 hX.le.1 hX.le.2 hB).mono fun e w' ⟨L, va, vc, he, hq⟩ => ⟨va, vc, he, hq.out.2.2.2, fun wx hb => ?_⟩
  have hpl : (L.map fun x : Nat => (x : Int)).length = l.length := by rw [List.length_map, hq.out.2.1]
  have := laid_any l la lc (L.map fun x : Nat => (x : Int)) va vc wx (hl.1.later (bthen hq.out.2.2.2 hb)) (hq.out.2.2.1.later hb) (by rw [hpl]; exact hX.le.1) (fun p hp => by
    obtain ⟨x, hx, rfl⟩ := List.mem_map.mp hp
    have := hq.out.1.lin.lt x hx
    omega)
  rw [hpl, arr_laid, hX.one hB hq.out.1 hq.out.2.1] at this
  exact this.mono fun e w2 h => by
    obtain ⟨ua, uc, he2, hq2⟩ := h
    exact ⟨ua, uc, he2, hq2⟩
set_option maxHeartbeats 2000000 in
theorem rsame_in (X Y : List Ev) (hwl : ∀ x ∈ X, x.wf) (hwm : ∀ x ∈ Y, x.wf) (la lb : Option Addr) (ca cb n : Nat) (w : World) (hn : Hid (X.length = n ∧ Y.length = n)) (hnI : (n : Int) ≤ 256) (R : Bool) (hR : Hid (R = true ↔ X = Y))
    (k1 : Calls Tryd.prog 11 #[.slice la n ca] w fun e w' => e = .returned (.int .i64 0) ∧ Below w.heap.size w w') (k2 : ∀ wx, Below w.heap.size w wx → Calls Tryd.prog 11 #[.slice lb n cb] wx fun e w' => e = .returned (.int .i64 0) ∧ Below wx.heap.size wx w')
    (o1 : ∀ wx, Below w.heap.size w wx → Calls Tryd.prog 17 #[.slice la n ca] wx fun e w' => ∃ (va : Option Addr) (vc : Nat), e = .returned (.slice va n vc) ∧ Hid (Below wx.heap.size wx w' ∧ ∀ wy, Below w'.heap.size w' wy → Calls Tryd.prog 16 #[.slice la n ca, .slice va n vc] wy fun e w2 => ∃ (ua : Option Addr) (uc : Nat), e = .returned (.slice ua n uc) ∧ Hid (Rows w2 26 ua uc (X.map Ev.cells) ∧ Below wy.heap.size wy w2)))
    (o2 : ∀ wx, Below w.heap.size w wx → Calls Tryd.prog 17 #[.slice lb n cb] wx fun e w' => ∃ (va : Option Addr) (vc : Nat), e = .returned (.slice va n vc) ∧ Hid (Below wx.heap.size wx w' ∧ ∀ wy, Below w'.heap.size w' wy → Calls Tryd.prog 16 #[.slice lb n cb, .slice va n vc] wy fun e w2 => ∃ (ua : Option Addr) (uc : Nat), e = .returned (.slice ua n uc) ∧ Hid (Rows w2 26 ua uc (Y.map Ev.cells) ∧ Below wy.heap.size wy w2))) :
    Calls Tryd.prog 7 #[.slice la n ca, .slice lb n cb] w fun e w' => e = .returned (.tuple #[.bool R, .int .i64 0]) ∧ Below w.heap.size w w' := by
  go_enter Tryd.func7, Tryd.ntmps7
  go_upto_region 8 with (go_at_call 11; (first | (with_reducible refine k1.mono ?_); rintro e w1 ⟨rfl, hb1⟩; (have hbH : Hid (Below w.heap.size w w1) := hb1); clear hb1 k1 | (with_reducible refine (k2 _ hbH.out).mono ?_); rintro e w2 ⟨rfl, hb2⟩; (have hbH := hidB hbH hb2); clear hb2 k2))
  go_upto_region 9 with (first
    | (go_at_call 17; (refine (o1 _ hbH.out).mono ?_); rintro e w3 ⟨va, vc, rfl, hq⟩; (have hb3 := hidB hbH hq.out.1); clear o1)
    | (go_at_call 16; (refine (hq.out.2 _ (Below.refl _ _)).mono ?_); rintro e w4 ⟨ua, uc, rfl, hu⟩; (have hb4 := hidB hb3 hu.out.2); clear hq))
  go_upto_region 10 with (first
    | (go_at_call 17; (refine (o2 _ hb4.out).mono ?_); rintro e w5 ⟨va2, vc2, rfl, hq2⟩; (have hb5 := hidB hb4 hq2.out.1); clear o2)
    | (go_at_call 16; (refine (hq2.out.2 _ (Below.refl _ _)).mono ?_); rintro e w6 ⟨ya, yc, rfl, hy⟩; (have hb6 := hidB hb5 hy.out.2); (have hXw : Hid (Rows w6 26 ua uc (X.map Ev.cells) ∧ Rows w6 26 ya yc (Y.map Ev.cells)) := ⟨(hu.out.1.later hq2.out.1).later hy.out.2, hy.out.1⟩); clear hq2 hu hy))
  go_wp2_with fail
  go_loopw [34] (fun u wr => ∃ k : Nat, k ≤ n ∧ u = .int .i64 k ∧ Hid (Below w6.heap.size w6 wr ∧ X.take k = Y.take k)) (fun u _ => n - (intOf u).toNat)
  case atStart => exact ⟨0, Nat.zero_le _, rfl, ⟨Below.refl _ _, by simp⟩⟩
  case round =>
    obtain ⟨k, hk, rfl, hbe⟩ := hrel
    by_cases hlt : k < n
    · have hkI : (k : Int) < n := by omega
      obtain ⟨x, hx, hxm⟩ := get_lt X k (by rw [hn.out.1]; exact hlt)
      obtain ⟨y, hy, hym⟩ := get_lt Y k (by rw [hn.out.2]; exact hlt)
      obtain ⟨b1, o1, x1, l1, r1⟩ := evs_ix (hXw.out.1.later hbe.out.1) k x hx
      obtain ⟨b2, o2, x2, l2, r2⟩ := evs_ix (hXw.out.2.later hbe.out.1) k y hy
      rw [hn.out.1] at x1
      rw [hn.out.2] at x2
      have q1 : Hid (b1 < wr.heap.size ∧ wr.rangeAt b1 o1 x.cells) := ⟨l1, r1⟩
      have q2 : Hid (b2 < wr.heap.size ∧ wr.rangeAt b2 o2 y.cells) := ⟨l2, r2⟩
      have hbH : Hid (Below w6.heap.size w6 wr) := hbe.out.1
      obtain ⟨N, hN⟩ : ∃ N : Bool, Hid (N = true ↔ ¬ x = y) := by
        by_cases e : x = y
        · exact ⟨false, ⟨fun q => (by cases q), fun q => absurd e q⟩⟩
        · exact ⟨true, ⟨fun _ => e, fun _ => rfl⟩⟩
      have hne := fun x1 x2 wx => guard_ne2 (hwl x hxm) (hwm y hym) N hN.out x1 x2 wx
      have hgo : Hid (N = false → X.take (k + 1) = Y.take (k + 1)) := fun e => by
        have : x = y := by
          apply Classical.byContradiction
          intro q
          rw [hN.out.mpr q] at e; cases e
        rw [← this] at hy
        exact take_next hbe.out.2 hx hy
      have hst : Hid (N = true → R = false) := fun e => by
        rw [Bool.eq_false_iff]
        intro q
        have e2 := hR.out.mp q
        rw [e2] at hx
        rw [hx] at hy
        exact hN.out.mp e (Option.some.inj hy)
      clear hbe l1 r1 l2 r2 hx hy hxm hym hN
      go_wp2_with fail
      refine wp_region_noPanic ?_
      refine wp_region_held_drew (S := fun w' => Below wr.heap.size wr w') (by kernel_rfl) (bey_drew wr) (fun hS => ?_)
      refine reg_move (i := 0) rfl (by kernel_rfl) (by kernel_rfl) (by kernel_rfl) (fun _ _ _ _ h => h) rfl (.slice ua n uc) (fun _ => by kernel_rfl) hS ?_
      simp only [Act.put, List.getElem_toArray, List.getElem_cons_succ, List.getElem_cons_zero, List.setIfInBounds_toArray, List.set_cons_zero, List.set_cons_succ]
      refine reg_move (i := 1) rfl (by kernel_rfl) (by kernel_rfl) (by kernel_rfl) (fun _ _ _ _ h => h) rfl (.int .i64 (k : Int)) (fun _ => by kernel_rfl) hS ?_
      simp only [Act.put, List.getElem_toArray, List.getElem_cons_succ, List.getElem_cons_zero, List.setIfInBounds_toArray, List.set_cons_zero, List.set_cons_succ]
      refine reg_move (i := 2) rfl (by kernel_rfl) (by kernel_rfl) (by kernel_rfl) (fun _ _ _ _ h => h) rfl (.pointer (some ⟨b1, o1, none⟩)) (fun wx => by unfold execOp; exact run_value_of (x1 wx)) hS ?_
      simp only [Act.put, List.getElem_toArray, List.getElem_cons_succ, List.getElem_cons_zero, List.setIfInBounds_toArray, List.set_cons_zero, List.set_cons_succ]
      refine reg_load (i := 3) rfl (by kernel_rfl) (by kernel_rfl) (by kernel_rfl) (fun _ _ _ _ h => h) rfl 42 _ rfl b1 o1 rfl x.cells _ (fun w' h' => range_later q1.out.2 q1.out.1 h') Tryd.underlying42 rfl infoE26 hS ?_
      simp only [Act.put, List.getElem_toArray, List.getElem_cons_succ, List.getElem_cons_zero, List.setIfInBounds_toArray, List.set_cons_zero, List.set_cons_succ]
      refine reg_move (i := 4) rfl (by kernel_rfl) (by kernel_rfl) (by kernel_rfl) (fun _ _ _ _ h => h) rfl (.slice ya n yc) (fun _ => by kernel_rfl) hS ?_
      simp only [Act.put, List.getElem_toArray, List.getElem_cons_succ, List.getElem_cons_zero, List.setIfInBounds_toArray, List.set_cons_zero, List.set_cons_succ]
      refine reg_move (i := 5) rfl (by kernel_rfl) (by kernel_rfl) (by kernel_rfl) (fun _ _ _ _ h => h) rfl (.int .i64 (k : Int)) (fun _ => by kernel_rfl) hS ?_
      simp only [Act.put, List.getElem_toArray, List.getElem_cons_succ, List.getElem_cons_zero, List.setIfInBounds_toArray, List.set_cons_zero, List.set_cons_succ]
      refine reg_move (i := 6) rfl (by kernel_rfl) (by kernel_rfl) (by kernel_rfl) (fun _ _ _ _ h => h) rfl (.pointer (some ⟨b2, o2, none⟩)) (fun wx => by unfold execOp; exact run_value_of (x2 wx)) hS ?_
      simp only [Act.put, List.getElem_toArray, List.getElem_cons_succ, List.getElem_cons_zero, List.setIfInBounds_toArray, List.set_cons_zero, List.set_cons_succ]
      refine reg_load (i := 7) rfl (by kernel_rfl) (by kernel_rfl) (by kernel_rfl) (fun _ _ _ _ h => h) rfl 42 _ rfl b2 o2 rfl y.cells _ (fun w' h' => range_later q2.out.2 q2.out.1 h') Tryd.underlying42 rfl infoE26 hS ?_
      simp only [Act.put, List.getElem_toArray, List.getElem_cons_succ, List.getElem_cons_zero, List.setIfInBounds_toArray, List.set_cons_zero, List.set_cons_succ]
      refine reg_move (i := 8) rfl (by kernel_rfl) (by kernel_rfl) (by kernel_rfl) (fun _ _ _ _ h => h) rfl (.bool N) (fun wx => by unfold execOp; exact run_value_of (hne _ _ wx)) hS ?_
      simp only [Act.put, List.getElem_toArray, List.getElem_cons_succ, List.getElem_cons_zero, List.setIfInBounds_toArray, List.set_cons_zero, List.set_cons_succ]
      refine wpAnyH_done (by kernel_rfl) (NoPanic.normal ?_) _
      clear hS hne
      cases N with
      | false =>
        have hg3 : Hid (X.take (k + 1) = Y.take (k + 1)) := hgo.out rfl
        clear hgo hst
        go_wp2_with fail
        go_roundw
        case rel => exact ⟨k + 1, by omega, by go_num, ⟨bthen hbH.out (bey_drew wr), hg3.out⟩⟩
        case measure => simp [intOf]; omega
      | true =>
        have hr := hst.out rfl
        clear hgo hst
        go_wp2
        go_ret2
        exact ⟨by rw [hr]; rfl, bthen hb6.out (bthen hbH.out (bey_drew wr))⟩
    · have hk2 : k = n := by omega
      subst hk2
      have hr : R = true := hR.out.mpr (by
        have := hbe.out.2
        rwa [List.take_of_length_le (by rw [hn.out.1]; exact Nat.le_refl _), List.take_of_length_le (by rw [hn.out.2]; exact Nat.le_refl _)] at this)
      have hbH : Hid (Below w.heap.size w wr) := bthen hb6.out hbe.out.1
      clear hbe
      go_wp2
      go_ret2
      exact ⟨by rw [hr]; rfl, hbH.out⟩
end Go.Proofs.YtkadlopcomjonaaDoor.pg
/- Same and Key on both sides: CanonSames, walked. -/
namespace Go.Proofs.YtkadlopcomjonaaDoor.pg
open Go.ChangeShapes Go.WideShapes Go.ChangeAt Go.RowKit Go.Shelf
set_option linter.unusedVariables false
set_option linter.unusedSimpArgs false
set_option maxRecDepth 100000
set_option maxHeartbeats 1000000 in
theorem same_bad1 (na nb : Nat) (la lb : Option Addr) (ca cb : Nat) (w : World) (c : Int) (h0 : c ≠ 0) (k1 : Calls Tryd.prog 14 #[.slice la na ca] w fun e w' => ∃ A, e = .returned (.tuple #[.slice (some ⟨A, 0, none⟩) 0 0, .int .i64 c]) ∧ Below w.heap.size w w') :
    Calls Tryd.prog 6 #[.slice la na ca, .slice lb nb cb] w fun e w' => e = .returned (.tuple #[.bool false, .int .i64 c]) ∧ Below w.heap.size w w' := by
  have d2 : (c != 0) = true := by simpa using h0
  go_enter Tryd.func6, Tryd.ntmps6
  go_wp2_with (go_at_call 14; (with_reducible refine k1.mono ?_); rintro e w1 ⟨A, rfl, hb1⟩; (have hbH : Hid (Below w.heap.size w w1) := hb1); clear hb1)
  go_ret2
  exact ⟨rfl, hbH.out⟩
set_option maxHeartbeats 1000000 in
theorem same_bad2 (na nb : Nat) (la lb : Option Addr) (ca cb : Nat) (w : World) (c : Int) (h0 : c ≠ 0) (k1 : Calls Tryd.prog 14 #[.slice la na ca] w fun e w' => ∃ A, e = .returned (.tuple #[.slice (some ⟨A, 0, none⟩) na na, .int .i64 0]) ∧ Below w.heap.size w w')
    (k2 : ∀ wx, Below w.heap.size w wx → Calls Tryd.prog 14 #[.slice lb nb cb] wx fun e w' => ∃ A, e = .returned (.tuple #[.slice (some ⟨A, 0, none⟩) 0 0, .int .i64 c]) ∧ Below wx.heap.size wx w') :
    Calls Tryd.prog 6 #[.slice la na ca, .slice lb nb cb] w fun e w' => e = .returned (.tuple #[.bool false, .int .i64 c]) ∧ Below w.heap.size w w' := by
  have d2 : (c != 0) = true := by simpa using h0
  go_enter Tryd.func6, Tryd.ntmps6
  go_upto_region 4 with (go_at_call 14; (with_reducible refine k1.mono ?_); rintro e w1 ⟨A, rfl, hb1⟩; (have hbH : Hid (Below w.heap.size w w1) := hb1); clear hb1 k1)
  go_wp2_with (go_at_call 14; (with_reducible refine (k2 _ hbH.out).mono ?_); rintro e w2 ⟨A', rfl, hb2⟩; (have hbH := hidB hbH hb2); clear hb2 k2)
  go_ret2
  exact ⟨rfl, hbH.out⟩
set_option maxHeartbeats 1000000 in
theorem sames_told (na nb : Nat) (la lb : Option Addr) (ca cb : Nat) (w : World) (x : Bool) (c g : Int) (s : ByteArray)
    (k1 : ∀ wx, Below w.heap.size w wx → Calls Tryd.prog 6 #[.slice la na ca, .slice lb nb cb] wx fun e w' => e = .returned (.tuple #[.bool x, .int .i64 c]) ∧ Below wx.heap.size wx w')
    (k2 : ∀ wx, Below w.heap.size w wx → Calls Tryd.prog 7 #[.slice la na ca, .slice lb nb cb] wx fun e w' => e = .returned (.tuple #[.bool x, .int .i64 c]) ∧ Below wx.heap.size wx w')
    (k3 : ∀ wx, Below w.heap.size w wx → Calls Tryd.prog 8 #[.slice la na ca] wx fun e w' => e = .returned (.tuple #[.string s, .int .i64 g]) ∧ Below wx.heap.size wx w')
    (k4 : ∀ wx, Below w.heap.size w wx → Calls Tryd.prog 9 #[.slice la na ca] wx fun e w' => e = .returned (.tuple #[.string s, .int .i64 g]) ∧ Below wx.heap.size wx w') :
    Calls Tryd.prog 3 #[.slice la na ca, .slice lb nb cb] w fun e w' => e = .returned (.bool true) ∧ Below w.heap.size w w' := by
  have cS : ∀ wx, Calls Tryd.prog 10 #[] wx fun e w' => e = .returned (.bool true) ∧ Below wx.heap.size wx w' := fun wx => small_any wx
  have hB : Hid (Below w.heap.size w w) := Below.refl _ _
  have d1 : (c == c) = true := by simp
  have d2 : (g == g) = true := by simp
  have d3 : (s.toList == s.toList) = true := by simp
  cases x <;>
  · go_enter Tryd.func3, Tryd.ntmps3
    go_wp2_with (first
      | (go_at_call 6; (with_reducible refine (k1 _ hB.out).mono ?_); rintro e w1 ⟨rfl, hb1⟩; (have hB := hidB hB hb1); clear hb1 k1)
      | (go_at_call 7; (with_reducible refine (k2 _ hB.out).mono ?_); rintro e w2 ⟨rfl, hb1⟩; (have hB := hidB hB hb1); clear hb1 k2)
      | (go_at_call 8; (with_reducible refine (k3 _ hB.out).mono ?_); rintro e w3 ⟨rfl, hb1⟩; (have hB := hidB hB hb1); clear hb1 k3)
      | (go_at_call 9; (with_reducible refine (k4 _ hB.out).mono ?_); rintro e w4 ⟨rfl, hb1⟩; (have hB := hidB hB hb1); clear hb1 k4)
      | (go_at_call 10; (with_reducible refine (cS _).mono ?_); rintro e w5 ⟨rfl, hb3⟩; (have hB := hidB hB hb3); clear hb3 cS))
    go_ret
    exact ⟨rfl, hB.out⟩
theorem check_c {l : List Ev} {c : Int} (h : checkP l c) (h0 : c ≠ 0) : c = 2 ∨ c = 7 := by
  rcases h with ⟨_, q⟩ | ⟨_, _, q⟩ | ⟨_, _, q⟩
  · exact .inl q
  · exact .inr q
  · exact absurd q h0
theorem csames_any (a : List Ev) (la : Option Addr) (ca : Nat) (b : List Ev) (lb : Option Addr) (cb : Nat) (w : World) (ha : EvsIn w la ca a) (hb : EvsIn w lb cb b) (hT : Tab w) :
    Calls Tryd.prog 3 #[.slice la a.length ca, .slice lb b.length cb] w fun e w' => e = .returned (.bool true) ∧ Below w.heap.size w w' := by
  obtain ⟨xa, qa⟩ := check_ex a
  obtain ⟨xb, qb⟩ := check_ex b
  by_cases h1 : xa = 0
  · obtain ⟨a1, a2⟩ := check_is qa h1
    obtain ⟨X, hX⟩ := canX_ex a1 a2
    have yk : ∀ wx, Below w.heap.size w wx → Calls Tryd.prog 8 #[.slice la a.length ca] wx _ := fun wx hx => key_is hX la ca wx (evs_later ha hx) (hT.later hx)
    have yr : ∀ wx, Below w.heap.size w wx → Calls Tryd.prog 9 #[.slice la a.length ca] wx _ := fun wx hx => rkey_is hX la ca wx (evs_later ha hx) (hT.later hx)
    obtain ⟨B, hB⟩ := tells_some (dpf a)
    by_cases h2 : xb = 0
    · obtain ⟨b1, b2⟩ := check_is qb h2
      obtain ⟨Y, hY⟩ := canX_ex b1 b2
      obtain ⟨R, hR⟩ := dec_ex (X = Y)
      have hXl : X.length = a.length := by
        obtain ⟨B', L', _, _, k2, e⟩ := hX.ex
        rw [← e, laid_len, k2]
      have hYl : Y.length = b.length := by
        obtain ⟨B', L', _, _, k2, e⟩ := hY.ex
        rw [← e, laid_len, k2]
      have hXw : ∀ x ∈ X, x.wf := by
        obtain ⟨B', L', _, k1, k2, e⟩ := hX.ex
        rw [← e]; exact laid_all ha.2 k1.lin.lt
      have hYw : ∀ x ∈ Y, x.wf := by
        obtain ⟨B', L', _, k1, k2, e⟩ := hY.ex
        rw [← e]; exact laid_all hb.2 k1.lin.lt
      subst h1
      subst h2
      refine sames_told a.length b.length la lb ca cb w R 0 0 _ (fun wx hx => same_is hX hY la lb ca cb wx (evs_later ha hx) (evs_later hb hx) R hR) (fun wx hx => ?_) yk yr
      by_cases hn : a.length = b.length
      · have k1 := rcheck_any a la ca wx (ha.1.later hx) 0 qa
        have k2 : ∀ wy, Below wx.heap.size wx wy → Calls Tryd.prog 11 #[.slice lb b.length cb] wy _ := fun wy hy => rcheck_any b lb cb wy (hb.1.later (bthen hx hy)) 0 qb
        have o1 : ∀ wy, Below wx.heap.size wx wy → Calls Tryd.prog 17 #[.slice la a.length ca] wy _ := fun wy hy => rlaid_is hX la ca wy (evs_later ha (bthen hx hy))
        have o2 : ∀ wy, Below wx.heap.size wx wy → Calls Tryd.prog 17 #[.slice lb b.length cb] wy _ := fun wy hy => rlaid_is hY lb cb wy (evs_later hb (bthen hx hy))
        rw [hn] at k1 o1 ⊢
        exact rsame_in X Y hXw hYw la lb ca cb b.length wx ⟨by rw [hXl, hn], hYl⟩ (by omega) R hR k1 k2 o1 o2
      · have hr : R = false := by
          rw [Bool.eq_false_iff]
          intro q
          exact hn (by rw [← hXl, ← hYl, hR.mp q])
        rw [hr]
        exact rsame_out a.length b.length la lb ca cb wx (rcheck_any a la ca wx (ha.1.later hx) 0 qa) (fun wy hy => rcheck_any b lb cb wy (hb.1.later (bthen hx hy)) 0 qb) hn
    · refine sames_told a.length b.length la lb ca cb w false xb 0 _ (fun wx hx => ?_) (fun wx hx => rsame_bad a b la lb ca cb wx (ha.1.later hx) (hb.1.later hx) xa xb qa qb xb (.inr ⟨h1, h2, rfl⟩)) yk yr
      refine same_bad2 a.length b.length la lb ca cb wx xb h2 ?_ fun wy hy => canonical_bad b lb cb wy (hb.1.later (bthen hx hy)) xb qb (check_c qb h2)
      exact (canonical_ok a la ca wx (ha.1.later hx) a1 a2 hB).mono fun e w' ⟨L, A, he, hq⟩ => ⟨A, he, hq.out.2.2.2⟩
  · exact sames_told a.length b.length la lb ca cb w false xa xa ⟨#[]⟩ (fun wx hx => same_bad1 a.length b.length la lb ca cb wx xa h1 (canonical_bad a la ca wx (ha.1.later hx) xa qa (check_c qa h1))) (fun wx hx => rsame_bad a b la lb ca cb wx (ha.1.later hx) (hb.1.later hx) xa xb qa qb xa (.inl ⟨h1, rfl⟩)) (fun wx hx => key_bad a la ca wx (ha.1.later hx) xa qa (check_c qa h1)) (fun wx hx => rkey_bad a la ca wx (ha.1.later hx) xa qa (check_c qa h1))
end Go.Proofs.YtkadlopcomjonaaDoor.pg
