/- The document's own registers that are read and set. -/
import Derived.Test.YtaghfahhfockkaaDoorTouch5
import Derived.Deep.QuietTactic
import Derived.BigQuiet
namespace Go.Proofs.YtaghfahhfockkaaDoor.pg
open Go.ChangeShapes Go.WideShapes Go.ChangeAt Go.RowKit
set_option linter.unusedVariables false
set_option linter.unusedSimpArgs false
set_option maxRecDepth 100000
def Rise (l : List Int) (w : World) (e : Ending) (w' : World) : Prop := ∃ va vc, e = .returned (.slice va (upto (inl l) 8).length vc) ∧ Rows w' 1 va vc ((upto (inl l) 8).map chCells) ∧ Below w.heap.size w w'
theorem rise_one (x : Int) (hx : I64 x) (w : World) : Calls Tryd.prog 21 #[.slice (some ⟨w.heap.size, 0, none⟩) 1 1] (w.alloc (.cells #[.int .i64 x] 3)) (Rise [x] w) :=
  (rising_any [x] _ 1 _ (rows_one (heap_alloc_new w _) rfl) (by simpa using hx)).mono fun e w' h => by
    obtain ⟨va, vc, he, hr, hb⟩ := h
    exact ⟨va, vc, he, hr, bthen (boxed _ _) hb⟩
theorem rows_two {w : World} {b : Nat} {x y : Int} {t : TypeId} (h : w.heap[b]? = some (.cells #[.int .i64 x, .int .i64 y] t (0, 0))) : Rows w 1 (some ⟨b, 0, none⟩) 2 [chCells x, chCells y] := by
  refine ⟨by simp, by simp, by simp, .inr ⟨b, 0, rfl, (Array.getElem?_eq_some_iff.mp h).1, fun i r hi => ?_⟩⟩
  have hi2 : i = 0 ∨ i = 1 := by have := (List.getElem?_eq_some_iff.mp hi).1; simp at this; omega
  rcases hi2 with rfl | rfl
  · simp at hi
    subst hi
    refine ⟨rfl, fun j u hj => ?_⟩
    have hj0 : j = 0 := by have := (List.getElem?_eq_some_iff.mp hj).1; simp [chCells] at this; omega
    subst hj0
    simp [chCells] at hj
    subst hj
    exact whole_cell h 0 _ rfl
  · simp at hi
    subst hi
    refine ⟨rfl, fun j u hj => ?_⟩
    have hj0 : j = 0 := by have := (List.getElem?_eq_some_iff.mp hj).1; simp [chCells] at this; omega
    subst hj0
    simp [chCells] at hj
    subst hj
    exact whole_cell h 1 _ rfl
theorem rise_two (x y : Int) (hx : I64 x) (hy : I64 y) (w : World) : Calls Tryd.prog 21 #[.slice (some ⟨w.heap.size, 0, none⟩) 2 2] (w.alloc (.cells #[.int .i64 x, .int .i64 y] 3)) (Rise [x, y] w) :=
  (rising_any [x, y] _ 2 _ (rows_two (heap_alloc_new w _)) (by simpa using ⟨hx, hy⟩)).mono fun e w' h => by
    obtain ⟨va, vc, he, hr, hb⟩ := h
    exact ⟨va, vc, he, hr, bthen (boxed _ _) hb⟩
theorem rise_own (l : List Int) (va : Option Addr) (vc lo : Nat) (w : World) (h : OwnL w lo 3 1 va vc (l.map chCells)) (h64 : ∀ x ∈ l, I64 x) : Calls Tryd.prog 21 #[.slice va l.length vc] w (Rise l w) :=
  rising_any l va vc w (own_rows h (len1 _)) h64
theorem below_drewN {n : Nat} {w w' : World} (h : Below n w w') (m : Nat) : Below n w (w'.drewN m) := by
  induction m with
  | zero => exact h
  | succ m ih =>
    have : w'.drewN (m + 1) = (w'.drewN m).drew := by simp [World.drewN, World.drew, Nat.add_assoc]
    rw [this]; exact ih.drew
theorem upto_none : upto (inl []) 8 = [] := by decide
theorem rows_none (w : World) : Rows w 1 none 0 (([] : List Int).map chCells) := ⟨by simp, by simp, by simp, .inl rfl⟩
section
variable (M : MPr) (f pc : Int) (w : World)
theorem rreads_wrong (hl : M.lies w) {R S : List Int} {c : Int} (h : Asked M f pc R S c) (hc : ¬ c = 0) :
    Calls Tryd.prog 7 #[M.val, .int .i64 f, .int .i64 pc] w fun e w' => e = .returned (.tuple #[.slice none 0 0, .int .i64 c]) ∧ Below w.heap.size w w' := by
  have hb := boxed w (objP M)
  have hcall := asked_any M f pc _ (hl.later hb) h
  clear h hl
  go_enter Tryd.func7, Tryd.ntmps7
  go_wp2_with (go_at_call 20; (with_reducible refine hcall.mono ?_); rintro e w2 ⟨rfl, hb2⟩)
  go_ret2
  exact ⟨rfl, bthen hb hb2⟩
theorem rsets_wrong (hl : M.lies w) {R S : List Int} {c : Int} (h : Asked M f pc R S c) (hc : ¬ c = 0) :
    Calls Tryd.prog 9 #[M.val, .int .i64 f, .int .i64 pc] w fun e w' => e = .returned (.tuple #[.slice none 0 0, .int .i64 c]) ∧ Below w.heap.size w w' := by
  have hb := boxed w (objP M)
  have hcall := asked_any M f pc _ (hl.later hb) h
  clear h hl
  go_enter Tryd.func9, Tryd.ntmps9
  go_wp2_with (go_at_call 20; (with_reducible refine hcall.mono ?_); rintro e w2 ⟨rfl, hb2⟩)
  go_ret2
  exact ⟨rfl, bthen hb hb2⟩
set_option maxHeartbeats 8000000 in
theorem rreads_right (n q : Nat) (F : MFn) (i : Ins) (hl : M.lies w) (hr : (chk insP M.pr).1 = 0) (hf : M.fns[n]? = some F) (hi : F.code[q]? = some i) :
    Calls Tryd.prog 7 #[M.val, .int .i64 n, .int .i64 q] w fun e w' => ∃ va vc, e = .returned (.tuple #[.slice va (upto (inl (rdL M.pr F.fn i)) 8).length vc, .int .i64 0]) ∧ Rows w' 1 va vc ((upto (inl (rdL M.pr F.fn i)) 8).map chCells) ∧ Below w.heap.size w w' := by
  have hAsk : Asked M n q (touchTo M.pr F.fn i 4).1 (touchTo M.pr F.fn i 4).2 0 := .inr (.inr ⟨hr, rfl, n, q, F, i, rfl, rfl, hf, hi, rfl, rfl⟩)
  have hFm : F ∈ M.fns := List.mem_of_getElem? hf
  have him : i ∈ F.code := List.mem_of_getElem? hi
  have hFp : F.fn ∈ M.pr.fns := by simp only [MPr.pr, List.mem_map]; exact ⟨F, hFm, rfl⟩
  obtain ⟨hsel, hcode, _⟩ := chk_parts hr F.fn hFp
  have hins : insP M.pr F.fn i = 0 := hcode i him
  have hkn := ins_known hins
  have hop := ins_opnds hins
  have hwf := (hl.2.2.2.2.2.2 F hFm).2.2.1 i him
  have hpar : ∀ y ∈ M.fns, 0 ≤ y.params ∧ y.params ≤ 8 := fun y hy => by
    have := chk_shaped hr y.fn (by simp only [MPr.pr, List.mem_map]; exact ⟨y, hy, rfl⟩)
    exact ⟨this.2.1.1, Int.le_trans this.2.1.2 this.1.2⟩
  have h8 : F.regs ≤ 8 := (chk_shaped hr F.fn hFp).1.2
  obtain ⟨w1, w2', w3, w4, w5⟩ := hwf
  have hb := boxed w (objP M)
  have bP := boxP_new w M
  have hcall := asked_any M n q _ (hl.later hb) hAsk
  have hLw : Hid (M.lies w) := hl
  clear hAsk hl
  go_enter Tryd.func7, Tryd.ntmps7
  go_upto_region 6 with (go_at_call 20; (with_reducible refine hcall.mono ?_); rintro e wA ⟨rfl, hbA⟩; obtain ⟨p0, p1, p2, p3⟩ := bP.later hbA; (have hwA : Below w.heap.size w wA := bthen hb hbA); (have hzA : w.heap.size < wA.heap.size := (bP.later hbA).lt); obtain ⟨fb, fo, hfix, hfbl, fc0, fc1, fc2, fc3⟩ := fn_ix (hLw.out.later hwA).2.2.1 n F hf; obtain ⟨ib, io, hiix, hibl, ic0, ic1, ic2, ic3, ic4⟩ := ins_ix ((hLw.out.later hwA).2.2.2.2.2.2 F hFm).1 q i hi)
  obtain ⟨W, hW⟩ : ∃ W, W = wA.alloc (objI i) := ⟨_, rfl⟩
  have hAW : Below wA.heap.size wA W := by rw [hW]; exact boxed _ _
  have hbI : BoxI W wA.heap.size i := by rw [hW]; exact boxI_new wA i
  have hwW : Below w.heap.size w W := bthen hwA hAW
  have hzW : wA.heap.size < W.heap.size := hbI.lt
  have hzw : w.heap.size < W.heap.size := by have := hAW.size; omega
  have hPW : BoxP W w.heap.size M := (bP.later hbA).later hAW
  rw [← hW]
  clear hW bP hcall p0 p1 p2 p3 fc0 fc1 fc2 fc3 ic0 ic1 ic2 ic3 ic4 hibl hfbl hwA hzA hAW hbA hiix
  generalize wA.heap.size = I at *
  have hbI0 := hbI
  obtain ⟨i0, i1, i2, i3, i4⟩ := hbI
  rcases ops_of hkn with h | h | h | h | h | h | h | h | h | h | h | h | h | h | h | h | h | h | h | h | h | h | h | h
  · obtain ⟨h1, h2⟩ := h
    have hl41 : i.op ≤ 41 := by omega
    have E : Hid (rdL M.pr F.fn i = [i.b]) := by show _ = _; simp [rdL, stL, h2, hl41]
    have hrs := rise_one i.b w3
    clear hkn hop hins hcode hsel hpar
    go_wp2_with (go_at_call 21; (with_reducible refine (hrs _).mono ?_); rintro e w' ⟨va, vc, rfl, ho, hb'⟩)
    go_ret2
    exact ⟨va, vc, by rw [E.out]; rfl, by rw [E.out]; exact ho, bthen hwW hb'⟩
  · obtain ⟨h1, h2⟩ := h
    have hn15 : ¬ i.op ≤ 15 := by omega
    have hn41 : ¬ i.op = 41 := by omega
    have hl41 : i.op ≤ 41 := by omega
    have E : Hid (rdL M.pr F.fn i = [i.b, i.c]) := by show _ = _; simp [rdL, stL, hn15, hn41, h2, hl41]
    have hrs := rise_two i.b i.c w3 w4
    clear hkn hop hins hcode hsel hpar
    go_wp2_with (go_at_call 21; (with_reducible refine (hrs _).mono ?_); rintro e w' ⟨va, vc, rfl, ho, hb'⟩)
    go_ret2
    exact ⟨va, vc, by rw [E.out]; rfl, by rw [E.out]; exact ho, bthen hwW hb'⟩
  · have E : Hid (rdL M.pr F.fn i = []) := by show _ = _; simp [rdL, stL, h]
    clear hkn hop hins hcode hsel hpar
    go_wp2
    go_ret2
    exact ⟨none, 0, by rw [E.out, upto_none]; rfl, by rw [E.out, upto_none]; exact rows_none _, hwW⟩
  · have E : Hid (rdL M.pr F.fn i = [i.b]) := by show _ = _; simp [rdL, stL, h]
    have hrs := rise_one i.b w3
    clear hkn hop hins hcode hsel hpar
    go_wp2_with (go_at_call 21; (with_reducible refine (hrs _).mono ?_); rintro e w' ⟨va, vc, rfl, ho, hb'⟩)
    go_ret2
    exact ⟨va, vc, by rw [E.out]; rfl, by rw [E.out]; exact ho, bthen hwW hb'⟩
  · have E : Hid (rdL M.pr F.fn i = []) := by show _ = _; simp [rdL, stL, h]
    clear hkn hop hins hcode hsel hpar
    go_wp2
    go_ret2
    exact ⟨none, 0, by rw [E.out, upto_none]; rfl, by rw [E.out, upto_none]; exact rows_none _, hwW⟩
  · have E : Hid (rdL M.pr F.fn i = [i.a]) := by show _ = _; simp [rdL, stL, h]
    have hrs := rise_one i.a w2'
    clear hkn hop hins hcode hsel hpar
    go_wp2_with (go_at_call 21; (with_reducible refine (hrs _).mono ?_); rintro e w' ⟨va, vc, rfl, ho, hb'⟩)
    go_ret2
    exact ⟨va, vc, by rw [E.out]; rfl, by rw [E.out]; exact ho, bthen hwW hb'⟩
  · have E : Hid (rdL M.pr F.fn i = [i.a]) := by show _ = _; simp [rdL, stL, h]
    have hrs := rise_one i.a w2'
    clear hkn hop hins hcode hsel hpar
    go_wp2_with (go_at_call 21; (with_reducible refine (hrs _).mono ?_); rintro e w' ⟨va, vc, rfl, ho, hb'⟩)
    go_ret2
    exact ⟨va, vc, by rw [E.out]; rfl, by rw [E.out]; exact ho, bthen hwW hb'⟩
  · have E : Hid (rdL M.pr F.fn i = []) := by show _ = _; simp [rdL, stL, h]
    clear hkn hop hins hcode hsel hpar
    go_wp2
    go_ret2
    exact ⟨none, 0, by rw [E.out, upto_none]; rfl, by rw [E.out, upto_none]; exact rows_none _, hwW⟩
  · have E : Hid (rdL M.pr F.fn i = []) := by show _ = _; simp [rdL, stL, h]
    clear hkn hop hins hcode hsel hpar
    go_wp2
    go_ret2
    exact ⟨none, 0, by rw [E.out, upto_none]; rfl, by rw [E.out, upto_none]; exact rows_none _, hwW⟩
  · have E : Hid (rdL M.pr F.fn i = [i.b]) := by show _ = _; simp [rdL, stL, h]
    have hrs := rise_one i.b w3
    clear hkn hop hins hcode hsel hpar
    go_wp2_with (go_at_call 21; (with_reducible refine (hrs _).mono ?_); rintro e w' ⟨va, vc, rfl, ho, hb'⟩)
    go_ret2
    exact ⟨va, vc, by rw [E.out]; rfl, by rw [E.out]; exact ho, bthen hwW hb'⟩
  · have E : Hid (rdL M.pr F.fn i = [i.c]) := by show _ = _; simp [rdL, stL, h]
    have hrs := rise_one i.c w4
    clear hkn hop hins hcode hsel hpar
    go_wp2_with (go_at_call 21; (with_reducible refine (hrs _).mono ?_); rintro e w' ⟨va, vc, rfl, ho, hb'⟩)
    go_ret2
    exact ⟨va, vc, by rw [E.out]; rfl, by rw [E.out]; exact ho, bthen hwW hb'⟩
  · have E : Hid (rdL M.pr F.fn i = [i.c, i.n]) := by show _ = _; simp [rdL, stL, h]
    have hrs := rise_two i.c i.n w4 w5
    clear hkn hop hins hcode hsel hpar
    go_wp2_with (go_at_call 21; (with_reducible refine (hrs _).mono ?_); rintro e w' ⟨va, vc, rfl, ho, hb'⟩)
    go_ret2
    exact ⟨va, vc, by rw [E.out]; rfl, by rw [E.out]; exact ho, bthen hwW hb'⟩
  · have E : Hid (rdL M.pr F.fn i = [i.b]) := by show _ = _; simp [rdL, stL, h]
    have hrs := rise_one i.b w3
    clear hkn hop hins hcode hsel hpar
    go_wp2_with (go_at_call 21; (with_reducible refine (hrs _).mono ?_); rintro e w' ⟨va, vc, rfl, ho, hb'⟩)
    go_ret2
    exact ⟨va, vc, by rw [E.out]; rfl, by rw [E.out]; exact ho, bthen hwW hb'⟩
  · have E : Hid (rdL M.pr F.fn i = []) := by show _ = _; simp [rdL, stL, h]
    clear hkn hop hins hcode hsel hpar
    go_wp2
    go_ret2
    exact ⟨none, 0, by rw [E.out, upto_none]; rfl, by rw [E.out, upto_none]; exact rows_none _, hwW⟩
  · have E : Hid (rdL M.pr F.fn i = []) := by show _ = _; simp [rdL, stL, h]
    clear hkn hop hins hcode hsel hpar
    go_wp2
    go_ret2
    exact ⟨none, 0, by rw [E.out, upto_none]; rfl, by rw [E.out, upto_none]; exact rows_none _, hwW⟩
  · have E : Hid (rdL M.pr F.fn i = []) := by show _ = _; simp [rdL, stL, h]
    clear hkn hop hins hcode hsel hpar
    go_wp2
    go_ret2
    exact ⟨none, 0, by rw [E.out, upto_none]; rfl, by rw [E.out, upto_none]; exact rows_none _, hwW⟩
  · have E : Hid (rdL M.pr F.fn i = [i.b]) := by show _ = _; simp [rdL, stL, h]
    have hrs := rise_one i.b w3
    clear hkn hop hins hcode hsel hpar
    go_wp2_with (go_at_call 21; (with_reducible refine (hrs _).mono ?_); rintro e w' ⟨va, vc, rfl, ho, hb'⟩)
    go_ret2
    exact ⟨va, vc, by rw [E.out]; rfl, by rw [E.out]; exact ho, bthen hwW hb'⟩
  · have E : Hid (rdL M.pr F.fn i = []) := by show _ = _; simp [rdL, stL, h]
    clear hkn hop hins hcode hsel hpar
    go_wp2
    go_ret2
    exact ⟨none, 0, by rw [E.out, upto_none]; rfl, by rw [E.out, upto_none]; exact rows_none _, hwW⟩
  · have E : Hid (rdL M.pr F.fn i = []) := by show _ = _; simp [rdL, stL, h]
    clear hkn hop hins hcode hsel hpar
    go_wp2
    go_ret2
    exact ⟨none, 0, by rw [E.out, upto_none]; rfl, by rw [E.out, upto_none]; exact rows_none _, hwW⟩
  · have hxs : inR i.a (F.fn.sels.length : Int) := by have h0 := hop 0 (by omega); rw [show lt i.op 0 = 115 by simp [lt, formOf, h]] at h0; exact opnd_s h0
    have hxs' : 0 ≤ i.a ∧ i.a < (F.sels.length : Int) := by simpa [MFn.fn] using hxs
    obtain ⟨x, hx⟩ : ∃ x : Nat, i.a = (x : Int) := ⟨i.a.toNat, by omega⟩
    obtain ⟨y, hy, hym⟩ := get_lt F.sels x (by omega)
    have hyy : F.fn.sels[((x : Int)).toNat]? = some y.sel := by rw [Int.toNat_natCast]; exact sels_get F x y hy
    have E : Hid (rdL M.pr F.fn i = sndL y.cases) := by
      show _ = _
      simp only [rdL, stL, h, hx]
      simp only [Fn.sends, Fn.takesR, hyy]
      simp
      rfl
    have hc4 : y.cases.length ≤ 4 := ((chk_shaped hr F.fn hFp).2.2.2.2 y.sel (by simp only [MFn.fn, List.mem_map]; exact ⟨y, hym, rfl⟩)).2
    have hLW := hLw.out.later hwW
    obtain ⟨fb, fo, hfix2, hfbl, fc0, fc1, fc2, fc3⟩ := fn_ix hLW.2.2.1 n F hf
    obtain ⟨zb, zo, hzix, hzbl, zc0, zc1⟩ := sel_ix (hLW.2.2.2.2.2.2 F hFm).2.1 x y hy
    have hylie := (hLW.2.2.2.2.2.2 F hFm).2.2.2.1 y hym
    obtain ⟨p0, p1, p2, p3⟩ := hPW
    rw [hx] at i1
    obtain ⟨iN, hiN, hzN, hsN, hbN⟩ := info_of infoN
    have hfull : y.cases.take y.cases.length = y.cases := List.take_length
    clear hkn hop hins hcode hsel hpar hxs hxs' hyy hfix hx
    go_wp2_with fail
    go_quiet (fail)
    go_wp2_with fail
    clear h
    have hw0 : Below W.heap.size W W := Below.refl _ _
    go_loopw [11, 119] (fun ul uk wr => ∃ (k : Nat) (va : Option Addr) (vc : Nat), k ≤ y.cases.length ∧ uk = .int .i64 k ∧ ul = .slice va (sndL (y.cases.take k)).length vc ∧ Below W.heap.size W wr ∧ OwnL wr W.heap.size 3 1 va vc ((sndL (y.cases.take k)).map chCells)) (fun _ uk _ => y.cases.length - (intOf uk).toNat)
    case atStart => exact ⟨0, none, 0, Nat.zero_le _, rfl, rfl, below_drewN hw0 _, own_nil _ _ _ _⟩
    case round =>
      obtain ⟨k, va, vc, hk, rfl, rfl, hbe, how⟩ := hrel
      by_cases hlt : k < y.cases.length
      · obtain ⟨c, hc, hm⟩ := get_lt y.cases k hlt
        obtain ⟨bb, o, hix, hbl, c0, c1, c2, c3⟩ := cas_ix (hylie.later hbe).1 k c hc
        have hkI : (k : Int) < y.cases.length := by omega
        have hyI : (y.cases.length : Int) ≤ 4 := by omega
        have hlen : (sndL (y.cases.take k)).length ≤ k := by
          refine Nat.le_trans (by unfold sndL; rw [List.length_map]; exact List.length_filter_le _ _) ?_
          rw [List.length_take]; omega
        have hww : Below w.heap.size w wr := bthen hwW hbe
        have hwz := hww.size
        have hbez := hbe.size
        cases hs : c.send with
        | true =>
          obtain ⟨X, hX⟩ : ∃ X, c.reg = X := ⟨_, rfl⟩
          have H : Hid (sndL (y.cases.take (k + 1)) = sndL (y.cases.take k) ++ [X]) := by
            show _ = _
            rw [take_one y.cases k c hc, ← hX]; simp [sndL, List.filter_append, List.filter_cons, hs]
          rw [hs] at c0
          rw [hX] at c2
          clear hs hc hX
          have hbs : Hid (W.heap.size ≤ ((wr.alloc (objC ⟨true, c.ch, X, c.to⟩)).alloc (.cells #[.int .i64 X] 3)).heap.size) := by simp only [Hid, World.size_alloc]; omega
          have hgo : Hid (OwnL ((wr.alloc (objC ⟨true, c.ch, X, c.to⟩)).alloc (.cells #[.int .i64 X] 3)) W.heap.size 3 1 va vc ((sndL (y.cases.take k)).map chCells)) := own_keep how fun b hb => (boxed2 _ _ _).block b (blk_lt how b hb).2
          have hrow : Hid (Rows ((wr.alloc (objC ⟨true, c.ch, X, c.to⟩)).alloc (.cells #[.int .i64 X] 3)) 1 (some ⟨(wr.alloc (objC ⟨true, c.ch, X, c.to⟩)).heap.size, 0, none⟩) 1 [chCells X]) := rows_one (heap_alloc_new _ _) rfl
          rw [World.size_alloc] at hrow
          have hbe2 : Hid (Below W.heap.size W ((wr.alloc (objC ⟨true, c.ch, X, c.to⟩)).alloc (.cells #[.int .i64 X] 3))) := bthen hbe (boxed2 _ _ _)
          have hWw : Hid (W.heap.size ≤ wr.heap.size) := hbe.size
          go_wp2_with (first
            | (at_builtin; (refine wpList_app rfl (.tmp 125) (.tmp 128) 23 rfl W.heap.size 3 iN _ 1 8 Tryd.underlying23 hiN hzN hsN hbN rfl (by decide) va vc ((sndL (y.cases.take k)).map chCells) (by rw [List.length_map]; rfl) hgo.out (some ⟨wr.heap.size + 1, 0, none⟩) 1 [chCells X] rfl hrow.out (len1 [X]) (one1 [X]) (by unfold maxLen; simp only [List.length_map, List.length_singleton]; omega) (by simp only [List.length_map, List.length_singleton]; omega) hbs.out ?_); intro va' vc' w2 ho2 hk2 hB2 hbl2; simp only [List.length_append, List.length_map, List.length_singleton] at ⊢))
          go_roundw
          case rel => exact ⟨k + 1, va', vc', by omega, by go_num, by rw [H.out]; simp, below_keep hbe2.out hbs.out hB2, by rw [H.out, List.map_append]; exact ho2⟩
          case measure => simp [intOf]; omega
        | false =>
          have H : Hid (sndL (y.cases.take (k + 1)) = sndL (y.cases.take k)) := by
            show _ = _
            rw [take_one y.cases k c hc]; simp [sndL, List.filter_append, List.filter_cons, hs]
          rw [hs] at c0
          clear hs hc
          go_wp2
          go_roundw
          case rel => exact ⟨k + 1, va, vc, by omega, by go_num, by rw [H.out], bthen hbe (boxed _ _), by rw [H.out]; exact own_keep how fun b hb => (boxed _ _).block b (blk_lt how b hb).2⟩
          case measure => simp [intOf]; omega
      · have hk2 : k = y.cases.length := by omega
        subst hk2
        rw [hfull] at how ⊢
        have hrs := rise_own (sndL y.cases) va vc W.heap.size wr how (fun z hz => by
          unfold sndL at hz
          obtain ⟨c, hc, rfl⟩ := List.mem_map.mp hz
          exact (hylie.2.1 c (List.mem_filter.mp hc).1).2.1)
        generalize sndL y.cases = LL at *
        go_wp2_with (go_at_call 21; (with_reducible refine hrs.mono ?_); rintro e w' ⟨va', vc', rfl, ho, hb'⟩)
        go_ret2
        exact ⟨va', vc', by rw [E.out]; rfl, by rw [E.out]; exact ho, bthen (bthen hwW hbe) hb'⟩
  · have hbr : inR i.b (M.pr.fns.length : Int) := by have h0 := hop 1 (by omega); rw [show lt i.op 1 = 102 by simp [lt, formOf, h]] at h0; exact opnd_f h0
    have hbr' : 0 ≤ i.b ∧ i.b < (M.fns.length : Int) := by simpa [MPr.pr] using hbr
    obtain ⟨y, hy, hym⟩ := get_lt M.fns i.b.toNat (by omega)
    have hyp := hpar y hym
    have hpy : M.pr.par i.b = y.params := by unfold Pr.par; rw [fns_get M _ y hy]; rfl
    have hrm : roomP (M.pr.par i.b) i.c F.fn.regs := by have h0 := hop 2 (by omega); rw [show lt i.op 2 = 112 by simp [lt, formOf, h]] at h0; exact opnd_p h0
    rw [hpy] at hrm
    have hrf := room_from hrm hyp.1
    obtain ⟨np, hn⟩ : ∃ np : Nat, y.params = (np : Int) := ⟨y.params.toNat, by omega⟩
    obtain ⟨nb, hnb⟩ : ∃ nb : Nat, i.b = (nb : Int) := ⟨i.b.toNat, by omega⟩
    obtain ⟨cx, hcx⟩ : ∃ cx : Nat, i.c = (cx : Int) := ⟨i.c.toNat, by omega⟩
    have h88 : F.fn.regs ≤ 8 := h8
    have hcn : np = 0 ∧ cx = 0 ∨ cx + np ≤ 8 := by omega
    have E : Hid (rdL M.pr F.fn i = from_ (cx : Int) np) := by
      show _ = _
      simp only [rdL, h, hpy, hn, hcx, Int.toNat_natCast]
      simp
    have hyn : M.fns[nb]? = some y := by rw [← hy, hnb]; rfl
    have hLW := hLw.out.later hwW
    obtain ⟨iN, hiN, hzN, hsN, hbN⟩ := info_of infoN
    have hnH : Hid (y.params = (np : Int)) := hn
    have hnbH : Hid (i.b = (nb : Int)) := hnb
    have hcxH : Hid (i.c = (cx : Int)) := hcx
    clear hkn hop hins hcode hsel hpar hbr hbr' hrm hrf hpy hfix hy i2 i3 i4 i1 hn hnb hcx hyp
    have hbI2 : Hid (BoxI W I i) := hbI0
    go_wp2_with fail
    clear h
    go_loopw [14, 15] (fun ul uk wr => ∃ (k : Nat) (va : Option Addr) (vc : Nat), k ≤ np ∧ uk = .int .i64 k ∧ ul = .slice va (from_ (cx : Int) k).length vc ∧ Below W.heap.size W wr ∧ OwnL wr W.heap.size 3 1 va vc ((from_ (cx : Int) k).map chCells)) (fun _ uk _ => np - (intOf uk).toNat)
    case atStart => exact ⟨0, none, 0, Nat.zero_le _, rfl, rfl, Below.refl _ _, own_nil _ _ _ _⟩
    case round =>
      obtain ⟨k, va, vc, hk, rfl, rfl, hbe, how⟩ := hrel
      obtain ⟨p0, p1, p2, p3⟩ := hPW.later hbe
      obtain ⟨i0, i1, i2, i3, i4⟩ := hbI2.out.later hbe
      obtain ⟨yb, yo, hyix, hybl, yc0, yc1, yc2, yc3⟩ := fn_ix (hLW.later hbe).2.2.1 nb y hyn
      rw [hnH.out] at yc0
      rw [hnbH.out] at i2
      rw [hcxH.out] at i3
      have hww : Below w.heap.size w wr := bthen hwW hbe
      have hwz := hww.size
      have hbez := hbe.size
      by_cases hlt : k < np
      · have hcI : (cx : Int) ≤ 8 := by omega
        have hkI : (k : Int) < np := by omega
        have hnI : (np : Int) ≤ 8 := by omega
        have hlen : (from_ (cx : Int) k).length = k := by simp [from_]
        obtain ⟨X, hX⟩ : ∃ X : Int, (cx : Int) + (k : Int) = X := ⟨_, rfl⟩
        have H : Hid (from_ (cx : Int) (k + 1) = from_ (cx : Int) k ++ [X]) := by show _ = _; rw [from_snoc, hX]
        have hbs : Hid (W.heap.size ≤ (wr.alloc (.cells #[.int .i64 X] 3)).heap.size) := by simp only [Hid, World.size_alloc]; omega
        have hgo : Hid (OwnL (wr.alloc (.cells #[.int .i64 X] 3)) W.heap.size 3 1 va vc ((from_ (cx : Int) k).map chCells)) := own_keep how fun b hb => (boxed _ _).block b (blk_lt how b hb).2
        have hrow : Hid (Rows (wr.alloc (.cells #[.int .i64 X] 3)) 1 (some ⟨wr.heap.size, 0, none⟩) 1 [chCells X]) := rows_one (heap_alloc_new _ _) rfl
        have hbe2 : Hid (Below W.heap.size W (wr.alloc (.cells #[.int .i64 X] 3))) := bthen hbe (boxed _ _)
        have hWw : Hid (W.heap.size ≤ wr.heap.size) := hbe.size
        have hL8 : Hid ((from_ (cx : Int) k).length ≤ 8) := by show _ ≤ _; omega
        clear hlen
        go_wp2_with (first
          | (at_builtin; (refine wpList_app rfl (.tmp 147) (.tmp 152) 23 rfl W.heap.size 3 iN _ 1 8 Tryd.underlying23 hiN hzN hsN hbN rfl (by decide) va vc ((from_ (cx : Int) k).map chCells) (by rw [List.length_map]; rfl) hgo.out (some ⟨wr.heap.size, 0, none⟩) 1 [chCells X] rfl hrow.out (len1 [X]) (one1 [X]) (by have := hL8.out; unfold maxLen; simp only [List.length_map, List.length_singleton]; omega) (by have := hL8.out; simp only [List.length_map, List.length_singleton]; omega) hbs.out ?_); intro va' vc' w2 ho2 hk2 hB2 hbl2; simp only [List.length_append, List.length_map, List.length_singleton] at ⊢))
        go_roundw
        case rel => exact ⟨k + 1, va', vc', by omega, by go_num, by rw [H.out]; simp, below_keep hbe2.out hbs.out hB2, by rw [H.out, List.map_append]; exact ho2⟩
        case measure => simp [intOf]; omega
      · have hk2 : k = np := by omega
        subst hk2
        have hrs := rise_own (from_ (cx : Int) k) va vc W.heap.size wr how (fun z hz => by
          unfold from_ at hz
          obtain ⟨j, hj, rfl⟩ := List.mem_map.mp hz
          have := List.mem_range.mp hj
          unfold I64; omega)
        generalize from_ (cx : Int) k = LL at *
        go_wp2_with (go_at_call 21; (with_reducible refine hrs.mono ?_); rintro e w' ⟨va', vc', rfl, ho, hb'⟩)
        go_ret2
        exact ⟨va', vc', by rw [E.out]; rfl, by rw [E.out]; exact ho, bthen (bthen hwW hbe) hb'⟩
  · have E : Hid (rdL M.pr F.fn i = [i.a]) := by show _ = _; simp [rdL, stL, h]
    have hrs := rise_one i.a w2'
    clear hkn hop hins hcode hsel hpar
    go_wp2_with (go_at_call 21; (with_reducible refine (hrs _).mono ?_); rintro e w' ⟨va, vc, rfl, ho, hb'⟩)
    go_ret2
    exact ⟨va, vc, by rw [E.out]; rfl, by rw [E.out]; exact ho, bthen hwW hb'⟩
  · have E : Hid (rdL M.pr F.fn i = []) := by show _ = _; simp [rdL, stL, h]
    clear hkn hop hins hcode hsel hpar
    go_wp2
    go_ret2
    exact ⟨none, 0, by rw [E.out, upto_none]; rfl, by rw [E.out, upto_none]; exact rows_none _, hwW⟩
  · have E : Hid (rdL M.pr F.fn i = [i.a]) := by show _ = _; simp [rdL, stL, h]
    have hrs := rise_one i.a w2'
    clear hkn hop hins hcode hsel hpar
    go_wp2_with (go_at_call 21; (with_reducible refine (hrs _).mono ?_); rintro e w' ⟨va, vc, rfl, ho, hb'⟩)
    go_ret2
    exact ⟨va, vc, by rw [E.out]; rfl, by rw [E.out]; exact ho, bthen hwW hb'⟩
end
end Go.Proofs.YtaghfahhfockkaaDoor.pg
