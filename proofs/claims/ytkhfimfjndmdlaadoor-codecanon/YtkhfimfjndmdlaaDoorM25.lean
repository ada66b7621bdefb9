/- What Decode takes is just what a program is written as. -/
import Derived.Test.YtkhfimfjndmdlaaDoorM24
namespace Go.Proofs.YtkhfimfjndmdlaaDoor.pg
open Go.ChangeShapes Go.WideShapes Go.ChangeAt Go.RowKit
set_option linter.unusedVariables false
set_option linter.unusedSimpArgs false
set_option maxRecDepth 100000
theorem has_at {f : Nat → Nat} {n : Nat} {L : List Nat} (h : Has f n 0 L) (i : Nat) (hi : i < L.length) : f i = fl L i := by
  have := h.2 i _ (List.getElem?_eq_getElem hi)
  rw [Nat.zero_add] at this
  rw [this]
  unfold fl
  rw [List.getD_eq_getElem?_getD, List.getElem?_eq_getElem hi]
  rfl
theorem dec_back {f : Nat → Nat} {n : Nat} (hf : ∀ i, f i < 256) (he : (dS f n).e = 0) : Has f n 0 (fullB (dPr f n).1) ∧ n = (fullB (dPr f n).1).length := by
  unfold dS rdEnd at he
  by_cases h3 : (rdSum f n (dPr f n).2).e = 0
  · rw [if_pos h3] at he
    have hk3 : ¬ (rdSum f n (dPr f n).2).k < n := fun q => by
      have he' : octet.endOf n (rdSum f n (dPr f n).2).k = 0 := he
      unfold octet.endOf at he'
      rw [if_pos q] at he'
      simp at he'
    by_cases h2 : (dPr f n).2.e = 0
    · unfold rdSum at h3 hk3
      rw [if_pos h2] at h3 hk3
      by_cases hs : n < (dPr f n).2.k + 4
      · rw [if_pos hs] at h3; simp at h3
      · rw [if_neg hs] at h3 hk3
        have h41 : hasB f n (dPr f n).2.k (sumB (sumOf f (dPr f n).2.k)) = true := by
          apply Classical.byContradiction
          intro q
          have h3' : (if hasB f n (dPr f n).2.k (sumB (sumOf f (dPr f n).2.k)) = true then (0 : Int) else 41) = 0 := h3
          rw [if_neg q] at h3'
          simp at h3'
        have H3 := hasB_iff.mp h41
        have hk : (rdMag f n).k ≤ n := by unfold rdMag; show (if n < 5 then 0 else 5) ≤ n; split <;> omega
        obtain ⟨_, hg⟩ := bwd_pr hf (rdMag f n) hk
        obtain ⟨g1, g2, g3⟩ := hg h2
        have hm : hasB f n 0 magB = true := by
          apply Classical.byContradiction
          intro q
          have g1' : (if hasB f n 0 magB = true then (0 : Int) else 40) = 0 := g1
          rw [if_neg q] at g1'
          simp at g1'
        have H1 := hasB_iff.mp hm
        have hn5 : 5 ≤ n := by have := H1.1; simpa using this
        have hk5 : (rdMag f n).k = 5 := by show (if n < 5 then 0 else 5) = 5; rw [if_neg (by omega)]
        rw [hk5] at g2 g3
        have g3' : (dPr f n).2.k = 5 + (encP (dPr f n).1).length := g3
        have g2' : Has f n 5 (encP (dPr f n).1) := g2
        rw [g3'] at H3 hk3
        generalize (dPr f n).1 = P at *
        have H12 : Has f n 0 (magicB ++ encP P) := Has.app.mpr ⟨H1, by simpa using g2'⟩
        have e : (magicB ++ encP P).length = 5 + (encP P).length := by rw [List.length_append]; rfl
        have hsum : sumOf f (5 + (encP P).length) = sumOf (fl (magicB ++ encP P)) (magicB ++ encP P).length := by
          rw [e]
          unfold sumOf
          rw [crc_congr f (fl (magicB ++ encP P)) _ fun i hi => has_at H12 i (by rw [e]; exact hi)]
        rw [hsum] at H3
        have hF : Has f n 0 (fullB P) := Has.app.mpr ⟨H12, by have q := H3; rw [← e] at q; rw [Nat.zero_add]; exact q⟩
        refine ⟨hF, ?_⟩
        have l1 := hF.1
        have l2 : (fullB P).length = 5 + (encP P).length + 4 := by unfold fullB; rw [List.length_append, e]; rfl
        have hk3' : ¬ (5 + (encP P).length + 4) < n := hk3
        omega
    · unfold rdSum at h3
      rw [if_neg h2] at h3
      exact absurd h3 h2
  · rw [if_neg h3] at he
    exact absurd he h3
theorem full_inj {P Q : Pr} (hP : prOkP P) (hQ : prOkP Q) (h : fullB P = fullB Q) : P = Q := by
  have h1 := (dec_enc P hP).1
  have h2 := (dec_enc Q hQ).1
  rw [← h] at h2
  exact h1.symm.trans h2
end Go.Proofs.YtkhfimfjndmdlaaDoor.pg
/- What is read from bytes is right, and has no other bytes. -/
namespace Go.Proofs.YtkhfimfjndmdlaaDoor.pg
open Go.ChangeShapes Go.WideShapes Go.ChangeAt Go.RowKit
set_option linter.unusedVariables false
set_option linter.unusedSimpArgs false
set_option maxRecDepth 100000
section
variable {w : World} {n c : Nat} {a : Option Addr} {f : Nat → Nat}
set_option maxHeartbeats 2000000 in
theorem canon_bad (E A : Int) (hE : E ≠ 0) (hF : prog.Forms w) (c1 : Calls Tryd.prog 10 #[.slice a n c] w fun e w' => e = .returned (.tuple #[zeroP.val, .int .i64 E, .int .i64 A]) ∧ Below w.heap.size w w') :
    Calls Tryd.prog 4 #[.slice a n c] w fun e w' => e = .returned (.bool true) ∧ Below w.heap.size w w' := by
  have c3 : ∀ wx, Below w.heap.size w wx → Calls Tryd.prog 9 #[] wx _ := fun wx h => speaks_any (hF.later h)
  have hE2 : (E != 0) = true := by simpa using hE
  clear hF hE
  go_enter Tryd.func4, Tryd.ntmps4
  go_wp2_with (first
    | (go_at_call 10; (with_reducible refine c1.mono ?_); rintro e w1 ⟨rfl, b1⟩; (have B1 : Hid (Below w.heap.size w (w1.alloc objP0)) := bthen b1 (boxed _ _)); clear c1)
    | (go_at_call 9; (with_reducible refine (c3 _ B1.out).mono ?_); rintro e w3 ⟨rfl, b3⟩; (have B3 := bthen B1.out b3)))
  go_ret
  exact ⟨rfl, B3⟩
set_option maxHeartbeats 2000000 in
theorem canon_ok (hr : octet.Row w a n f) (P : Pr) (hok : prOkP P) (B C : Int) (hck : chk insP P = (0, B, C)) (hs : octet.sameB f n (fl (fullB P)) (fullB P).length = true) (hF : prog.Forms w)
    (c1 : Calls Tryd.prog 10 #[.slice a n c] w fun e w' => ∃ m : MPr, e = .returned (.tuple #[m.val, .int .i64 0, .int .i64 0]) ∧ m.pr = P ∧ m.lies w' ∧ Below w.heap.size w w') :
    Calls Tryd.prog 4 #[.slice a n c] w fun e w' => e = .returned (.bool true) ∧ Below w.heap.size w w' := by
  have c3 : ∀ wx, Below w.heap.size w wx → Calls Tryd.prog 9 #[] wx _ := fun wx h => speaks_any (hF.later h)
  have c4 : ∀ wx (m : MPr), m.pr = P → m.lies wx → Below w.heap.size w wx → Calls Tryd.prog 12 #[m.val] wx _ := fun wx m hm h1 h2 => check_any m wx h1 (hF.later h2) 0 B C (by show _ = _; rw [hm]; exact hck)
  obtain ⟨N, hN⟩ : ∃ N, Hid ((fullB P).length = N) := ⟨_, rfl⟩
  obtain ⟨L, hL⟩ : ∃ L, Hid (fullB P = L) := ⟨_, rfl⟩
  have c5 : ∀ wx (m : MPr), m.pr = P → m.lies wx → Below w.heap.size w wx → Calls Tryd.prog 7 #[m.val] wx fun e w' => ∃ va vc, e = .returned (.tuple #[.slice va N vc, .int .i64 0]) ∧ Rows w' 1 va vc (L.map u8c) ∧ (∀ b ∈ blk va, b < w'.heap.size) ∧ Below wx.heap.size wx w' := fun wx m hm h1 h2 => by
    rw [← hL.out]
    exact encode_full m h1 (hF.later h2) P hm B C hck N hN.out
  have c6 : ∀ wx va vc, Rows wx 1 va vc (L.map u8c) → Below w.heap.size w wx → Calls Tryd.prog 13 #[.slice a n c, .slice va N vc] wx _ := fun wx va vc h1 h2 => by
    have h3 := rows_row (L := fullB P) (by rw [hL.out]; exact h1) (full_bt P)
    rw [hN.out] at h3 hs
    exact octet.same_any a va n N c vc f _ wx (hr.later h2) h3 true hs
  clear hF hr hok hck hs hN hL
  go_enter Tryd.func4, Tryd.ntmps4
  go_wp2_with (first
    | (go_at_call 10; (with_reducible refine c1.mono ?_); rintro e w1 ⟨m, rfl, hm, hl1, b1⟩; (have hmH : Hid (m.pr = P) := hm); clear hm; (have B1 : Hid (Below w.heap.size w (w1.alloc (objP m))) := bthen b1 (boxed _ _)); (have hl2 : Hid (m.lies (w1.alloc (objP m))) := hl1.later (boxed _ _)); (have p1 : (w1.alloc (objP m)).heap[w1.heap.size]? = some (objP m) := heap_alloc_new _ _); (have pl : Hid (w1.heap.size < (w1.alloc (objP m)).heap.size) := by (show _ < _); rw [World.size_alloc]; omega); clear c1 hl1)
    | (go_at_call 12; (with_reducible refine (c4 _ m hmH.out hl2.out B1.out).mono ?_); rintro e w2 ⟨rfl, b2⟩; (have b23 := bthen b2 (boxed w2 (.cells #[.int .i64 B, .int .i64 C] 37))); (have B3 : Hid (Below w.heap.size w (w2.alloc (.cells #[.int .i64 B, .int .i64 C] 37))) := bthen B1.out b23); (have hl3 : Hid (m.lies (w2.alloc (.cells #[.int .i64 B, .int .i64 C] 37))) := hl2.out.later b23); (have p3 := (b23.block w1.heap.size pl.out).trans p1); (have q0 := whole_cell p3 0 _ rfl); (have q1 := whole_cell p3 1 _ rfl); (have q2 := whole_cell p3 2 _ rfl); (have q3 := whole_cell p3 3 _ rfl); (have ql := (Array.getElem?_eq_some_iff.mp p3).1))
    | (go_at_call 7; (with_reducible refine (c5 _ m hmH.out hl3.out B3.out).mono ?_); rintro e w4 ⟨va, vc, rfl, hR4, _, b4⟩; (have B4 := bthen B3.out b4); (have hR4H : Hid (Rows w4 1 va vc (L.map u8c)) := hR4); clear hR4)
    | (go_at_call 13; (with_reducible refine (c6 _ _ _ hR4H.out B4).mono ?_); rintro e w5 ⟨rfl, hw5⟩; replace hw5 := hw5.symm; subst hw5)
    | (go_at_call 9; (with_reducible refine (c3 _ B4).mono ?_); rintro e w6 ⟨rfl, b6⟩; (have B6 := bthen B4 b6)))
  go_ret
  exact ⟨rfl, B6⟩
theorem codecanon_any (hr : octet.Row w a n f) (ha : a = none → n = 0 ∧ c = 0) (hbl : n = 0 ∨ ∀ b ∈ blk a, b < w.heap.size) (hnc : n ≤ c) (hc : (c : Int) ≤ 9223372036854775807) (hF : prog.Forms w) :
    Calls Tryd.prog 4 #[.slice a n c] w fun e w' => e = .returned (.bool true) ∧ Below w.heap.size w w' := by
  have hFI : ∀ wx, Below w.heap.size w wx → prog.Forms wx := fun wx h => hF.later h
  by_cases h1 : 65536 < n
  · exact canon_bad 2 0 (by decide) hF (decode_long h1 (by omega))
  · by_cases h2 : (dS f n).e = 0
    · obtain ⟨A, B, C, hA⟩ : ∃ A B C, chk insP (dPr f n).1 = (A, B, C) := ⟨_, _, _, rfl⟩
      by_cases h3 : A = 0
      · subst h3
        obtain ⟨k1, k2⟩ := dec_back hr.2.1 h2
        have hwf : prWf (dPr f n).1 := wf_pr hr.2.1 _
        have hok : prOkP (dPr f n).1 := right_ok (by rw [hA]) hwf.1 (fun g hg i hi => ((hwf.2.2.2 g hg).2.2.1 i hi).2.2.2.2)
        refine canon_ok hr (dPr f n).1 hok B C hA ?_ hF ((decode_ok hr ha hbl (by omega) hnc hc hFI h2 0 B C hA rfl).mono fun e w' ⟨m, he, hp, ho, hb⟩ => ⟨m, he, hp, own_lies ho (by rw [hp]; exact hwf), hb⟩)
        rw [octet.sameB_iff f _ n _ hr.2.1 (fl_lt (full_bt _))]
        exact ⟨k2, fun i hi => has_at k1 i (by omega)⟩
      · exact canon_bad A 0 h3 hF (decode_unright hr ha hbl (by omega) hnc hc hFI h2 A B C hA h3)
    · exact canon_bad _ _ h2 hF (decode_wrong hr ha hbl (by omega) hnc hc hFI h2)
end
/-- Bytes that came in. -/
def BytesIn (w : World) (a : Option Addr) (n c : Nat) (f : Nat → Nat) : Prop := octet.Row w a n f ∧ (a = none → n = 0 ∧ c = 0) ∧ (n = 0 ∨ ∀ b ∈ blk a, b < w.heap.size) ∧ n ≤ c ∧ (c : Int) ≤ 9223372036854775807
theorem bytes_nil (w : World) : BytesIn w none 0 0 (fun _ => 0) := ⟨row_none w, fun _ => ⟨rfl, rfl⟩, .inl rfl, Nat.le_refl _, by decide⟩
theorem bytes_in {w : World} {x : Addr} {len cap : Nat} {zs : List Int} (hl : len ≤ cap) (hm : cap ≤ maxLen) (hz : zs.length = cap) (hc : ∀ i, i < zs.length → w.cell? (x.add i) = some (.int .u8 (zs.getD i 0))) (hw : ∀ n ∈ zs, (Lit.int .u8 n).wf = true) : BytesIn w (some x) len cap (octet.bytAt zs) := by
  refine ⟨octet.row_of hl hm hz x rfl hc hw, (fun h => by cases h), ?_, hl, by unfold maxLen at hm; omega⟩
  by_cases h0 : cap = 0
  · exact .inl (by omega)
  · refine .inr fun b hb => ?_
    simp only [blk, List.mem_singleton] at hb
    subst hb
    have h1 := hc 0 (by omega)
    apply Classical.byContradiction
    intro q
    have : w.heap[x.block]? = none := Array.getElem?_eq_none (by omega)
    simp [World.cell?, Addr.add, this] at h1
theorem codecanon_in {w : World} {a : Option Addr} {n c : Nat} {f : Nat → Nat} (h : BytesIn w a n c f) (hF : prog.Forms w) : Calls Tryd.prog 4 #[.slice a n c] w fun e w' => e = .returned (.bool true) ∧ Below w.heap.size w w' :=
  codecanon_any h.1 h.2.1 h.2.2.1 h.2.2.2.1 h.2.2.2.2 hF
end Go.Proofs.YtkhfimfjndmdlaaDoor.pg
