/- OrderTurned. -/
import Derived.Test.YtkhhkgfaakgdfaaM24
import Derived.Test.YtkhhkgfaakgdfaaM25
import Derived.Test.YtkhhkgfaakgdfaaM31
namespace Go.Proofs.Ytkhhkgfaakgdfaa.pg
open Go.ChangeShapes Go.WideShapes Go.ChangeAt Go.RowKit Go.Shelf
set_option linter.unusedVariables false
set_option linter.unusedSimpArgs false
set_option maxRecDepth 100000
attribute [local go_sem ↓] Go.wp_at_zero Go.wp_at_succ
/-- place, beyond a world. -/
theorem place_cls (l : List Ev) (la : Option Addr) (lc : Nat) (i : Int) (hI : (l.length : Int) ≤ 9223372036854775807) {W : World} (s : Cls (Bey W)) (R : Bool) (hR : decide (0 ≤ i ∧ i < l.length) = R) : Calls Try.prog 25 #[.slice la l.length lc, .int .i64 i] s.w fun e w' => e = .returned (.bool R) ∧ ∃ t : Cls (Bey W), w' = t.w :=
  (place_any l la lc i hI s.w).mono fun e w' ⟨he, hw⟩ => ⟨by rw [he, hR], s, hw⟩
set_option maxHeartbeats 2000000 in
theorem turned_out (l : List Ev) (la : Option Addr) (lc : Nat) (i : Int) (hi64 : I64 i) (w : World) (hl : Rows w 26 la lc (l.map Ev.cells)) (h : ¬ (checkP l 0 ∧ 0 ≤ i ∧ i + 1 < l.length ∧ clash (evf l i.toNat).of (evf l (i.toNat + 1)).of = false)) : Calls Try.prog 9 #[.slice la l.length lc, .int .i64 i] w fun e w' => e = .returned (.bool true) ∧ Below w.heap.size w w' := by
  have hlI := rows_len hl
  have hlH : Hid (Rows w 26 la lc (l.map Ev.cells)) := hl
  have cS : ∀ wx, Calls Try.prog 16 #[] wx fun e w' => e = .returned (.bool true) ∧ Below wx.heap.size wx w' := fun wx => speaks12_any wx
  obtain ⟨c, hc⟩ := check_ex l
  have cK : ∀ s : Cls (Bey w), Calls Try.prog 15 #[.slice la l.length lc] s.w fun e w' => e = .returned (.int .i64 c) ∧ Below s.w.heap.size s.w w' := fun s => rcheck_any l la lc s.w (hlH.out.later s.h) c hc
  have hne := bey_some w
  by_cases h0 : c = 0
  · subst h0
    obtain ⟨hlen, hrt⟩ : l.length ≤ 256 ∧ ∀ x ∈ l, rightP x := by rcases hc with ⟨_, q⟩ | ⟨_, _, q⟩ | ⟨a, b, _⟩ <;> first | exact ⟨a, b⟩ | omega
    by_cases hi : 0 ≤ i ∧ i < l.length
    · have d1 : ∀ s : Cls (Bey w), Calls Try.prog 25 #[.slice la l.length lc, .int .i64 i] s.w fun e w' => e = .returned (.bool true) ∧ ∃ t : Cls (Bey w), w' = t.w := fun s => place_cls l la lc i hlI s true (decide_eq_true hi)
      have hw1 : wrap64 (i + 1) = i + 1 := by simp only [wrap64]; omega
      by_cases hi1 : i + 1 < l.length
      · have d2 : ∀ s : Cls (Bey w), Calls Try.prog 25 #[.slice la l.length lc, .int .i64 (i + 1)] s.w fun e w' => e = .returned (.bool true) ∧ ∃ t : Cls (Bey w), w' = t.w := fun s => place_cls l la lc (i + 1) hlI s true (decide_eq_true ⟨by omega, hi1⟩)
        have hcl : clash (evf l i.toNat).of (evf l (i.toNat + 1)).of = true := by
          rw [← Bool.not_eq_false]
          exact fun q => h ⟨hc, hi.1, hi1, q⟩
        have cD : ∀ s : Cls (Bey w), Calls Try.prog 34 #[.agg (evf l i.toNat).cells.toArray, .agg (evf l (i.toNat + 1)).cells.toArray] s.w fun e w' => e = .returned (.bool true) ∧ Below s.w.heap.size s.w w' := fun s => rdependent_any _ _ s.w true hcl.symm
        obtain ⟨eb, eo, e1, e2, e3⟩ := ev_row hl i.toNat _ (evf_at (by omega))
        obtain ⟨fb, fo, f1, f2, f3⟩ := ev_row hl (i.toNat + 1) _ (evf_at (by omega))
        have hiN : ((i.toNat : Nat) : Int) = i := Int.toNat_of_nonneg hi.1
        rw [hiN] at e1
        rw [Int.natCast_add, hiN] at f1
        have f1' : ∀ wx, (Instr.indexAt 22 (.slice la l.length lc) (.int .i64 (i + 1))).run Try.prog wx = .ok (.pointer (some ⟨fb, fo, none⟩)) wx := f1
        have r1 : ∀ s : Cls (Bey w), s.w.rangeAt eb eo (evf l i.toNat).cells := fun s => range_block e3 (s.h.block eb e2)
        have r2 : ∀ s : Cls (Bey w), s.w.rangeAt fb fo (evf l (i.toNat + 1)).cells := fun s => range_block f3 (s.h.block fb f2)
        have huE : Hid (Try.prog.underlying 66 = _) := Try.underlying66
        have hiE : Hid ((Try.prog.info? 66).map (·.size) = some 26) := infoE26
        clear hl hc h hi hi1 hrt hcl hiN e3 f3 f1 e2 f2 hi64
        generalize (evf l i.toNat) = x at *
        generalize (evf l (i.toNat + 1)) = y at *
        go_enter Try.func9, Try.ntmps9
        go_wp2_with fail
        refine wp_region_cls (Bey w) (by kernel_rfl) (by kernel_rfl) (bey_drew w) ?_
        repeat (first
          | (go_big_quiet_want; (first | refine quiet_load_mid 66 _ rfl eb eo rfl _ _ r1 huE.out rfl hiE.out ?_ | refine quiet_load_mid 66 _ rfl fb fo rfl _ _ r2 huE.out rfl hiE.out ?_); (simp only [Act.put, List.setIfInBounds_toArray, List.set_cons_zero, List.set_cons_succ]); go_big_quiet_on)
          | go_big_quiet_step (first
            | (go_at_call 15; exact calls_bey (cK _))
            | (go_at_call 25; with_reducible exact d1 _)
            | (go_at_call 25; with_reducible exact d2 _)
            | (go_at_call 34; exact calls_bey (cD _))))
        refine wpQuiet_nil ?_
        intro _ hw'
        obtain ⟨sq, hw''⟩ := hw'
        subst hw''
        clear e1 f1' r1 r2 cK cD d1 d2
        go_wp2_with (go_at_call 16; (with_reducible refine (cS _).mono ?_); rintro e w4 ⟨rfl, hb4⟩; (have hB4 : Hid (Below w.heap.size w w4) := bthen sq.h hb4))
        go_ret
        exact ⟨rfl, hB4.out⟩
      · have d2 : ∀ s : Cls (Bey w), Calls Try.prog 25 #[.slice la l.length lc, .int .i64 (i + 1)] s.w fun e w' => e = .returned (.bool false) ∧ ∃ t : Cls (Bey w), w' = t.w := fun s => place_cls l la lc (i + 1) hlI s false (decide_eq_false fun q => hi1 q.2)
        clear hl hc h hi hi1 hrt hi64
        go_enter Try.func9, Try.ntmps9
        go_wp2_with fail
        refine wp_region_cls (Bey w) (by kernel_rfl) (by kernel_rfl) (bey_drew w) ?_
        repeat (first
          | go_big_quiet_step (first
            | (go_at_call 15; exact calls_bey (cK _))
            | (go_at_call 25; with_reducible exact d1 _)
            | (go_at_call 25; with_reducible exact d2 _)))
        refine wpQuiet_nil ?_
        intro _ hw'
        obtain ⟨sq, hw''⟩ := hw'
        subst hw''
        clear cK d1 d2
        go_wp2_with (go_at_call 16; (with_reducible refine (cS _).mono ?_); rintro e w4 ⟨rfl, hb4⟩; (have hB4 : Hid (Below w.heap.size w w4) := bthen sq.h hb4))
        go_ret
        exact ⟨rfl, hB4.out⟩
    · have d1 : ∀ s : Cls (Bey w), Calls Try.prog 25 #[.slice la l.length lc, .int .i64 i] s.w fun e w' => e = .returned (.bool false) ∧ ∃ t : Cls (Bey w), w' = t.w := fun s => place_cls l la lc i hlI s false (decide_eq_false hi)
      clear hl hc h hi hrt hi64
      go_enter Try.func9, Try.ntmps9
      go_wp2_with fail
      refine wp_region_cls (Bey w) (by kernel_rfl) (by kernel_rfl) (bey_drew w) ?_
      repeat (first
        | go_big_quiet_step (first
          | (go_at_call 15; exact calls_bey (cK _))
          | (go_at_call 25; with_reducible exact d1 _)))
      refine wpQuiet_nil ?_
      intro _ hw'
      obtain ⟨sq, hw''⟩ := hw'
      subst hw''
      clear cK d1
      go_wp2_with (go_at_call 16; (with_reducible refine (cS _).mono ?_); rintro e w4 ⟨rfl, hb4⟩; (have hB4 : Hid (Below w.heap.size w w4) := bthen sq.h hb4))
      go_ret
      exact ⟨rfl, hB4.out⟩
  · have h7 : c = 2 ∨ c = 7 := by rcases hc with ⟨_, q⟩ | ⟨_, _, q⟩ | ⟨_, _, q⟩ <;> omega
    clear hl hc h h0 hi64
    rcases h7 with rfl | rfl
    all_goals
      go_enter Try.func9, Try.ntmps9
      go_wp2_with fail
      refine wp_region_cls (Bey w) (by kernel_rfl) (by kernel_rfl) (bey_drew w) ?_
      repeat (first
        | go_big_quiet_step (first
          | (go_at_call 15; exact calls_bey (cK _))))
      refine wpQuiet_nil ?_
      intro _ hw'
      obtain ⟨sq, hw''⟩ := hw'
      subst hw''
      clear cK
      go_wp2_with (go_at_call 16; (with_reducible refine (cS _).mono ?_); rintro e w4 ⟨rfl, hb4⟩; (have hB4 : Hid (Below w.heap.size w w4) := bthen sq.h hb4))
      go_ret
      exact ⟨rfl, hB4.out⟩
end Go.Proofs.Ytkhhkgfaakgdfaa.pg
/- OrderTurned, of two neighbours that are there and do not depend on each other. -/
namespace Go.Proofs.Ytkhhkgfaakgdfaa.pg
open Go.ChangeShapes Go.WideShapes Go.ChangeAt Go.RowKit Go.Shelf
set_option linter.unusedVariables false
set_option linter.unusedSimpArgs false
set_option maxRecDepth 100000
attribute [local go_sem ↓] Go.wp_at_zero Go.wp_at_succ
theorem infoKs : (Try.prog.info? 40).map (·.size) = some 6 := by kernel_rfl
theorem len26 (l : List Ev) : ∀ row ∈ l.map Ev.cells, row.length = 26 := fun row hm => by rw [List.mem_map] at hm; obtain ⟨y, _, rfl⟩ := hm; rfl
theorem one26 (l : List Ev) : ∀ row ∈ l.map Ev.cells, ∀ u ∈ row, u.oneCell' = true := fun row hm u hu => by
  rw [List.mem_map] at hm
  obtain ⟨y, _, rfl⟩ := hm
  have := ev_one y
  rw [Array.all_eq_true_iff_forall_mem] at this
  exact this u (by simpa using hu)
theorem one6k (x : Ck) : x.cells.toArray.all (·.oneCell') = true := by simp [Ck.cells, Value.oneCell']
theorem neK_same (x : Ck) : ∀ wx, (binOp .neq 40 (.agg x.cells.toArray) (.agg x.cells.toArray)).run Try.prog wx = .ok (.bool false) wx := fun wx => by
  have := run_neK x x wx
  rw [(eqK_iff x x).mpr rfl] at this
  exact this
theorem swl_rows (l : List Ev) (i : Nat) : ((l.map Ev.cells).set i (evf l (i + 1)).cells).set (i + 1) (evf l i).cells = (swl l i).map Ev.cells := by
  unfold swl
  rw [List.map_set, List.map_set]
/-- What the loop reads: the clocks of both, beyond a world. -/
structure TwoCk (w W : World) (l : List Ev) (i : Nat) (ca : Option Addr) (cc : Nat) (da : Option Addr) (dc : Nat) : Prop where
  a : OwnL W w.heap.size 40 6 ca cc ((rel (evf l) l.length).1.map Ck.cells)
  b : OwnL W w.heap.size 40 6 da dc ((rel (evf (swl l i)) l.length).1.map Ck.cells)
  be : Below w.heap.size w W
theorem TwoCk.later {w W W' : World} {l : List Ev} {i : Nat} {ca : Option Addr} {cc : Nat} {da : Option Addr} {dc : Nat} (h : TwoCk w W l i ca cc da dc) (hb : Below W.heap.size W W') : TwoCk w W' l i ca cc da dc :=
  ⟨own_keep h.a fun b hb' => hb.block b (blk_lt h.a b hb').2, own_keep h.b fun b hb' => hb.block b (blk_lt h.b b hb').2, bthen h.be hb⟩
theorem ck_row2 {w : World} {lo n : Nat} {a : Option Addr} {cap : Nat} {ev : Nat → Ev} (h : OwnL w lo 40 6 a cap ((rel ev n).1.map Ck.cells)) (k : Nat) (hk : k < n) :
    ∃ b o, (∀ wx, (Instr.indexAt 23 (.slice a n cap) (.int .i64 (k : Int))).run Try.prog wx = .ok (.pointer (some ⟨b, o, none⟩)) wx) ∧ b < w.heap.size ∧ w.rangeAt b o ((rel ev n).1.getD k zeroK).cells := by
  obtain ⟨b, o, h1, h2, h3⟩ := ck_row h k _ (rel_get ev n k hk)
  rw [rel_len] at h1
  exact ⟨b, o, h1, (blk_lt h b h2).2, h3⟩
/-- What the copy is, and what it becomes. -/
theorem tu_facts {w W2 : World} {l : List Ev} {i : Nat} {va : Option Addr} {vc eb eo fb fo : Nat} (hU : OwnL W2 w.heap.size 66 26 va vc (l.map Ev.cells)) (hB2 : Below w.heap.size w W2) (hi : i + 1 < l.length) (eH : w.rangeAt eb eo (evf l i).cells ∧ w.rangeAt fb fo (evf l (i + 1)).cells ∧ eb < w.heap.size ∧ fb < w.heap.size) :
    ∃ g W3 W4, va = some ⟨g, 0, none⟩ ∧ (∀ wx, (Instr.indexAt 22 (.slice (some ⟨g, 0, none⟩) l.length vc) (.int .i64 (i : Int))).run Try.prog wx = .ok (.pointer (some ⟨g, i * 26, none⟩)) wx) ∧ (∀ wx, (Instr.indexAt 22 (.slice (some ⟨g, 0, none⟩) l.length vc) (.int .i64 ((i : Int) + 1))).run Try.prog wx = .ok (.pointer (some ⟨g, (i + 1) * 26, none⟩)) wx) ∧ Hid (W2.setCells g (i * 26) (evf l (i + 1)).cells = W3) ∧ Hid (W3.setCells g ((i + 1) * 26) (evf l i).cells = W4) ∧ Hid (W2.there g (i * 26) 26 ∧ W3.there g ((i + 1) * 26) 26 ∧ W2.rangeAt fb fo (evf l (i + 1)).cells ∧ W3.rangeAt eb eo (evf l i).cells ∧ Below w.heap.size w W4) ∧ Hid (Rows W4 26 (some ⟨g, 0, none⟩) vc ((swl l i).map Ev.cells)) := by
  obtain ⟨g, rfl, hg1, hg2⟩ : ∃ g, va = some ⟨g, 0, none⟩ ∧ w.heap.size ≤ g ∧ g < W2.heap.size := by
    rcases own_block hU with ⟨_, h1, _⟩ | ⟨g, h1, h2, h3⟩
    · rw [List.length_map] at h1; omega
    · exact ⟨g, h1, h2, h3⟩
  have hi0 : i < (l.map Ev.cells).length := by rw [List.length_map]; omega
  have hi1 : i + 1 < (l.map Ev.cells).length := by rw [List.length_map]; omega
  have t1 := own_there hU (len26 l) hi0
  have t2 := own_there hU (len26 l) hi1
  have xU1 := rows_ix_g Try.underlying22 (fun wx => Try.sizeOf66 wx) g l.length vc i (by omega)
  have xU2 : ∀ wx, (Instr.indexAt 22 (.slice (some ⟨g, 0, none⟩) l.length vc) (.int .i64 ((i : Int) + 1))).run Try.prog wx = .ok (.pointer (some ⟨g, (i + 1) * 26, none⟩)) wx := rows_ix_g Try.underlying22 (fun wx => Try.sizeOf66 wx) g l.length vc (i + 1) hi
  have r3 := rows_put (own_rows hU (len26 l)) hi0 (row := (evf l (i + 1)).cells) rfl t1
  have t3 : (W2.setCells g (i * 26) (evf l (i + 1)).cells).there g ((i + 1) * 26) 26 := World.there_setCells t2 _ _ _
  have r4 := rows_put r3 (i := i + 1) (by simpa using hi1) (row := (evf l i).cells) rfl t3
  rw [swl_rows] at r4
  have b3 := below_setCells hg1 (evf l (i + 1)).cells (i * 26) _ _ hB2
  have b4 := below_setCells hg1 (evf l i).cells ((i + 1) * 26) _ _ b3
  exact ⟨g, _, _, rfl, xU1, xU2, rfl, rfl, ⟨t1, t3, range_block eH.2.1 (hB2.block fb eH.2.2.2), range_block eH.1 (b3.block eb eH.2.2.1), b4⟩, r4⟩
set_option maxHeartbeats 4000000 in
theorem turned_in (l : List Ev) (la : Option Addr) (lc : Nat) (i : Nat) (w : World) (hl : Rows w 26 la lc (l.map Ev.cells)) (hlen : l.length ≤ 256) (hrt : ∀ x ∈ l, rightP x) (hi : i + 1 < l.length) (hcl : clash (evf l i).of (evf l (i + 1)).of = false) : Calls Try.prog 9 #[.slice la l.length lc, .int .i64 (i : Int)] w fun e w' => e = .returned (.bool true) ∧ Below w.heap.size w w' := by
  have hlI := rows_len hl
  have hlI2 : (l.length : Int) ≤ 256 := by omega
  have hiI : (i : Int) + 1 < l.length := by omega
  have hlH : Hid (Rows w 26 la lc (l.map Ev.cells)) := hl
  have cS : ∀ wx, Calls Try.prog 16 #[] wx fun e w' => e = .returned (.bool true) ∧ Below wx.heap.size wx w' := fun wx => speaks12_any wx
  have cK : ∀ s : Cls (Bey w), Calls Try.prog 15 #[.slice la l.length lc] s.w fun e w' => e = .returned (.int .i64 0) ∧ Below s.w.heap.size s.w w' := fun s => rcheck_any l la lc s.w (hlH.out.later s.h) 0 (.inr (.inr ⟨hlen, hrt, rfl⟩))
  have hne := bey_some w
  have d1 : ∀ s : Cls (Bey w), Calls Try.prog 25 #[.slice la l.length lc, .int .i64 (i : Int)] s.w fun e w' => e = .returned (.bool true) ∧ ∃ t : Cls (Bey w), w' = t.w := fun s => place_cls l la lc _ hlI s true (decide_eq_true ⟨by omega, by omega⟩)
  have d2 : ∀ s : Cls (Bey w), Calls Try.prog 25 #[.slice la l.length lc, .int .i64 ((i : Int) + 1)] s.w fun e w' => e = .returned (.bool true) ∧ ∃ t : Cls (Bey w), w' = t.w := fun s => place_cls l la lc _ hlI s true (decide_eq_true ⟨by omega, by omega⟩)
  have hw1 : wrap64 ((i : Int) + 1) = (i : Int) + 1 := by simp only [wrap64]; omega
  have cD : ∀ s : Cls (Bey w), Calls Try.prog 34 #[.agg (evf l i).cells.toArray, .agg (evf l (i + 1)).cells.toArray] s.w fun e w' => e = .returned (.bool false) ∧ Below s.w.heap.size s.w w' := fun s => rdependent_any _ _ s.w false hcl.symm
  obtain ⟨eb, eo, e1, e2, e3⟩ := ev_row hl i _ (evf_at (by omega))
  obtain ⟨fb, fo, f1, f2, f3⟩ := ev_row hl (i + 1) _ (evf_at (by omega))
  have f1' : ∀ wx, (Instr.indexAt 22 (.slice la l.length lc) (.int .i64 ((i : Int) + 1))).run Try.prog wx = .ok (.pointer (some ⟨fb, fo, none⟩)) wx := f1
  have r1 : ∀ s : Cls (Bey w), s.w.rangeAt eb eo (evf l i).cells := fun s => range_block e3 (s.h.block eb e2)
  have r2 : ∀ s : Cls (Bey w), s.w.rangeAt fb fo (evf l (i + 1)).cells := fun s => range_block f3 (s.h.block fb f2)
  have huE : Hid (Try.prog.underlying 66 = _) := Try.underlying66
  have hiE : Hid ((Try.prog.info? 66).map (·.size) = some 26) := infoE26
  have huK : Hid (Try.prog.underlying 40 = _) := Try.underlying40
  have hiK : Hid ((Try.prog.info? 40).map (·.size) = some 6) := infoKs
  have eH : Hid (w.rangeAt eb eo (evf l i).cells ∧ w.rangeAt fb fo (evf l (i + 1)).cells ∧ eb < w.heap.size ∧ fb < w.heap.size) := ⟨e3, f3, e2, f2⟩
  have hclH : Hid (clash (evf l i).of (evf l (i + 1)).of = false) := hcl
  have hrtH : Hid (∀ x ∈ l, rightP x) := hrt
  obtain ⟨iE, hiE', hzE, hsE, hbE⟩ := info_q infoEv
  have iEH : Hid (Try.prog.info? 66 = some iE ∧ iE.zero = some (.agg stEvZ.cells.toArray) ∧ iE.size = 26 ∧ iE.bytes = 208) := ⟨hiE', hzE, hsE, hbE⟩
  clear hl f1 e3 f3 e2 f2 hcl hrt hiE' hzE hsE hbE
  go_enter Try.func9, Try.ntmps9
  go_wp2_with fail
  refine wp_region_cls (Bey w) (by kernel_rfl) (by kernel_rfl) (bey_drew w) ?_
  repeat (first
    | (go_big_quiet_want; (first | refine quiet_load_mid 66 _ rfl eb eo rfl _ _ r1 huE.out rfl hiE.out ?_ | refine quiet_load_mid 66 _ rfl fb fo rfl _ _ r2 huE.out rfl hiE.out ?_); (simp only [Act.put, List.setIfInBounds_toArray, List.set_cons_zero, List.set_cons_succ]); go_big_quiet_on)
    | go_big_quiet_step (first
      | (go_at_call 15; exact calls_bey (cK _))
      | (go_at_call 25; with_reducible exact d1 _)
      | (go_at_call 25; with_reducible exact d2 _)
      | (go_at_call 34; exact calls_bey (cD _))))
  refine wpQuiet_nil ?_
  intro _ hw'
  obtain ⟨sq, hw''⟩ := hw'
  subst hw''
  clear r1 r2 cK cD d1 d2 hne
  obtain ⟨W1, hW1⟩ : ∃ W1, W1 = sq.w := ⟨_, rfl⟩
  have hB1 : Hid (Below w.heap.size w W1) := by show Below _ _ _; rw [hW1]; exact sq.h
  rw [← hW1]
  clear hW1
  have hz1 := hB1.out.size
  have hz1H : Hid (w.heap.size ≤ W1.heap.size) := hz1
  clear hz1
  have cA : ∀ wx, Below w.heap.size w wx → Calls Try.prog 11 #[.slice la l.length lc] wx fun e w' => ∃ ca cc, e = .returned (.tuple #[.slice ca l.length cc, .int .i64 0]) ∧ OwnL w' wx.heap.size 40 6 ca cc ((rel (evf l) l.length).1.map Ck.cells) ∧ Below wx.heap.size wx w' := fun wx hb => clocks_ok l la lc wx (hlH.out.later hb) hlen hrtH.out
  have cB : ∀ (g vc : Nat) (W4 : World), Hid (Rows W4 26 (some ⟨g, 0, none⟩) vc ((swl l i).map Ev.cells)) → ∀ wx, Below W4.heap.size W4 wx → Calls Try.prog 11 #[.slice (some ⟨g, 0, none⟩) l.length vc] wx fun e w' => ∃ ca cc, e = .returned (.tuple #[.slice ca l.length cc, .int .i64 0]) ∧ OwnL w' wx.heap.size 40 6 ca cc ((rel (evf (swl l i)) l.length).1.map Ck.cells) ∧ Below wx.heap.size wx w' := fun g vc W4 r4 wx hb => by
    have := clocks_ok (swl l i) (some ⟨g, 0, none⟩) vc wx (r4.out.later hb) (by rw [swl_len]; exact hlen) (right_swl hi hrtH.out)
    rwa [swl_len] at this
  go_wp2_with (first
    | (refine wpList_empty rfl 22 66 rfl iE Try.underlying22 iEH.out.1 ?_)
    | (at_builtin; (refine wpList_app rfl (.tmp 41) (.tmp 42) 22 rfl w.heap.size 66 iE _ 26 208 Try.underlying22 iEH.out.1 iEH.out.2.1 iEH.out.2.2.1 iEH.out.2.2.2 rfl (by decide) (some ⟨W1.heap.size, 0, none⟩) 0 [] rfl (own_empty W1 _ _ _ hz1H.out) la lc (l.map Ev.cells) (by rw [List.length_map]; rfl) (hlH.out.later (bthen hB1.out (boxed _ _))) (len26 l) (one26 l) (by rw [List.length_map]; unfold maxLen; simp only [List.length_nil]; omega) (by rw [List.length_map]; simp only [List.length_nil]; omega) (by rw [World.size_alloc]; have := hz1H.out; omega) ?_); intro va vc W2 ho2 hk2 hb2 hbl2; (have hlen2 : ([] ++ l.map Ev.cells).length = l.length := by simp); rw [hlen2]; clear hlen2; (have hB2 := (bthen hB1.out (boxed W1 (.cells #[] 66))).trans (hb2.mono (by rw [World.size_alloc]; have := hz1H.out; omega))); (obtain ⟨g, W3, W4, hva, xU1, xU2, hW3H, hW4H, hall, r4H⟩ := tu_facts ho2 hB2 hi eH.out); (subst hva); clear ho2 hk2 hb2 hbl2 hB2)
    | (refine wpList_load_mid rfl 66 _ rfl fb fo rfl _ _ hall.out.2.2.1 huE.out rfl hiE.out ?_)
    | (refine wpList_load_mid rfl 66 _ rfl eb eo rfl _ _ hall.out.2.2.2.1 huE.out rfl hiE.out ?_)
    | (refine wpList_store_mid rfl 66 _ _ rfl g (i * 26) (evf l (i + 1)).cells.toArray rfl rfl hall.out.1 (infoE_ev _) (ev_one _) ?_; rw [show W2.setCells g (i * 26) _ = W3 from hW3H.out])
    | (refine wpList_store_mid rfl 66 _ _ rfl g ((i + 1) * 26) (evf l i).cells.toArray rfl rfl hall.out.2.1 (infoE_ev _) (ev_one _) ?_; rw [show W3.setCells g ((i + 1) * 26) _ = W4 from hW4H.out])
    | (go_at_call 11; (with_reducible refine (cA _ hall.out.2.2.2.2).mono ?_); rintro e w5 ⟨ca, cc, rfl, oa', hb5⟩; (have oa : Hid (OwnL w5 W4.heap.size 40 6 ca cc ((rel (evf l) l.length).1.map Ck.cells) ∧ Below W4.heap.size W4 w5) := ⟨oa', hb5⟩); clear oa' hb5 cA)
    | (go_at_call 11; (with_reducible refine (cB _ _ _ r4H _ oa.out.2).mono ?_); rintro e w6 ⟨ba, bc, rfl, ob', hb6⟩; (have tc : Hid (TwoCk w w6 l i ca cc ba bc) := ⟨own_mono_q (own_keep oa.out.1 fun b hb' => hb6.block b (blk_lt oa.out.1 b hb').2) hall.out.2.2.2.2.size, own_mono_q ob' (bthen hall.out.2.2.2.2 oa.out.2).size, bthen (bthen hall.out.2.2.2.2 oa.out.2) hb6⟩); clear ob' hb6 cB))
  clear e1 f1' xU1 xU2 hall r4H hW3H hW4H eH oa
  go_loopw [10] (fun u wr => ∃ k : Nat, k ≤ l.length ∧ u = .int .i64 k ∧ Hid (TwoCk w wr l i ca cc ba bc)) (fun u _ => l.length - (intOf u).toNat)
  case atStart => exact ⟨0, Nat.zero_le _, rfl, tc⟩
  case round =>
    obtain ⟨k, hk, rfl, ht⟩ := hrel
    by_cases hlt : k < l.length
    · have hkI : (k : Int) < l.length := by omega
      have hsw := rel_swl hrtH.out hi hclH.out k hlt
      obtain ⟨kb, ko, kx, kl, kr⟩ := ck_row2 ht.out.a k hlt
      obtain ⟨ib, io, ix, il, ir⟩ := ck_row2 ht.out.a i (by omega)
      obtain ⟨jb, jo, jx, jl, jr⟩ := ck_row2 ht.out.a (i + 1) hi
      obtain ⟨bb, bo, bx, bl, br⟩ := ck_row2 ht.out.b k hlt
      have jx' : ∀ wx, (Instr.indexAt 23 (.slice ca l.length cc) (.int .i64 ((i : Int) + 1))).run Try.prog wx = .ok (.pointer (some ⟨jb, jo, none⟩)) wx := jx
      rw [hsw] at br
      unfold swp at br
      clear jx hsw
      by_cases c1 : k = i
      · subst c1
        rw [if_pos rfl] at br
        have hkk : ((k : Int) == (k : Int) + 1) = false := by rw [beq_eq_false_iff_ne]; omega
        have hne2 := neK_same ((rel (evf l) l.length).1.getD (k + 1) zeroK)
        generalize (rel (evf l) l.length).1.getD (k + 1) zeroK = y at *
        generalize (rel (evf l) l.length).1.getD k zeroK = x at *
        have q : Hid (wr.rangeAt kb ko x.cells ∧ wr.rangeAt jb jo y.cells ∧ wr.rangeAt bb bo y.cells ∧ jb < wr.heap.size ∧ bb < wr.heap.size) := ⟨kr, jr, br, jl, bl⟩
        have n1 := heap_alloc_new wr (.cells x.cells.toArray 40)
        have b1 := boxed wr (.cells x.cells.toArray 40)
        obtain ⟨Wa, hWa⟩ : ∃ Wa, wr.alloc (.cells x.cells.toArray 40) = Wa := ⟨_, rfl⟩
        rw [hWa] at n1 b1
        have n2 := setRow_heap Wa wr.heap.size _ y.cells.toArray _ _ n1
        have b2 := below_setRow b1 (Nat.le_refl _) y.cells.toArray
        obtain ⟨Wb, hWb⟩ : ∃ Wb, Wa.setRow wr.heap.size y.cells.toArray = Wb := ⟨_, rfl⟩
        rw [hWb] at n2 b2
        have z1 : ∀ s : Cls (Bey Wb), s.w.rangeAt bb bo y.cells := fun s => range_block (range_block br (b2.block bb bl)) (s.h.block bb (by have := b2.size; omega))
        have z2 : ∀ s : Cls (Bey Wb), s.w.rangeAt wr.heap.size 0 y.cells := fun s q v hv => by
          have h3 := (s.h.block wr.heap.size (Array.getElem?_eq_some_iff.mp n2).1).trans n2
          exact cell_of h3 (by rw [Nat.zero_add]; simpa using hv)
        have zH : Hid ((∀ s : Cls (Bey Wb), s.w.rangeAt bb bo y.cells) ∧ (∀ s : Cls (Bey Wb), s.w.rangeAt wr.heap.size 0 y.cells) ∧ Wa.rangeAt jb jo y.cells ∧ Wa.heap[wr.heap.size]? = some (.cells x.cells.toArray 40) ∧ Below wr.heap.size wr Wb) := ⟨z1, z2, range_block jr (b1.block jb jl), n1, b2⟩
        have hWaH : Hid (wr.alloc (.cells x.cells.toArray 40) = Wa) := hWa
        have hWbH : Hid (Wa.setRow wr.heap.size y.cells.toArray = Wb) := hWb
        have hneB := bey_some Wb
        clear kr ir jr br kl il jl bl n1 b1 n2 b2 z1 z2 hWa hWb ix
        go_wp2_with (first
          | (refine wpList_store_row rfl 40 _ _ rfl wr.heap.size y.cells.toArray rfl rfl _ _ zH.out.2.2.2.1 infoKs rfl (one6k y) ?_; rw [hWbH.out])
          | (refine wpList_load_mid rfl 40 _ rfl kb ko rfl _ _ q.out.1 huK.out rfl hiK.out ?_)
          | (refine wpList_store_new rfl 40 _ _ rfl rfl _ x.cells.toArray rfl (by kernel_rfl) rfl (one6k x) ?_; rw [hWaH.out])
          | (refine wpList_load_mid rfl 40 _ rfl jb jo rfl _ _ zH.out.2.2.1 huK.out rfl hiK.out ?_))
        refine wp_region_cls (Bey Wb) (by kernel_rfl) (by kernel_rfl) (bey_drew Wb) ?_
        repeat (first
          | (go_big_quiet_want; (first | refine quiet_load_mid 40 _ rfl bb bo rfl _ _ zH.out.1 huK.out rfl hiK.out ?_ | refine quiet_load_mid 40 _ rfl wr.heap.size 0 rfl _ _ zH.out.2.1 huK.out rfl hiK.out ?_); (simp only [Act.put, List.setIfInBounds_toArray, List.set_cons_zero, List.set_cons_succ]); go_big_quiet_on)
          | go_big_quiet_step (fail))
        refine wpQuiet_nil ?_
        intro _ hw'
        obtain ⟨sq2, hw''⟩ := hw'
        subst hw''
        clear bx kx jx' hne2 hneB
        go_wp2
        go_roundw
        case rel => exact ⟨k + 1, by omega, by go_num, ht.out.later (bthen zH.out.2.2.2.2 sq2.h)⟩
        case measure => simp [intOf]; omega
      · by_cases c2 : k = i + 1
        · rw [if_neg c1, if_pos c2] at br
          have hk1 : ((k : Int) == (i : Int)) = false := by rw [beq_eq_false_iff_ne]; omega
          have hk2 : ((k : Int) == (i : Int) + 1) = true := by rw [beq_iff_eq]; omega
          have bx' : ∀ wx, (Instr.indexAt 23 (.slice ba l.length bc) (.int .i64 ((i : Int) + 1))).run Try.prog wx = .ok (.pointer (some ⟨bb, bo, none⟩)) wx := by
            have e : (i : Int) + 1 = (k : Int) := by omega
            rw [e]
            exact bx
          have hkE : Hid (k = i + 1) := c2
          have hne2 := neK_same ((rel (evf l) l.length).1.getD i zeroK)
          generalize (rel (evf l) l.length).1.getD i zeroK = y at *
          generalize (rel (evf l) l.length).1.getD k zeroK = x at *
          have q : Hid (wr.rangeAt kb ko x.cells ∧ wr.rangeAt ib io y.cells ∧ wr.rangeAt bb bo y.cells ∧ ib < wr.heap.size ∧ bb < wr.heap.size) := ⟨kr, ir, br, il, bl⟩
          have n1 := heap_alloc_new wr (.cells x.cells.toArray 40)
          have b1 := boxed wr (.cells x.cells.toArray 40)
          obtain ⟨Wa, hWa⟩ : ∃ Wa, wr.alloc (.cells x.cells.toArray 40) = Wa := ⟨_, rfl⟩
          rw [hWa] at n1 b1
          have n2 := setRow_heap Wa wr.heap.size _ y.cells.toArray _ _ n1
          have b2 := below_setRow b1 (Nat.le_refl _) y.cells.toArray
          obtain ⟨Wb, hWb⟩ : ∃ Wb, Wa.setRow wr.heap.size y.cells.toArray = Wb := ⟨_, rfl⟩
          rw [hWb] at n2 b2
          have z1 : ∀ s : Cls (Bey Wb), s.w.rangeAt bb bo y.cells := fun s => range_block (range_block br (b2.block bb bl)) (s.h.block bb (by have := b2.size; omega))
          have z2 : ∀ s : Cls (Bey Wb), s.w.rangeAt wr.heap.size 0 y.cells := fun s q v hv => by
            have h3 := (s.h.block wr.heap.size (Array.getElem?_eq_some_iff.mp n2).1).trans n2
            exact cell_of h3 (by rw [Nat.zero_add]; simpa using hv)
          have zH : Hid ((∀ s : Cls (Bey Wb), s.w.rangeAt bb bo y.cells) ∧ (∀ s : Cls (Bey Wb), s.w.rangeAt wr.heap.size 0 y.cells) ∧ Wa.rangeAt ib io y.cells ∧ Wa.heap[wr.heap.size]? = some (.cells x.cells.toArray 40) ∧ Below wr.heap.size wr Wb) := ⟨z1, z2, range_block ir (b1.block ib il), n1, b2⟩
          have hWaH : Hid (wr.alloc (.cells x.cells.toArray 40) = Wa) := hWa
          have hWbH : Hid (Wa.setRow wr.heap.size y.cells.toArray = Wb) := hWb
          have hneB := bey_some Wb
          clear kr ir br kl il jl bl c1 c2 n1 b1 n2 b2 z1 z2 hWa hWb jx' jr
          go_wp2_with (first
            | (refine wpList_store_row rfl 40 _ _ rfl wr.heap.size y.cells.toArray rfl rfl _ _ zH.out.2.2.2.1 infoKs rfl (one6k y) ?_; rw [hWbH.out])
            | (refine wpList_load_mid rfl 40 _ rfl kb ko rfl _ _ q.out.1 huK.out rfl hiK.out ?_)
            | (refine wpList_store_new rfl 40 _ _ rfl rfl _ x.cells.toArray rfl (by kernel_rfl) rfl (one6k x) ?_; rw [hWaH.out])
            | (refine wpList_load_mid rfl 40 _ rfl ib io rfl _ _ zH.out.2.2.1 huK.out rfl hiK.out ?_))
          simp only [Act.put, List.setIfInBounds_toArray, List.set_cons_zero, List.set_cons_succ]
          refine wp_region_cls (Bey Wb) (by kernel_rfl) (by kernel_rfl) (bey_drew Wb) ?_
          repeat (first
            | (go_big_quiet_want; (first | refine quiet_load_mid 40 _ rfl bb bo rfl _ _ zH.out.1 huK.out rfl hiK.out ?_ | refine quiet_load_mid 40 _ rfl wr.heap.size 0 rfl _ _ zH.out.2.1 huK.out rfl hiK.out ?_); (simp only [Act.put, List.setIfInBounds_toArray, List.set_cons_zero, List.set_cons_succ]); go_big_quiet_on)
            | go_big_quiet_step (fail))
          refine wpQuiet_nil ?_
          intro _ hw'
          obtain ⟨sq2, hw''⟩ := hw'
          subst hw''
          clear bx bx' kx ix hne2 hneB
          go_wp2
          go_roundw
          case rel => exact ⟨k + 1, by omega, by first | go_num | (have := hkE.out; congr 1; omega), ht.out.later (bthen zH.out.2.2.2.2 sq2.h)⟩
          case measure => simp [intOf]; omega
        · rw [if_neg c1, if_neg c2] at br
          have hk1 : ((k : Int) == (i : Int)) = false := by rw [beq_eq_false_iff_ne]; omega
          have hk2 : ((k : Int) == (i : Int) + 1) = false := by rw [beq_eq_false_iff_ne]; omega
          have hne2 := neK_same ((rel (evf l) l.length).1.getD k zeroK)
          generalize (rel (evf l) l.length).1.getD k zeroK = y at *
          have n1 := heap_alloc_new wr (.cells y.cells.toArray 40)
          have b1 := boxed wr (.cells y.cells.toArray 40)
          obtain ⟨Wa, hWa⟩ : ∃ Wa, wr.alloc (.cells y.cells.toArray 40) = Wa := ⟨_, rfl⟩
          rw [hWa] at n1 b1
          have z1 : ∀ s : Cls (Bey Wa), s.w.rangeAt bb bo y.cells := fun s => range_block (range_block br (b1.block bb bl)) (s.h.block bb (by have := b1.size; omega))
          have z2 : ∀ s : Cls (Bey Wa), s.w.rangeAt wr.heap.size 0 y.cells := fun s q v hv => by
            have h3 := (s.h.block wr.heap.size (Array.getElem?_eq_some_iff.mp n1).1).trans n1
            exact cell_of h3 (by rw [Nat.zero_add]; simpa using hv)
          have zH : Hid ((∀ s : Cls (Bey Wa), s.w.rangeAt bb bo y.cells) ∧ (∀ s : Cls (Bey Wa), s.w.rangeAt wr.heap.size 0 y.cells) ∧ wr.rangeAt kb ko y.cells ∧ Below wr.heap.size wr Wa) := ⟨z1, z2, kr, b1⟩
          have hWaH : Hid (wr.alloc (.cells y.cells.toArray 40) = Wa) := hWa
          have hneB := bey_some Wa
          clear kr ir jr br kl il jl bl n1 b1 z1 z2 hWa ix jx' c1 c2
          go_wp2_with (first
            | (refine wpList_load_mid rfl 40 _ rfl kb ko rfl _ _ zH.out.2.2.1 huK.out rfl hiK.out ?_)
            | (refine wpList_store_new rfl 40 _ _ rfl rfl _ y.cells.toArray rfl (by kernel_rfl) rfl (one6k y) ?_; rw [hWaH.out]))
          refine wp_region_cls (Bey Wa) (by kernel_rfl) (by kernel_rfl) (bey_drew Wa) ?_
          repeat (first
            | (go_big_quiet_want; (first | refine quiet_load_mid 40 _ rfl bb bo rfl _ _ zH.out.1 huK.out rfl hiK.out ?_ | refine quiet_load_mid 40 _ rfl wr.heap.size 0 rfl _ _ zH.out.2.1 huK.out rfl hiK.out ?_); (simp only [Act.put, List.setIfInBounds_toArray, List.set_cons_zero, List.set_cons_succ]); go_big_quiet_on)
            | go_big_quiet_step (fail))
          refine wpQuiet_nil ?_
          intro _ hw'
          obtain ⟨sq2, hw''⟩ := hw'
          subst hw''
          clear bx kx hne2 hneB
          go_wp2
          go_roundw
          case rel => exact ⟨k + 1, by omega, by go_num, ht.out.later (bthen zH.out.2.2.2 sq2.h)⟩
          case measure => simp [intOf]; omega
    · have hk2 : k = l.length := by omega
      subst hk2
      go_wp2_with (go_at_call 16; (with_reducible refine (cS _).mono ?_); rintro e w9 ⟨rfl, hb9⟩; (have hB9 : Hid (Below w.heap.size w w9) := bthen ht.out.be hb9))
      go_ret
      exact ⟨rfl, hB9.out⟩
theorem turned_any (l : List Ev) (la : Option Addr) (lc : Nat) (i : Int) (w : World) (hl : EvsIn w la lc l) (hi : (Lit.int .i64 i).wf = true) : Calls Try.prog 9 #[.slice la l.length lc, .int .i64 i] w fun e w' => e = .returned (.bool true) ∧ Below w.heap.size w w' := by
  by_cases h : checkP l 0 ∧ 0 ≤ i ∧ i + 1 < l.length ∧ clash (evf l i.toNat).of (evf l (i.toNat + 1)).of = false
  · obtain ⟨hc, i0, i1, hcl⟩ := h
    obtain ⟨a, rfl⟩ := Int.eq_ofNat_of_zero_le i0
    obtain ⟨hlen, hrt⟩ : l.length ≤ 256 ∧ ∀ x ∈ l, rightP x := by rcases hc with ⟨_, q⟩ | ⟨_, _, q⟩ | ⟨a, b, _⟩ <;> first | exact ⟨a, b⟩ | omega
    exact turned_in l la lc a w hl.1 hlen hrt (by omega) hcl
  · exact turned_out l la lc i (by have h2 := hi; simp [Lit.wf] at h2; exact h2) w hl.1 h
end Go.Proofs.Ytkhhkgfaakgdfaa.pg
