/- The contract of the statements' own Prog: a program in memory of its own. -/
import Derived.Test.YtofeohhnfnnifaaDoorM39
namespace Go.Proofs.YtofeohhnfnnifaaDoor.pg
open Go.ChangeShapes Go.WideShapes Go.ChangeAt Go.RowKit
set_option linter.unusedVariables false
set_option linter.unusedSimpArgs false
set_option maxRecDepth 100000
theorem OSt.start {M : MPr} {w w2 : World} {va ha : Option Addr} {vc hc n1 : Nat} (hbe : Below w.heap.size w w2) (v0 : w2.heap[w.heap.size]? = some (objP M)) (v1 : w2.heap[w.heap.size + 1]? = some objN)
    (v2 : w2.heap[w.heap.size + 1 + 1]? = some (objO va M.vars.length vc M.locks none 0 0 none 0 0)) (ov : OwnL w2 w.heap.size 68 2 va vc (M.vars.map Vr.cells)) (oh : OwnL w2 w.heap.size 3 1 ha hc (M.chans.map chCells))
    (hva : ∀ b ∈ blk va, w.heap.size + 3 ≤ b ∧ b < n1) (hha : ∀ b ∈ blk ha, n1 ≤ b) (hn : w.heap.size + 3 ≤ n1) :
    OSt M w 0 ⟨va, vc, M.vars, M.locks, ha, hc, M.chans, none, 0, []⟩ (w2.setCell ⟨w.heap.size + 1 + 1, 2, none⟩ (.slice ha M.chans.length hc)) := by
  have kf : ∀ b, b ≠ w.heap.size + 1 + 1 → (w2.setCell ⟨w.heap.size + 1 + 1, 2, none⟩ (.slice ha M.chans.length hc)).heap[b]? = w2.heap[b]? := fun b hb => heap_setCell_other _ _ _ _ hb
  have hszf : (w2.setCell ⟨w.heap.size + 1 + 1, 2, none⟩ (.slice ha M.chans.length hc)).heap.size = w2.heap.size := World.size_setCell _ _ _
  have hb : MPr.blocks ⟨va, vc, M.vars, M.locks, ha, hc, M.chans, none, 0, []⟩ = blk va ++ blk ha := by simp [MPr.blocks, MPr.rest, blk]
  refine ⟨hbe.setCell (le2 _) _, (kf _ (by omega)).trans v0, (kf _ (by omega)).trans v1, ?_, rfl, rfl, rfl, by simp, ⟨own_keep ov fun b hb => kf b (by have := hva b hb; omega), own_keep oh fun b hb => kf b (by have := hha b hb; omega), own_nil _ _ _ _, by simp⟩, ?_, ?_⟩
  · have := set4 w2 (w.heap.size + 1 + 1) 2 _ _ (.slice ha M.chans.length hc) v2
    simpa [objP] using this
  · rw [hb]
    exact nodup_app (blk_nodup _) (blk_nodup _) fun b h1 h2 => by have := hva b h1; have := hha b h2; omega
  · intro b h
    rw [hb] at h
    rw [hszf]
    rcases List.mem_append.mp h with h | h
    · exact ⟨(hva b h).1, (blk_lt ov b h).2⟩
    · exact ⟨by have := hha b h; omega, (blk_lt oh b h).2⟩
theorem rows_one {w : World} {b k : Nat} {cs : List Value} {t : TypeId} (h : w.heap[b]? = some (.cells cs.toArray t (0, 0))) (hk : cs.length = k) : Rows w k (some ⟨b, 0, none⟩) 1 [cs] := by
  refine ⟨by simp, by omega, by simp, .inr ⟨b, 0, rfl, (Array.getElem?_eq_some_iff.mp h).1, fun i row hi => ?_⟩⟩
  cases i with
  | zero =>
    simp at hi
    subst hi
    refine ⟨hk, fun j u hj => ?_⟩
    have := whole_cell h j u (by simpa using hj)
    simpa using this
  | succ i => simp at hi
set_option maxHeartbeats 8000000 in
theorem copy_any (M : MPr) (w : World) (hl : M.lies w) (hs : M.sz) :
    Calls Tryd.prog 9 #[M.val] w fun e w' => ∃ N : MPr, e = .returned N.val ∧ Copied M N w' w.heap.size ∧ Below w.heap.size w w' := by
  obtain ⟨iV, hiV, hzV, hsV, hbV⟩ := info_of infoV
  obtain ⟨iN, hiN, hzN, hsN, hbN⟩ := info_of infoN
  obtain ⟨iI, hiI, hzI, hsI, hbI⟩ := info_of infoI
  obtain ⟨iC, hiC, hzC, hsC, hbC⟩ := info_of infoCc
  obtain ⟨iS, hiS, hzS, hsS, hbS⟩ := info_of infoSs
  obtain ⟨iF, hiF, hzF, hsF, hbF⟩ := info_of infoF
  have hlv := rows_len hl.1
  have hlc := rows_len hl.2.1
  have hlf := rows_len hl.2.2.1
  have hsv := hs.1
  have hsc := hs.2.1
  have hsf := hs.2.2.1
  have hR : reachBytes = 140737488351232 := rfl
  have hb3 := boxed3 w (objP M) (objO none 0 0 0 none 0 0 none 0 0) (objO none 0 0 M.locks none 0 0 none 0 0)
  have g0 : Hid ((((w.alloc (objP M)).alloc (objO none 0 0 0 none 0 0 none 0 0)).alloc (objO none 0 0 M.locks none 0 0 none 0 0)).heap[w.heap.size]? = some (objP M)) :=
    ((boxed2 (w.alloc (objP M)) _ _).block w.heap.size (by simp)).trans (heap_alloc_new w _)
  have g1 : Hid ((((w.alloc (objP M)).alloc (objO none 0 0 0 none 0 0 none 0 0)).alloc (objO none 0 0 M.locks none 0 0 none 0 0)).heap[w.heap.size + 1]? = some (objO none 0 0 0 none 0 0 none 0 0)) := by
    have q := heap_alloc_new (w.alloc (objP M)) (objO none 0 0 0 none 0 0 none 0 0)
    rw [World.size_alloc] at q
    exact ((boxed ((w.alloc (objP M)).alloc _) _).block (w.heap.size + 1) (by simp)).trans q
  have g2 : Hid ((((w.alloc (objP M)).alloc (objO none 0 0 0 none 0 0 none 0 0)).alloc (objO none 0 0 M.locks none 0 0 none 0 0)).heap[w.heap.size + 1 + 1]? = some (objO none 0 0 M.locks none 0 0 none 0 0)) := by
    have q := heap_alloc_new ((w.alloc (objP M)).alloc (objO none 0 0 0 none 0 0 none 0 0)) (objO none 0 0 M.locks none 0 0 none 0 0)
    rw [World.size_alloc, World.size_alloc] at q
    exact q
  have hz3 : Hid ((((w.alloc (objP M)).alloc (objO none 0 0 0 none 0 0 none 0 0)).alloc (objO none 0 0 M.locks none 0 0 none 0 0)).heap.size = w.heap.size + 1 + 1 + 1) := by simp only [Hid, World.size_alloc]
  go_enter Tryd.func9, Tryd.ntmps9
  go_wp2_with (first
    | (at_builtin; (refine wpList_app rfl (.tmp 14) (.tmp 16) 22 rfl w.heap.size 68 iV _ 2 16 Tryd.underlying22 hiV hzV hsV hbV rfl (by decide) none 0 [] rfl (own_nil _ _ _ _) M.va M.vcap (M.vars.map Vr.cells) (by rw [List.length_map]; rfl) (hl.1.later hb3) (len2 _) (one2 _) (by unfold maxLen; simp only [List.length_map, List.length_nil]; omega) (by simp only [List.length_map, List.length_nil]; omega) hb3.size ?_); intro va vc w1 ho1 hk1 hB1 hbl1; simp only [List.nil_append, List.length_map] at ho1 ⊢;
          (have hbw1 : Below w.heap.size w w1 := hb3.trans (hB1.mono (by rw [hz3.out]; omega)));
          (have hsz1 : w.heap.size + 1 + 1 + 1 ≤ w1.heap.size := by have := hB1.size; rw [hz3.out] at this; exact this);
          (have u0 : Hid (w1.heap[w.heap.size]? = some (objP M)) := (hk1 _ (by rw [hz3.out]; omega) (by simp [blk])).trans g0.out);
          (have u1 : Hid (w1.heap[w.heap.size + 1]? = some (objO none 0 0 0 none 0 0 none 0 0)) := (hk1 _ (by rw [hz3.out]; omega) (by simp [blk])).trans g1.out);
          (have u2 : Hid (w1.heap[w.heap.size + 1 + 1]? = some (objO none 0 0 M.locks none 0 0 none 0 0)) := (hk1 _ (by rw [hz3.out]; omega) (by simp [blk])).trans g2.out);
          (have a2 := whole_cell u0.out 2 _ rfl);
          (have o0 := whole_cell u2.out 0 _ rfl);
          (have o2 := whole_cell u2.out 2 _ rfl);
          (have fz0 := whole_frozen u2.out 0);
          (have fz2 := whole_frozen u2.out 2);
          clear hk1 hB1)
    | (at_builtin; (refine wpList_app rfl (.tmp 20) (.tmp 22) 23 rfl w.heap.size 3 iN _ 1 8 Tryd.underlying23 hiN hzN hsN hbN rfl (by decide) none 0 [] rfl (own_nil _ _ _ _) M.cha M.chcap (M.chans.map chCells) (by rw [List.length_map]; rfl) (hl.2.1.later (hbw1.setCell (le2 _) _)) (len1 _) (one1 _) (by unfold maxLen; simp only [List.length_map, List.length_nil]; omega) (by simp only [List.length_map, List.length_nil]; omega) (hbw1.setCell (le2 _) _).size ?_); intro ha hc w2 ho2 hk2 hB2 hbl2; simp only [List.nil_append, List.length_map] at ho2 ⊢;
          (have hzs : (w1.setCell ⟨w.heap.size + 1 + 1, 0, none⟩ (.slice va M.vars.length vc)).heap.size = w1.heap.size := World.size_setCell _ _ _);
          (have hbw2 : Below w.heap.size w w2 := (hbw1.setCell (p := ⟨w.heap.size + 1 + 1, 0, none⟩) (le2 _) (.slice va M.vars.length vc)).trans (hB2.mono (by rw [hzs]; omega)));
          (have v0 : Hid (w2.heap[w.heap.size]? = some (objP M)) := (hk2 _ (by rw [hzs]; omega) (by simp [blk])).trans ((heap_setCell_other _ _ _ _ (ne2 _)).trans u0.out));
          (have v1 : Hid (w2.heap[w.heap.size + 1]? = some (objO none 0 0 0 none 0 0 none 0 0)) := (hk2 _ (by rw [hzs]; omega) (by simp [blk])).trans ((heap_setCell_other _ _ _ _ (ne1 _)).trans u1.out));
          (have v2 : Hid (w2.heap[w.heap.size + 1 + 1]? = some (objO va M.vars.length vc M.locks none 0 0 none 0 0)) := (hk2 _ (by rw [hzs]; omega) (by simp [blk])).trans (set4 _ _ _ _ _ _ u2.out));
          (have ov : Hid (OwnL w2 w.heap.size 68 2 va vc (M.vars.map Vr.cells)) := own_keep ho1 (fun g hg => by
            have q : g < w1.heap.size := (blk_lt ho1 g hg).2
            have q3 : g ≠ w.heap.size + 1 + 1 := by
              rcases hbl1 with q | q
              · rw [q] at hg; simp [blk] at hg
              · rw [q, hz3.out] at hg; simp at hg; omega
            rw [hk2 g (by rw [hzs]; exact q) (by simp [blk])]
            exact heap_setCell_other _ _ _ _ q3));
          (have a3 := whole_cell v0.out 3 _ rfl);
          (have o2' := whole_cell v2.out 2 _ rfl);
          (have fz2' := whole_frozen v2.out 2);
          (have hsz2 : w1.heap.size ≤ w2.heap.size := by have := hB2.size; rw [hzs] at this; exact this);
          clear a2 o0 o2 fz0 fz2 hk2 hB2))
  have hst := OSt.start hbw2 v0.out v1.out v2.out ov.out ho2 (n1 := w1.heap.size) (fun b hb => by
    refine ⟨?_, (blk_lt ho1 b hb).2⟩
    rcases hbl1 with q | q
    · rw [q] at hb; simp [blk] at hb
    · rw [q, hz3.out] at hb; simp at hb; omega) (fun b hb => by
    rcases hbl2 with q | q
    · rw [q] at hb; simp [blk] at hb
    · rw [q, World.size_setCell] at hb; simp at hb; omega) hsz1
  clear a3 o2' fz2' hsz2 v0 v1 v2 ov ho2 hbw2 hbl1 hbl2 ho1 hbw1 hsz1 u0 u1 u2 g0 g1 g2 hz3 hb3
  generalize w2.setCell ⟨w.heap.size + 1 + 1, 2, none⟩ (.slice ha M.chans.length hc) = W0 at *
  go_loopw [28] (fun u wr => ∃ (k : Nat) (N : MPr), k ≤ M.fns.length ∧ u = .int .i64 k ∧ OSt M w k N wr) (fun u _ => M.fns.length - (intOf u).toNat)
  case atStart => exact ⟨0, _, Nat.zero_le _, rfl, hst⟩
  case round =>
    clear hst
    obtain ⟨k, N, hk, rfl, st⟩ := hrel
    by_cases hlt : k < M.fns.length
    · obtain ⟨x, hx, hxm⟩ := get_lt M.fns k hlt
      obtain ⟨bx, ox, hix, _, c0, c1, c2, c3⟩ := fn_ix (hl.later st.be).2.2.1 k x hx
      have hxl := hl.2.2.2.2.2.2 x hxm
      have hxs := hs.2.2.2 x hxm
      have hlx := rows_len hxl.1
      have hlx2 := rows_len hxl.2.1
      have hxs1 := hxs.1
      have hklI : (k : Int) < (M.fns.length : Int) := by omega
      have hbx : Hid (Below w.heap.size w ((wr.alloc (objF x)).alloc (objGg x))) := bthen st.be (boxed2 wr _ _)
      have hz2 : Hid (((wr.alloc (objF x)).alloc (objGg x)).heap.size = wr.heap.size + 1 + 1) := two_size _ _ _
      go_wp2_with (first
        | (at_builtin; (refine wpList_app rfl (.tmp 39) (.tmp 41) 55 rfl w.heap.size 74 iI _ 5 40 Tryd.underlying55 hiI hzI hsI hbI rfl (by decide) none 0 [] rfl (own_nil _ _ _ _) x.ca x.ccap (x.code.map Ins.cells) (by rw [List.length_map]; rfl) (hxl.1.later hbx.out) (len5 _) (one5 _) (by unfold maxLen; simp only [List.length_map, List.length_nil]; omega) (by simp only [List.length_map, List.length_nil]; omega) hbx.out.size ?_); intro ca cc w1 ho1 hk1 hB1 hbl1; simp only [List.nil_append, List.length_map] at ho1 ⊢;
              (have u0 : Hid (w1.heap[wr.heap.size]? = some (objF x)) := (hk1 _ (by rw [hz2.out]; omega) (by simp [blk])).trans (two_first _ _ _));
              (have u1 : Hid (w1.heap[wr.heap.size + 1]? = some (objGg x)) := (hk1 _ (by rw [hz2.out]; omega) (by simp [blk])).trans (two_second _ _ _));
              (have a3 := whole_cell u0.out 3 _ rfl);
              (have o2 := whole_cell u1.out 2 _ rfl);
              (have fz2 := whole_frozen u1.out 2);
              (have hst2 := ISt.start st ho1 hk1 hB1 hbl1);
              clear c0 c1 c2 c3 hix))
      clear a3 o2 fz2 u0 u1 hk1 hB1 hbl1 ho1 hz2 hbx hlx hxs1 st
      generalize wr.heap.size = F at *
      generalize w1.setCell ⟨F + 1, 2, none⟩ (.slice ca x.code.length cc) = W1 at *
      clear wr
      go_loopw [47] (fun u wr => ∃ (q : Nat) (g : MFn), q ≤ x.sels.length ∧ u = .int .i64 q ∧ ISt M w k N x F q g wr) (fun u _ => x.sels.length - (intOf u).toNat)
      case atStart => exact ⟨0, _, Nat.zero_le _, rfl, hst2⟩
      case round =>
        clear hst2
        obtain ⟨q, g, hq, rfl, st⟩ := hrel
        have hgl : Hid (g.sels.length = q) := by have h := congrArg List.length st.es; rw [List.length_map, List.length_map, List.length_take, Nat.min_eq_left hq] at h; exact h
        by_cases hlt2 : q < x.sels.length
        · obtain ⟨y, hy, hym⟩ := get_lt x.sels q hlt2
          obtain ⟨bx, ox, hix, _, c0, c1⟩ := sel_ix (hxl.later st.o.be).2.1 q y hy
          have hyl := hxl.2.2.2.1 y hym
          have hys := hxs.2.2 y hym
          unfold MSel.sz at hys
          have hxs2 := hxs.2.1
          have hly := rows_len hyl.1
          have hqlI : (q : Int) < (x.sels.length : Int) := by omega
          have hbx : Hid (Below w.heap.size w ((wr.alloc (objS y)).alloc (objT y))) := bthen st.o.be (boxed2 wr _ _)
          have hz2 : Hid (((wr.alloc (objS y)).alloc (objT y)).heap.size = wr.heap.size + 1 + 1) := two_size _ _ _
          go_wp2_with (first
            | (at_builtin; (refine wpList_app rfl (.tmp 55) (.tmp 57) 59 rfl w.heap.size 90 iC _ 4 32 Tryd.underlying59 hiC hzC hsC hbC rfl (by decide) none 0 [] rfl (own_nil _ _ _ _) y.at_ y.cap (y.cases.map Cas.cells) (by rw [List.length_map]; rfl) (hyl.1.later hbx.out) (len4 _) (one4 _) (by unfold maxLen; simp only [List.length_map, List.length_nil]; omega) (by simp only [List.length_map, List.length_nil]; omega) hbx.out.size ?_); intro ca cc w1 ho1 hk1 hB1 hbl1; simp only [List.nil_append, List.length_map] at ho1 ⊢;
                  (have u1 : Hid (w1.heap[wr.heap.size + 1]? = some (objT y)) := (hk1 _ (by rw [hz2.out]; omega) (by simp [blk])).trans (two_second _ _ _));
                  (have ug : Hid (w1.heap[F + 1]? = some (objF g)) := (hk1 _ (by rw [hz2.out]; have := st.hi; omega) (by simp [blk])).trans ((two_old _ _ _ _ st.hi).trans st.bg));
                  (have o0 := whole_cell u1.out 0 _ rfl);
                  (have o1 := whole_cell u1.out 1 _ rfl);
                  (have fz0 := whole_frozen u1.out 0);
                  (have um : Hid ((w1.setCell ⟨wr.heap.size + 1, 0, none⟩ (.slice ca y.cases.length cc)).heap[F + 1]? = some (objF g)) := (heap_setCell_other _ _ _ _ (by have := st.hi; show F + 1 ≠ wr.heap.size + 1; omega)).trans ug.out);
                  (have G3 := whole_cell um.out 3 _ rfl);
                  (have hgo : Hid (OwnL ((w1.setCell ⟨wr.heap.size + 1, 0, none⟩ (.slice ca y.cases.length cc)).alloc (objS ⟨ca, cc, y.cases, y.els⟩)) w.heap.size 61 2 g.sa g.scap (g.sels.map MSel.cells)) := own_keep st.ow.2.1 fun b hb => by
                    have hbb := st.bd b (by simp [MFn.blocks, hb])
                    have hs1 : wr.heap.size + 1 + 1 ≤ w1.heap.size := by have := hB1.size; rw [hz2.out] at this; exact this
                    exact ((boxed _ _).block b (by rw [World.size_setCell]; omega)).trans ((heap_setCell_other _ _ _ _ (by show b ≠ wr.heap.size + 1; omega)).trans ((hk1 b (by rw [hz2.out]; omega) (by simp [blk])).trans (two_old _ _ _ _ hbb.2))));
                  (have hrow : Hid (Rows ((w1.setCell ⟨wr.heap.size + 1, 0, none⟩ (.slice ca y.cases.length cc)).alloc (objS ⟨ca, cc, y.cases, y.els⟩)) 2 (some ⟨w1.heap.size, 0, none⟩) 1 [MSel.cells ⟨ca, cc, y.cases, y.els⟩]) := rows_one (by have := heap_alloc_new (w1.setCell ⟨wr.heap.size + 1, 0, none⟩ (.slice ca y.cases.length cc)) (objS ⟨ca, cc, y.cases, y.els⟩); rw [World.size_setCell] at this; exact this) rfl);
                  (have hbs : Hid (w.heap.size ≤ ((w1.setCell ⟨wr.heap.size + 1, 0, none⟩ (.slice ca y.cases.length cc)).alloc (objS ⟨ca, cc, y.cases, y.els⟩)).heap.size) := by have := hB1.size; have := hbx.out.size; simp only [Hid, World.size_alloc, World.size_setCell] at *; omega);
                  clear c0 c1 hix)
            | (at_builtin; (refine wpList_app rfl (.tmp 61) (.tmp 63) 56 rfl w.heap.size 61 iS _ 2 32 Tryd.underlying56 hiS hzS hsS hbS rfl (by decide) g.sa g.scap (g.sels.map MSel.cells) (by rw [List.length_map]; rfl) hgo.out (some ⟨w1.heap.size, 0, none⟩) 1 [MSel.cells ⟨ca, cc, y.cases, y.els⟩] rfl hrow.out (len2s [⟨ca, cc, y.cases, y.els⟩]) (one2s [⟨ca, cc, y.cases, y.els⟩]) (by have := hgl.out; unfold maxLen; simp only [List.length_map, List.length_singleton]; omega) (by have := hgl.out; simp only [List.length_map, List.length_singleton]; omega) hbs.out ?_); intro va' vc' w2 ho2 hk2 hB2 hbl2; simp only [List.length_append, List.length_map, List.length_singleton] at ⊢;
                  (have vg : Hid (w2.heap[F + 1]? = some (objF g)) := by
                    have hs1 : wr.heap.size + 1 + 1 ≤ w1.heap.size := by have := hB1.size; rw [hz2.out] at this; exact this
                    have hhi := st.hi
                    exact (hk2 (F + 1) (by rw [World.size_alloc, World.size_setCell]; omega) (fun hh => by have := st.bd (F + 1) (by simp [MFn.blocks, hh]); omega)).trans (((boxed _ _).block (F + 1) (by rw [World.size_setCell]; omega)).trans um.out));
                  (have o3 := whole_cell vg.out 3 _ rfl);
                  (have fz3 := whole_frozen vg.out 3);
                  clear o0 o1 fz0 G3))
          go_roundw
          case rel => exact ⟨q + 1, _, by omega, by go_num, ISt.step st hy ho1 hk1 hB1 hbl1 rfl ho2 hk2 hB2 hbl2⟩
          case measure => simp [intOf]; omega
        · have hq2 : q = x.sels.length := by omega
          subst hq2
          have e3 := whole_cell st.o.b2 3 _ rfl
          have f0 := whole_cell st.bg 0 _ rfl
          have f1 := whole_cell st.bg 1 _ rfl
          have f2 := whole_cell st.bg 2 _ rfl
          have f3 := whole_cell st.bg 3 _ rfl
          have hNl : Hid (N.fns.length = k) := by have h := congrArg List.length st.o.ef; rw [List.length_map, List.length_map, List.length_take, Nat.min_eq_left hk] at h; exact h
          have hgo : Hid (OwnL (wr.alloc (objF g)) w.heap.size 58 4 N.fa N.fcap (N.fns.map MFn.cells)) := own_keep st.o.ow.2.2.1 fun b hb => (boxed _ _).block b (st.o.bd b (by simp [MPr.blocks, hb])).2
          have hrow : Hid (Rows (wr.alloc (objF g)) 4 (some ⟨wr.heap.size, 0, none⟩) 1 [MFn.cells g]) := rows_one (heap_alloc_new wr (objF g)) rfl
          have hbs : Hid (w.heap.size ≤ (wr.alloc (objF g)).heap.size) := by have := st.o.be.size; simp only [Hid, World.size_alloc]; omega
          go_wp2_with (first
            | (at_builtin; (refine wpList_app rfl (.tmp 68) (.tmp 70) 24 rfl w.heap.size 58 iF _ 4 64 Tryd.underlying24 hiF hzF hsF hbF rfl (by decide) N.fa N.fcap (N.fns.map MFn.cells) (by rw [List.length_map]; rfl) hgo.out (some ⟨wr.heap.size, 0, none⟩) 1 [MFn.cells g] rfl hrow.out (len4f [g]) (one4f [g]) (by have := hNl.out; unfold maxLen; simp only [List.length_map, List.length_singleton]; omega) (by have := hNl.out; simp only [List.length_map, List.length_singleton]; omega) hbs.out ?_); intro va' vc' w2 ho2 hk2 hB2 hbl2; simp only [List.length_append, List.length_map, List.length_singleton] at ⊢;
                  (have vg : Hid (w2.heap[w.heap.size + 1 + 1]? = some (objP N)) := by
                    have h3 := st.o.three
                    exact (hk2 (w.heap.size + 1 + 1) (by rw [World.size_alloc]; omega) (fun hh => by have := st.o.bd (w.heap.size + 1 + 1) (by simp [MPr.blocks, hh]); omega)).trans (((boxed _ _).block (w.heap.size + 1 + 1) h3).trans st.o.b2));
                  (have o3 := whole_cell vg.out 3 _ rfl);
                  (have fz3 := whole_frozen vg.out 3);
                  clear e3 f0 f1 f2 f3))
          go_roundw
          case rel => exact ⟨k + 1, _, by omega, by go_num, OSt.step st hx rfl ho2 hk2 hB2 hbl2⟩
          case measure => simp [intOf]; omega
    · have hk2 : k = M.fns.length := by omega
      subst hk2
      have e0 := whole_cell st.b2 0 _ rfl
      have e1 := whole_cell st.b2 1 _ rfl
      have e2 := whole_cell st.b2 2 _ rfl
      have e3 := whole_cell st.b2 3 _ rfl
      have f0 := whole_cell st.b1 0 _ rfl
      have f1 := whole_cell st.b1 1 _ rfl
      have f2 := whole_cell st.b1 2 _ rfl
      have f3 := whole_cell st.b1 3 _ rfl
      have z0 := whole_frozen st.b1 0
      have z1 := whole_frozen st.b1 1
      have z2 := whole_frozen st.b1 2
      have z3 := whole_frozen st.b1 3
      go_wp2
      have kf : ∀ b, b ≠ w.heap.size + 1 → ((((wr.setCell ⟨w.heap.size + 1, 0, none⟩ (.slice N.va N.vars.length N.vcap)).setCell ⟨w.heap.size + 1, 1, none⟩ (.int .i64 N.locks)).setCell ⟨w.heap.size + 1, 2, none⟩ (.slice N.cha N.chans.length N.chcap)).setCell ⟨w.heap.size + 1, 3, none⟩ (.slice N.fa N.fns.length N.fcap)).heap[b]? = wr.heap[b]? := fun b hb =>
        (heap_setCell_other _ _ _ _ hb).trans ((heap_setCell_other _ _ _ _ hb).trans ((heap_setCell_other _ _ _ _ hb).trans (heap_setCell_other _ _ _ _ hb)))
      have r1 := set4 _ _ 0 _ _ (.slice N.va N.vars.length N.vcap) st.b1
      have r2 := set4 _ _ 1 _ _ (.int .i64 N.locks) r1
      have r3 := set4 _ _ 2 _ _ (.slice N.cha N.chans.length N.chcap) r2
      have r4 := set4 _ _ 3 _ _ (.slice N.fa N.fns.length N.fcap) r3
      have s0 := whole_cell r4 0 (.slice N.va N.vars.length N.vcap) rfl
      have s1 := whole_cell r4 1 (.int .i64 N.locks) rfl
      have s2 := whole_cell r4 2 (.slice N.cha N.chans.length N.chcap) rfl
      have s3 := whole_cell r4 3 (.slice N.fa N.fns.length N.fcap) rfl
      have hbe : Below w.heap.size w ((((wr.setCell ⟨w.heap.size + 1, 0, none⟩ (.slice N.va N.vars.length N.vcap)).setCell ⟨w.heap.size + 1, 1, none⟩ (.int .i64 N.locks)).setCell ⟨w.heap.size + 1, 2, none⟩ (.slice N.cha N.chans.length N.chcap)).setCell ⟨w.heap.size + 1, 3, none⟩ (.slice N.fa N.fns.length N.fcap)) :=
        (((st.be.setCell (Nat.le_succ _) _).setCell (Nat.le_succ _) _).setCell (Nat.le_succ _) _).setCell (Nat.le_succ _) _
      have hef := st.ef
      rw [List.take_length] at hef
      refine bodyPost_ret (v := N.val) ?_ rfl ⟨N, rfl, ⟨st.ev, st.el, st.ec, hef, st.ow.keep fun b hb => kf b (by have := st.bd b hb; omega), st.nd⟩, hbe⟩
      clear hbe kf r1 r2 r3 r4 e0 e1 e2 e3 f0 f1 f2 f3 z0 z1 z2 z3
      simp [results, Tryd.results9, go_sem, s0, s1, s2, s3, MPr.val]
end Go.Proofs.YtofeohhnfnnifaaDoor.pg
/- What is copied lies there, and is the same. -/
namespace Go.Proofs.YtofeohhnfnnifaaDoor.pg
open Go.ChangeShapes Go.WideShapes Go.ChangeAt Go.RowKit
set_option linter.unusedVariables false
theorem Copied.pr {M N : MPr} {w : World} {lo : Nat} (h : Copied M N w lo) : M.pr = N.pr := by
  unfold MPr.pr
  rw [h.1, h.2.1, h.2.2.1, h.2.2.2.1]
theorem fn_lies {w w0 : World} {lo : Nat} {f g : MFn} (ho : f.own w lo) (he : g.fn = f.fn) (hg : g.lies w0) : f.lies w := by
  have e1 : g.params = f.params := congrArg Fn.params he
  have e2 : g.regs = f.regs := congrArg Fn.regs he
  have e3 : g.code = f.code := congrArg Fn.code he
  have e4 : g.sels.map MSel.sel = f.sels.map MSel.sel := congrArg Fn.sels he
  refine ⟨own_rows ho.1 (len5 _), own_rows ho.2.1 (len2s _), e3 ▸ hg.2.2.1, fun s hs => ?_, e1 ▸ hg.2.2.2.2.1, e2 ▸ hg.2.2.2.2.2⟩
  have : s.sel ∈ g.sels.map MSel.sel := by rw [e4]; exact List.mem_map_of_mem hs
  obtain ⟨s', hs', hq⟩ := List.mem_map.mp this
  have q1 : s'.cases = s.cases := congrArg Sel.cases hq
  have q2 : s'.els = s.els := congrArg Sel.els hq
  have hl := hg.2.2.2.1 s' hs'
  exact ⟨own_rows (ho.2.2 s hs) (len4 _), q1 ▸ hl.2.1, q2 ▸ hl.2.2⟩
theorem Copied.lies {M N : MPr} {w w0 : World} {lo : Nat} (h : Copied M N w lo) (hl : M.lies w0) : N.lies w := by
  obtain ⟨ev, el, ec, ef, ⟨o1, o2, o3, o4⟩, _⟩ := h
  refine ⟨own_rows o1 (len2 _), own_rows o2 (len1 _), own_rows o3 (len4f _), ev ▸ hl.2.2.2.1, el ▸ hl.2.2.2.2.1, ec ▸ hl.2.2.2.2.2.1, fun f hf => ?_⟩
  have : f.fn ∈ M.fns.map MFn.fn := by rw [← ef]; exact List.mem_map_of_mem hf
  obtain ⟨g, hg, hq⟩ := List.mem_map.mp this
  exact fn_lies (o4 f hf) hq (hl.2.2.2.2.2.2 g hg)
end Go.Proofs.YtofeohhnfnnifaaDoor.pg
