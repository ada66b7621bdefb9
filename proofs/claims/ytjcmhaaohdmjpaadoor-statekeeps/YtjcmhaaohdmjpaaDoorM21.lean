/- Is each offer of a goroutine that waits for it: package state's offered. -/
import Derived.Test.YtjcmhaaohdmjpaaDoorM20
import Derived.Test.YtjcmhaaohdmjpaaDoorM4
namespace Go.Proofs.YtjcmhaaohdmjpaaDoor.pg
open Go.ChangeShapes Go.WideShapes Go.ChangeAt Go.RowKit
set_option linter.unusedVariables false
set_option linter.unusedSimpArgs false
set_option maxRecDepth 100000
theorem range_of {w : World} {B : Nat} {cs : List Value} {t : TypeId} (h : w.heap[B]? = some (.cells cs.toArray t (0, 0))) (a m c : List Value) (e : cs = a ++ (m ++ c)) (off : Nat) (ho : a.length = off) : w.rangeAt B off m := fun j u hj => by
  refine cell_ofG h ?_
  have hlt := (List.getElem?_eq_some_iff.mp hj).1
  rw [List.getElem?_toArray, e, List.getElem?_append_right (by omega), ho, Nat.add_sub_cancel_left, List.getElem?_append_left hlt]
  exact hj
theorem InS.rangeC {w : World} {B : Nat} {s : Sts} (h : InS w B s) (hw : s.wf) : w.rangeAt B 12 (s.ch.map Chc.cells).flatten :=
  range_of h (ints s.vars ++ ints s.own) _ ((s.gos.map Gr.cells).flatten ++ [.int .i64 s.cnt]) (by rw [List.append_assoc]; rfl) 12 (by simp [hw.lv, hw.lo])
theorem InS.rangeG {w : World} {B : Nat} {s : Sts} (h : InS w B s) (hw : s.wf) : w.rangeAt B 48 (s.gos.map Gr.cells).flatten :=
  range_of h (ints s.vars ++ (ints s.own ++ (s.ch.map Chc.cells).flatten)) _ [.int .i64 s.cnt] (by simp only [List.append_assoc]; rfl) 48 (by simp only [List.length_append, List.length_map, hw.lv, hw.lo, flat_len Chc.cells 9 _ fun c hc => Chc.len (hw.ac c hc), hw.lc])
theorem InS.rangeO {w : World} {B : Nat} {s : Sts} (h : InS w B s) (hw : s.wf) : w.rangeAt B 8 (ints s.own) :=
  range_of h (ints s.vars) _ ((s.ch.map Chc.cells).flatten ++ ((s.gos.map Gr.cells).flatten ++ [.int .i64 s.cnt])) rfl 8 (by simp [hw.lv])
theorem extract_row {α : Type} (C : α → List Value) {k : Nat} (l : List α) (hk : ∀ x ∈ l, (C x).length = k) (i : Nat) (x : α) (hi : l[i]? = some x) : ((l.map C).flatten.toArray).extract (i * k) (i * k + k) = (C x).toArray := by
  rw [List.extract_toArray, List.extract_eq_take_drop, show i * k + k - i * k = k by omega, flat_part C l hk i x hi]
theorem ixv_ch {s : Sts} (hs : s.wf) (i : Nat) (c : Chc) (hi : s.ch[i]? = some c) (w : World) : (Instr.index 33 (.agg (s.ch.map Chc.cells).flatten.toArray) (.int .i64 (i : Int))).run Tryd.prog w = .ok c.vl w := by
  have hl : i < 4 := by have := (List.getElem?_eq_some_iff.mp hi).1; rw [hs.lc] at this; exact this
  have q1 : (i : Int) < 4 := by omega
  have q2 : (0 : Int) ≤ i := by omega
  have u := Tryd.underlying33
  have z := Tryd.sizeOf32
  have g := Tryd.isAgg32
  simp [Instr.index, run_underlying u, asIntOf, go_sem, z, g, q1, q2, part, hl]
  exact flat_part Chc.cells s.ch (fun c hc => Chc.len (hs.ac c hc)) i c hi
theorem ixv_go {s : Sts} (hs : s.wf) (i : Nat) (c : Gr) (hi : s.gos[i]? = some c) (w : World) : (Instr.index 36 (.agg (s.gos.map Gr.cells).flatten.toArray) (.int .i64 (i : Int))).run Tryd.prog w = .ok c.val w := by
  have hl : i < 6 := by have := (List.getElem?_eq_some_iff.mp hi).1; rw [hs.lg] at this; exact this
  have q1 : (i : Int) < 6 := by omega
  have q2 : (0 : Int) ≤ i := by omega
  have u := Tryd.underlying36
  have z := Tryd.sizeOf35
  have g := Tryd.isAgg35
  simp [Instr.index, run_underlying u, asIntOf, go_sem, z, g, q1, q2, part, hl]
  exact flat_part Gr.cells s.gos (fun c hc => Gr.len (hs.ag c hc)) i c hi
theorem ixv_own {s : Sts} (hs : s.wf) (i : Nat) (x : Int) (hi : s.own[i]? = some x) (w : World) : (Instr.index 29 (.agg (ints s.own).toArray) (.int .i64 (i : Int))).run Tryd.prog w = .ok (.int .i64 x) w := by
  have hl : i < 4 := by have := (List.getElem?_eq_some_iff.mp hi).1; rw [hs.lo] at this; exact this
  have q1 : (i : Int) < 4 := by omega
  have q2 : (0 : Int) ≤ i := by omega
  have u := Tryd.underlying29
  have z := Tryd.sizeOf3
  have g := Tryd.isAgg3
  simp [Instr.index, run_underlying u, asIntOf, go_sem, z, g, q1, q2, part, hl, hi]
theorem ixp {t e : TypeId} {n k : Nat} (hu : Tryd.prog.underlying t = some (.array n e)) (hz : ∀ wx, (sizeOf e).run Tryd.prog wx = .ok k wx) (B off : Nat) (a : Int) (h0 : 0 ≤ a) (h1 : a < n) : ∀ wx, (Instr.indexAt t (.pointer (some ⟨B, off, none⟩)) (.int .i64 a)).run Tryd.prog wx = .ok (.pointer (some ⟨B, off + a.toNat * k, none⟩)) wx := by
  intro wx
  simp [Instr.indexAt, run_underlying hu, asIntOf, go_sem, hz, Instr.sureAddr, h0, h1, add_none]
def offL (s : Sts) (k : Nat) : List Int := (List.range 6).map fun g : Nat => offs s (g : Int) k
theorem offL_zero (s : Sts) : offL s 0 = [0, 0, 0, 0, 0, 0] := rfl
theorem offs_bd (s : Sts) (g : Int) : ∀ k, 0 ≤ offs s g k ∧ offs s g k ≤ k
  | 0 => ⟨by unfold offs; omega, by unfold offs; omega⟩
  | k + 1 => by have := offs_bd s g k; unfold offs; split <;> omega
theorem offL_at (s : Sts) (k : Nat) {g : Nat} (h : g < 6) : (ints (offL s k)).toArray[g]? = some (.int .i64 (offs s g k)) := by simp [offL, h]
theorem offL_same {s : Sts} {k : Nat} (h : (chAt s k).off = 0) : offL s (k + 1) = offL s k := by
  unfold offL
  apply List.map_congr_left
  intro g _
  show offs s g k + (if _ then 1 else 0) = _
  rw [if_neg (fun q => q.1 h)]
  omega
theorem offL_more {s : Sts} {k : Nat} (h : (chAt s k).off ≠ 0) (h0 : 0 ≤ (chAt s k).frm) (h6 : (chAt s k).frm < 6) : (ints (offL s k)).toArray.setIfInBounds (chAt s k).frm.toNat (.int .i64 (offs s (chAt s k).frm k + 1)) = (ints (offL s (k + 1))).toArray := by
  rw [List.setIfInBounds_toArray]
  congr 1
  apply List.ext_getElem?
  intro i
  rw [List.getElem?_set]
  simp only [ints, offL, List.length_map, List.length_range, List.getElem?_map]
  by_cases c : (chAt s k).frm.toNat = i
  · rw [if_pos c, if_pos (by omega)]
    have hi : i < 6 := by omega
    rw [List.getElem?_range hi]
    simp only [Option.map_some]
    have e : ((i : Nat) : Int) = (chAt s k).frm := by omega
    show some _ = some (Value.int .i64 (offs s i k + (if _ then 1 else 0)))
    rw [e, if_pos ⟨h, rfl⟩]
  · rw [if_neg c]
    by_cases hi : i < 6
    · rw [List.getElem?_range hi]
      simp only [Option.map_some]
      show some (Value.int .i64 (offs s i k)) = some (Value.int .i64 (offs s i k + (if _ then 1 else 0)))
      rw [if_neg (fun q => c (by omega))]
      congr 2
      omega
    · rw [List.getElem?_eq_none (by simp; omega)]
      rfl
theorem ch_getD {s : Sts} {k : Nat} {c : Chc} (h : s.ch[k]? = some c) : chAt s k = c := by unfold chAt; rw [List.getD_eq_getElem?_getD, h]; rfl
theorem go_getD {s : Sts} {k : Nat} {c : Gr} (h : s.gos[k]? = some c) : s.gos.getD k zeroG = c := by rw [List.getD_eq_getElem?_getD, h]; rfl
/-- Where all lies between two rounds. -/
structure OfS (w wr : World) (M : MPr) (s : Sts) (k : Nat) : Prop where
  ps : PS w wr M s
  arr : wr.heap[w.heap.size + 2]? = some (.cells (ints (offL s k)).toArray 98)
theorem OfS.later {w wr w' : World} {M : MPr} {s : Sts} {k : Nat} (h : OfS w wr M s k) (hb : Below wr.heap.size wr w') : OfS w w' M s k := ⟨h.ps.later hb, (hb.block _ (Array.getElem?_eq_some_iff.mp h.arr).1).trans h.arr⟩
def off1 (P : Pr) (s : Sts) (n : Nat) : Prop := (chAt s n).off ≠ 0 → 0 ≤ (chAt s n).frm ∧ (chAt s n).frm < s.cnt ∧ sendsC P (goAt s (chAt s n).frm) n
set_option maxHeartbeats 4000000 in
theorem offered_any (M : MPr) (s : Sts) (hs : s.wf) (c1 : 1 ≤ s.cnt) (c6 : s.cnt ≤ 6) (hst : ∀ i, i < s.cnt.toNat → stands M.pr (s.gos.getD i zeroG)) (w : World) (hM : M.lies w) (R : Bool) (hR : Hid (R = true ↔ offered M.pr s)) :
    Calls Tryd.prog 28 #[M.val, s.val] w fun e w' => e = .returned (.bool R) ∧ Below w.heap.size w w' := by
  obtain ⟨q1, q2, q3⟩ := three_boxes w (objP M) (objSt s) (.cells (ints (offL s 0)).toArray 98)
  have hE : Hid (OfS w (((w.alloc (objP M)).alloc (objSt s)).alloc (.cells (ints (offL s 0)).toArray 98)) M s 0) := ⟨⟨boxed3 _ _ _ _, ⟨cell_ofG q1 rfl, cell_ofG q1 rfl, cell_ofG q1 rfl, cell_ofG q1 rfl⟩, q2⟩, q3⟩
  clear q1 q2 q3
  have hMH : Hid (M.lies w) := hM
  have hsH : Hid s.wf := hs
  have hstH : Hid (∀ i, i < s.cnt.toNat → stands M.pr (s.gos.getD i zeroG)) := hst
  have infC : Hid ((Tryd.prog.info? 33).map (·.size) = some (s.ch.map Chc.cells).flatten.length) := by show _ = _; rw [flat_len Chc.cells 9 _ fun c hc => Chc.len (hs.ac c hc), hs.lc]; kernel_rfl
  have infG : Hid ((Tryd.prog.info? 36).map (·.size) = some (s.gos.map Gr.cells).flatten.length) := by show _ = _; rw [flat_len Gr.cells 12 _ fun c hc => Gr.len (hs.ag c hc), hs.lg]; kernel_rfl
  have huC : Hid (Tryd.prog.underlying 33 = _) := Tryd.underlying33
  have huG : Hid (Tryd.prog.underlying 36 = _) := Tryd.underlying36
  have huc : Hid (Tryd.prog.underlying 32 = _) := Tryd.underlying32
  have hug : Hid (Tryd.prog.underlying 35 = _) := Tryd.underlying35
  have hchl := hs.lc
  have hgol := hs.lg
  clear hM hst hs
  go_enter Tryd.func28, Tryd.ntmps28
  go_upto_region 2 with fail
  rw [show (Obj.cells #[.int .i64 0, .int .i64 0, .int .i64 0, .int .i64 0, .int .i64 0, .int .i64 0] 98) = .cells (ints (offL s 0)).toArray 98 from rfl]
  generalize ((w.alloc (objP M)).alloc (objSt s)).alloc (.cells (ints (offL s 0)).toArray 98) = W at *
  have rC : Hid (W.rangeAt (w.heap.size + 1) 12 (s.ch.map Chc.cells).flatten) := hE.out.ps.sb.rangeC hsH.out
  go_wp2_with (refine wpList_load_mid rfl 33 _ rfl (w.heap.size + 1) 12 rfl _ _ rC.out huC.out rfl infC.out ?_)
  try simp only [Act.put, List.setIfInBounds_toArray, List.set_cons_zero, List.set_cons_succ]
  go_loopw [12] (fun u wr => ∃ k : Nat, k ≤ 4 ∧ u = .int .i64 (k : Int) ∧ Hid (OfS w wr M s k) ∧ Hid (∀ n, n < k → off1 M.pr s n)) (fun u _ => 4 - (intOf u).toNat)
  case atStart => exact ⟨0, by omega, rfl, hE, fun n hn => by omega⟩
  case round =>
    clear hE rC
    obtain ⟨k, hk, rfl, ho, hd⟩ := hrel
    by_cases hlt : k < 4
    · obtain ⟨c, hc, hcm⟩ := get_lt s.ch k (by omega)
      have ec := ch_getD hc
      have hcw := hsH.out.ac c hcm
      have hix := ixv_ch hsH.out k c hc
      have hkI : (k : Int) < 4 := by omega
      have hinfA : Hid ((Tryd.prog.info? 32).map (·.size) = some c.cells.toArray.size) := infoC hcw
      have hone := oneC c
      obtain ⟨ZI, hZ1, hZ2, _⟩ := zero_big (P := Tryd.prog) (t := 32) (n := 9) (by kernel_rfl)
      have hsz : Hid (ZI.size = c.cells.toArray.size) := by show _ = _; rw [hZ2, List.size_toArray, Chc.len hcw]
      have hzi : (wr.alloc (.cells ZI 32)).heap[wr.heap.size]? = some (.cells ZI 32) := heap_alloc_new wr _
      have hbw : Below wr.heap.size wr ((wr.alloc (.cells ZI 32)).setRow wr.heap.size c.cells.toArray) := below_setRowG (boxed _ _) (Nat.le_refl _) _
      have hV : Hid (OfS w ((wr.alloc (.cells ZI 32)).setRow wr.heap.size c.cells.toArray) M s k) := ho.out.later hbw
      have hCb : Hid (InC ((wr.alloc (.cells ZI 32)).setRow wr.heap.size c.cells.toArray) wr.heap.size c) := setRow_heap _ _ _ _ _ _ hzi
      have hlo : w.heap.size + 2 < wr.heap.size := (Array.getElem?_eq_some_iff.mp ho.out.arr).1
      clear hbw hZ2 ho
      go_upto_region 5 with (first
        | (refine wpList_alloc_big rfl 32 rfl hZ1 ?_)
        | (refine wpList_store_row rfl 32 _ _ rfl wr.heap.size c.cells.toArray rfl rfl _ _ hzi hinfA.out hsz.out hone ?_))
      try simp only [Act.put, List.setIfInBounds_toArray, List.set_cons_zero, List.set_cons_succ]
      generalize (wr.alloc (.cells ZI 32)).setRow wr.heap.size c.cells.toArray = V at *
      generalize wr.heap.size = CB at *
      clear hzi hZ1 hsz hone hinfA hix
      have z6 := hCb.out.at hcw 2 _ rfl
      have z7 := hCb.out.at hcw 3 _ rfl
      simp only [Nat.reduceAdd] at z6 z7
      have hcwH : Hid c.wf := hcw
      clear hcw hc hcm
      by_cases o0 : c.off = 0
      · have eo := offL_same (s := s) (k := k) (by rw [ec]; exact o0)
        have hV2 : Hid (OfS w V M s (k + 1)) := ⟨hV.out.ps, by rw [eo]; exact hV.out.arr⟩
        have hd2 : Hid (∀ n, n < k + 1 → off1 M.pr s n) := fun n hn => by
          by_cases q : n = k
          · subst q; intro z; rw [ec] at z; exact absurd o0 z
          · exact hd.out n (by omega)
        rw [o0] at z6
        clear eo o0 hd hV ec
        go_wp2
        go_roundw
        case rel => exact ⟨k + 1, by omega, by go_num, hV2, hd2⟩
        case measure => simp [intOf]; omega
      · have e0 : (c.off == 0) = false := by simpa using o0
        have hno : ¬ off1 M.pr s k → R = false := fun q => Rfalse hR fun z => q fun y => z.1 k hlt y
        have h1k : off1 M.pr s k ↔ (0 ≤ c.frm ∧ c.frm < s.cnt ∧ sendsC M.pr (goAt s c.frm) k) := by
          unfold off1
          rw [ec]
          exact ⟨fun q => q o0, fun q _ => q⟩
        have zc := hV.out.ps.sb.cnt hsH.out
        obtain ⟨p0, p1, p2, p3⟩ := hV.out.ps.p
        have s0 := fun s => bey_cell z7 s
        have s1 := fun s => bey_cell zc s
        have t0 := fun s => bey_cell p0 s
        have t1 := fun s => bey_cell p1 s
        have t2 := fun s => bey_cell p2 s
        have t3 := fun s => bey_cell p3 s
        have hne := bey_some V
        by_cases f0 : c.frm < 0
        · have e := hno fun q => by have := (h1k.mp q).1; omega
          subst e
          clear hno h1k hR hd o0
          go_wp2_with fail
          refine wp_region_cls (Bey V) (by kernel_rfl) (by kernel_rfl) (bey_drew V) ?_
          repeat (go_big_quiet_step (fail))
          refine wpQuiet_nil ?_
          intro _ hw'
          obtain ⟨sq, hw''⟩ := hw'
          subst hw''
          clear s0 s1 t0 t1 t2 t3 hne
          go_wp2
          go_ret
          exact ⟨rfl, bthen hV.out.ps.b sq.h⟩
        by_cases f1 : c.frm < s.cnt
        · obtain ⟨g, hg, hgm⟩ := get_lt s.gos c.frm.toNat (by omega)
          have eg : goAt s c.frm = g := go_getD hg
          have hgs : stands M.pr g := by have := hstH.out c.frm.toNat (by omega); rwa [go_getD hg] at this
          have hgr := ((hV.out.ps.sb.gos hsH.out).row (i := c.frm.toNat) (row := g.cells) (by rw [List.getElem?_map, hg]; rfl))
          have hgR : Hid (V.rangeAt (w.heap.size + 1) (48 + c.frm.toNat * 12) g.cells) := by
            obtain ⟨b, off, ha, _, hc⟩ := hgr
            simp only [Option.some.injEq, Addr.mk.injEq, and_true] at ha
            obtain ⟨rfl, rfl⟩ := ha
            intro j u hj
            rw [Nat.add_assoc]
            exact hc j u hj
          have tg : ∀ x : Cls (Bey V), x.w.rangeAt (w.heap.size + 1) (48 + c.frm.toNat * 12) g.cells := fun x j u hj => bey_cell (hgR.out j u hj) x
          have hpx := ixp (t := 36) Tryd.underlying36 (fun wx => Tryd.sizeOf35 wx) (w.heap.size + 1) 48 c.frm (by omega) (by omega)
          have hginf : Hid ((Tryd.prog.info? 35).map (·.size) = some g.cells.length) := by have := infoGw (hsH.out.ag g hgm); rwa [List.size_toArray] at this
          rw [eg] at h1k
          have fl : ((M.fns.map MFn.fn).length : Int) = M.fns.length := by rw [List.length_map]
          have cS : ∀ (Q : Bool), Hid (Q = true ↔ sendsC M.pr g k) → ∀ x : Cls (Bey V), Calls Tryd.prog 44 #[M.val, g.val, .int .i64 (k : Int)] x.w fun e w' => e = .returned (.bool Q) ∧ Below x.w.heap.size x.w w' := fun Q hQ x => sends_any M g k hgs.1 (by have := hgs.2.1; show g.fn < (M.fns.length : Int); rw [← fl]; exact this) hgs.2.2.1 hgs.2.2.2.1 x.w (hMH.out.later (bthen hV.out.ps.b x.h)) Q hQ
          have d0 : decide (c.frm < 0) = false := decide_eq_false f0
          have d1 : decide (s.cnt ≤ c.frm) = false := decide_eq_false (by omega)
          by_cases sy : sendsC M.pr g k
          · have cX := cS true ⟨fun _ => sy, fun _ => rfl⟩
            have hd2 : Hid (∀ n, n < k + 1 → off1 M.pr s n) := fun n hn => by
              by_cases q : n = k
              · subst q; exact h1k.mpr ⟨by omega, f1, sy⟩
              · exact hd.out n (by omega)
            have em := offL_more (s := s) (k := k) (by rw [ec]; exact o0) (by rw [ec]; omega) (by rw [ec]; omega)
            rw [ec] at em
            have emH : Hid _ := em
            have obd := offs_bd s c.frm k
            clear hno h1k hR hd o0 cS sy hgs hgr hgm hg eg em fl ec
            go_wp2_with fail
            refine wp_region_cls (Bey V) (by kernel_rfl) (by kernel_rfl) (bey_drew V) ?_
            repeat (first
              | (go_big_quiet_want; (refine quiet_load_mid 35 _ rfl (w.heap.size + 1) (48 + c.frm.toNat * 12) rfl _ _ tg hug.out rfl hginf.out ?_); (simp only [Act.put, List.setIfInBounds_toArray, List.set_cons_zero, List.set_cons_succ]); go_big_quiet_on)
              | go_big_quiet_step ((go_at_call 44; exact calls_bey (cX _))))
            refine wpQuiet_nil ?_
            intro _ hw'
            obtain ⟨sq, hw''⟩ := hw'
            subst hw''
            have hVq : Hid (OfS w sq.w M s k) := hV.out.later sq.h
            have hCq := hCb.out.later sq.h
            have y7 := hCq.at hcwH.out 3 _ rfl
            simp only [Nat.reduceAdd] at y7
            clear s0 s1 t0 t1 t2 t3 hne tg cX hpx p0 p1 p2 p3 z6 z7 zc hCq hV
            generalize sq.w = U at *
            have hox := ixp (t := 98) Tryd.underlying98 (fun wx => Tryd.sizeOf3 wx) (w.heap.size + 2) 0 c.frm (by omega) (by omega)
            have hoa : 0 + c.frm.toNat * 1 = c.frm.toNat := by omega
            rw [hoa] at hox
            have fe : ((c.frm.toNat : Nat) : Int) = c.frm := by omega
            have hoc : U.cell? ⟨w.heap.size + 2, c.frm.toNat, none⟩ = some (.int .i64 (offs s c.frm k)) := cell_ofG hVq.out.arr (by rw [offL_at s k (by omega), fe])
            have hof : U.frozen? ⟨w.heap.size + 2, c.frm.toNat, none⟩ = false := frozen_of_row _ _ _ _ _ hVq.out.arr
            have how : wrap64 (offs s c.frm k + 1) = offs s c.frm k + 1 := by unfold wrap64; omega
            clear hoa fe
            generalize offs s c.frm k = ov at *
            go_wp2_with (refine wpList_puti rfl 3 _ _ rfl ⟨w.heap.size + 2, c.frm.toNat, none⟩ rfl (ov + 1) (by rw [← how]; rfl) (by kernel_rfl) _ hoc hof ?_; intro W1 hW1; (have hV2 : Hid (OfS w W1 M s (k + 1)) := by rw [hW1, setCell_eq_setRow U (w.heap.size + 2) c.frm.toNat _ _ _ _ hVq.out.arr, emH.out]; exact ⟨⟨below_setRowG hVq.out.ps.b (by omega) _, ⟨(by have := hVq.out.ps.p.1; simpa [World.cell?, setRow_other U (w.heap.size + 2) w.heap.size _ (by omega)] using this), (by have := hVq.out.ps.p.2.1; simpa [World.cell?, setRow_other U (w.heap.size + 2) w.heap.size _ (by omega)] using this), (by have := hVq.out.ps.p.2.2.1; simpa [World.cell?, setRow_other U (w.heap.size + 2) w.heap.size _ (by omega)] using this), (by have := hVq.out.ps.p.2.2.2; simpa [World.cell?, setRow_other U (w.heap.size + 2) w.heap.size _ (by omega)] using this)⟩, (setRow_other _ _ _ _ (by omega)).trans hVq.out.ps.sb⟩, setRow_heap _ _ _ _ _ _ hVq.out.arr⟩); clear hW1 hoc hof y7)
            go_roundw
            case rel => exact ⟨k + 1, by omega, by go_num, hV2, hd2⟩
            case measure => simp [intOf]; omega
          · have cX := cS false ⟨fun q => (by cases q), fun q => absurd q sy⟩
            have e := hno fun q => sy (h1k.mp q).2.2
            subst e
            clear hno h1k hR hd o0 cS sy hgs hgr hgm hg eg fl ec
            go_wp2_with fail
            refine wp_region_cls (Bey V) (by kernel_rfl) (by kernel_rfl) (bey_drew V) ?_
            repeat (first
              | (go_big_quiet_want; (refine quiet_load_mid 35 _ rfl (w.heap.size + 1) (48 + c.frm.toNat * 12) rfl _ _ tg hug.out rfl hginf.out ?_); (simp only [Act.put, List.setIfInBounds_toArray, List.set_cons_zero, List.set_cons_succ]); go_big_quiet_on)
              | go_big_quiet_step ((go_at_call 44; exact calls_bey (cX _))))
            refine wpQuiet_nil ?_
            intro _ hw'
            obtain ⟨sq, hw''⟩ := hw'
            subst hw''
            clear s0 s1 t0 t1 t2 t3 hne tg cX hpx
            go_wp2
            go_ret
            exact ⟨rfl, bthen hV.out.ps.b sq.h⟩
        · have e := hno fun q => f1 (h1k.mp q).2.1
          subst e
          have d0 : decide (c.frm < 0) = false := decide_eq_false f0
          have d1 : decide (s.cnt ≤ c.frm) = true := decide_eq_true (by omega)
          clear hno h1k hR hd o0 f1
          go_wp2_with fail
          refine wp_region_cls (Bey V) (by kernel_rfl) (by kernel_rfl) (bey_drew V) ?_
          repeat (go_big_quiet_step (fail))
          refine wpQuiet_nil ?_
          intro _ hw'
          obtain ⟨sq, hw''⟩ := hw'
          subst hw''
          clear s0 s1 t0 t1 t2 t3 hne
          go_wp2
          go_ret
          exact ⟨rfl, bthen hV.out.ps.b sq.h⟩
    · have hk4 : k = 4 := by omega
      subst hk4
      have rG : Hid (wr.rangeAt (w.heap.size + 1) 48 (s.gos.map Gr.cells).flatten) := ho.out.ps.sb.rangeG hsH.out
      clear hlt hk
      go_wp2_with (refine wpList_load_mid rfl 36 _ rfl (w.heap.size + 1) 48 rfl _ _ rG.out huG.out rfl infG.out ?_)
      try simp only [Act.put, List.setIfInBounds_toArray, List.set_cons_zero, List.set_cons_succ]
      clear rG
      generalize hWW : wr = W4 at *
      clear hWW
      go_loopw [49] (fun u wr => ∃ k : Nat, k ≤ 6 ∧ u = .int .i64 (k : Int) ∧ Hid (OfS w wr M s 4) ∧ Hid (∀ g, g < k → (s.gos.getD g zeroG).st = 2 → offs s g 4 = 1)) (fun u _ => 6 - (intOf u).toNat)
      case atStart => exact ⟨0, by omega, rfl, ho, fun n hn => by omega⟩
      case round =>
        clear ho
        obtain ⟨k, hk, rfl, ho, hd3⟩ := hrel
        by_cases hlt : k < 6
        · obtain ⟨g, hg, hgm⟩ := get_lt s.gos k (by omega)
          have eg := go_getD hg
          have hgw := hsH.out.ag g hgm
          have hix := ixv_go hsH.out k g hg
          have hkI : (k : Int) < 6 := by omega
          have hinfA : Hid ((Tryd.prog.info? 35).map (·.size) = some g.cells.toArray.size) := infoGw hgw
          have hone := oneG g
          obtain ⟨ZI, hZ1, hZ2, _⟩ := zero_big (P := Tryd.prog) (t := 35) (n := 12) (by kernel_rfl)
          have hsz : Hid (ZI.size = g.cells.toArray.size) := by show _ = _; rw [hZ2, List.size_toArray, Gr.len hgw]
          have hzi : (wr.alloc (.cells ZI 35)).heap[wr.heap.size]? = some (.cells ZI 35) := heap_alloc_new wr _
          have hbw : Below wr.heap.size wr ((wr.alloc (.cells ZI 35)).setRow wr.heap.size g.cells.toArray) := below_setRowG (boxed _ _) (Nat.le_refl _) _
          have hV : Hid (OfS w ((wr.alloc (.cells ZI 35)).setRow wr.heap.size g.cells.toArray) M s 4) := ho.out.later hbw
          have hGb : Hid (InG ((wr.alloc (.cells ZI 35)).setRow wr.heap.size g.cells.toArray) wr.heap.size g) := setRow_heap _ _ _ _ _ _ hzi
          clear hbw hZ2 ho
          go_upto_region 13 with (first
            | (refine wpList_alloc_big rfl 35 rfl hZ1 ?_)
            | (refine wpList_store_row rfl 35 _ _ rfl wr.heap.size g.cells.toArray rfl rfl _ _ hzi hinfA.out hsz.out hone ?_))
          try simp only [Act.put, List.setIfInBounds_toArray, List.set_cons_zero, List.set_cons_succ]
          generalize (wr.alloc (.cells ZI 35)).setRow wr.heap.size g.cells.toArray = V at *
          generalize wr.heap.size = CB at *
          clear hzi hZ1 hsz hone hinfA hix hgw hgm hg
          have z0 := hGb.out.c0
          have hox := ixp (t := 98) Tryd.underlying98 (fun wx => Tryd.sizeOf3 wx) (w.heap.size + 2) 0 (k : Int) (by omega) (by omega)
          have hoa : 0 + ((k : Int)).toNat * 1 = k := by omega
          rw [hoa] at hox
          have hoc : V.cell? ⟨w.heap.size + 2, k, none⟩ = some (.int .i64 (offs s k 4)) := cell_ofG hV.out.arr (by rw [offL_at s 4 (by omega)])
          clear hoa
          by_cases s2 : g.st = 2
          · rw [s2] at z0
            by_cases n1 : offs s k 4 = 1
            · rw [n1] at hoc
              have hd4 : Hid (∀ g, g < k + 1 → (s.gos.getD g zeroG).st = 2 → offs s g 4 = 1) := fun n hn q => by
                by_cases e : n = k
                · subst e; exact n1
                · exact hd3.out n (by omega) q
              clear n1 s2 hd3 eg
              go_wp2
              go_roundw
              case rel => exact ⟨k + 1, by omega, by go_num, hV, hd4⟩
              case measure => simp [intOf]; omega
            · have e := Rfalse hR fun q => n1 (q.2 k hlt (by rw [eg]; exact s2))
              subst e
              have d : (offs s k 4 != 1) = true := by simpa using n1
              generalize offs s k 4 = ov at *
              clear hR n1 s2 hd3 eg hd
              go_wp2
              go_ret
              exact ⟨rfl, hV.out.ps.b⟩
          · have d : (g.st == 2) = false := by simpa using s2
            have hd4 : Hid (∀ g, g < k + 1 → (s.gos.getD g zeroG).st = 2 → offs s g 4 = 1) := fun n hn q => by
              by_cases e : n = k
              · subst e; rw [eg] at q; exact absurd q s2
              · exact hd3.out n (by omega) q
            clear s2 hd3 eg
            go_wp2
            go_roundw
            case rel => exact ⟨k + 1, by omega, by go_num, hV, hd4⟩
            case measure => simp [intOf]; omega
        · have hk6 : k = 6 := by omega
          subst hk6
          have e := Rtrue hR ⟨fun n hn => hd.out n hn, fun g hg => hd3.out g hg⟩
          subst e
          clear hR hd hd3 hlt hk
          go_wp2
          go_ret
          exact ⟨rfl, ho.out.ps.b⟩
end Go.Proofs.YtjcmhaaohdmjpaaDoor.pg
/- The contracts of package prog's look at a function, and of Check. -/
namespace Go.Proofs.YtjcmhaaohdmjpaaDoor.pg
open Go.ChangeShapes Go.WideShapes Go.ChangeAt Go.RowKit
set_option linter.unusedVariables false
set_option linter.unusedSimpArgs false
set_option maxRecDepth 100000
theorem fnE_shape {ins : Pr → Fn → Ins → Int} {P : Pr} {n : Nat} {f : Fn} (h : ¬ (shaped f ∧ (n = 0 → f.params = 0))) : fnE ins P n f = (32, 0) := by unfold fnE; rw [if_neg h]
theorem fnE_sel {ins : Pr → Fn → Ins → Int} {P : Pr} {n : Nat} {f : Fn} {e : Int} (h : shaped f ∧ (n = 0 → f.params = 0)) (h2 : firstE (selE P f) f.sels = e) (he : e ≠ 0) : fnE ins P n f = (e, 0) := by
  unfold fnE; rw [if_pos h, if_neg (by rw [h2]; exact he), h2]
theorem fnE_ins {ins : Pr → Fn → Ins → Int} {P : Pr} {n : Nat} {f : Fn} {e : Int} {k : Nat} (h : shaped f ∧ (n = 0 → f.params = 0)) (h2 : firstE (selE P f) f.sels = 0) (h3 : firstAt (ins P f) f.code 0 = (e, k)) (he : e ≠ 0) : fnE ins P n f = (e, (k : Int)) := by
  have h4 : firstE (ins P f) f.code ≠ 0 := by rw [← firstAt_fst (ins P f) f.code 0, h3]; exact he
  unfold fnE; rw [if_pos h, if_pos h2, if_neg h4, h3]
theorem fnE_fall {ins : Pr → Fn → Ins → Int} {P : Pr} {n : Nat} {f : Fn} (h : shaped f ∧ (n = 0 → f.params = 0)) (h2 : firstE (selE P f) f.sels = 0) (h3 : firstE (ins P f) f.code = 0) (h4 : ¬ ends (lastOp f)) : fnE ins P n f = (39, (f.code.length : Int) - 1) := by
  unfold fnE; rw [if_pos h, if_pos h2, if_pos h3, if_neg h4]
theorem fnE_ok {ins : Pr → Fn → Ins → Int} {P : Pr} {n : Nat} {f : Fn} (h : shaped f ∧ (n = 0 → f.params = 0)) (h2 : firstE (selE P f) f.sels = 0) (h3 : firstE (ins P f) f.code = 0) (h4 : ends (lastOp f)) : fnE ins P n f = (0, 0) := by
  unfold fnE; rw [if_pos h, if_pos h2, if_pos h3, if_pos h4]
theorem ret_ii {a b c d : Int} (h : (a, c) = (b, d)) : Ending.returned (.tuple #[.int .i64 a, .int .i64 c]) = .returned (.tuple #[.int .i64 b, .int .i64 d]) := by
  cases h; rfl
theorem sels_get (f : MFn) (k : Nat) (x : MSel) (hx : f.sels[k]? = some x) : f.fn.sels[k]? = some x.sel := by simp [MFn.fn, hx]
set_option maxHeartbeats 4000000 in
theorem checkFunc_any (M : MPr) (n : Nat) (f : MFn) (w : World) (r q : Int) (hl : M.lies w) (hF : prog.Forms w) (hf : M.fns[n]? = some f) (hr : Hid (fnE insP M.pr n f.fn = (r, q))) :
    Calls Tryd.prog 33 #[M.val, .int .i64 n] w fun e w' => e = .returned (.tuple #[.int .i64 r, .int .i64 q]) ∧ Below w.heap.size w w' := by
  have hb1 := boxed w (objP M)
  have hb2 := boxed (w.alloc (objP M)) (objF f)
  have hb := boxed2 w (objP M) (objF f)
  have bP0 := boxP_new w M
  have bP := bP0.later hb2
  have bF := boxF_new (w.alloc (objP M)) f
  simp only [World.size_alloc] at bF
  have hfm : f ∈ M.fns := List.mem_of_getElem? hf
  have hL := hl.later hb
  have hFW := hF.later hb
  have hfL : f.lies ((w.alloc (objP M)).alloc (objF f)) := hL.2.2.2.2.2.2 f hfm
  have hz : w.heap.size + 1 < ((w.alloc (objP M)).alloc (objF f)).heap.size := by simp only [World.size_alloc]; omega
  have hln := rows_len hfL.1
  have hlns := rows_len hfL.2.1
  obtain ⟨b, o, hix, hbl, c0, c1, c2, c3⟩ := fn_ix (hl.later hb1).2.2.1 n f hf
  obtain ⟨rs, hrs⟩ : ∃ rs, Hid (decide (shaped f.fn) = rs) := ⟨_, rfl⟩
  have hsh := shaped_any f _ hfL rs hrs
  clear hb1 hb2 hl hF bP0 hf hfm
  have hn0 : Hid ((0 : Int) ≤ n) := by show (0 : Int) ≤ n; omega
  go_enter Tryd.func33, Tryd.ntmps33
  cases rs with
  | false =>
    have hv : Hid (fnE insP M.pr n f.fn = (32, 0)) := fnE_shape (fun h => by have := hrs.out; rw [decide_eq_false_iff_not] at this; exact this h.1)
    go_wp2_with (go_at_call 50; (with_reducible refine hsh.mono ?_); rintro e w2 ⟨rfl, hb2⟩)
    go_ret2
    exact ⟨ret_ii (hv.out.symm.trans hr.out), bthen hb hb2⟩
  | true =>
    have hS : Hid (shaped f.fn) := by have := hrs.out; rw [decide_eq_true_iff] at this; exact this
    by_cases h0 : (n : Int) = 0 ∧ ¬ f.params = 0
    · have hv : Hid (fnE insP M.pr n f.fn = (32, 0)) := fnE_shape (fun h => h0.2 (h.2 (by omega)))
      obtain ⟨h00, h01⟩ := h0
      rw [h00] at hix
      go_wp2_with (go_at_call 50; (with_reducible refine hsh.mono ?_); rintro e w2 ⟨rfl, hb2⟩; obtain ⟨f0, f1, f2, f3⟩ := bF.later hb2)
      go_ret2
      exact ⟨ret_ii (hv.out.symm.trans hr.out), bthen hb hb2⟩
    · have hS0 : Hid (shaped f.fn ∧ (n = 0 → f.fn.params = 0)) := ⟨hS.out, fun hn => by
        apply Classical.byContradiction
        intro hp
        exact h0 ⟨by omega, hp⟩⟩
      have hreg : 0 ≤ f.regs ∧ f.regs ≤ 8 := hS.out.1
      have hcl : 1 ≤ f.code.length := hS.out.2.2.1.1
      obtain ⟨xl, hxl, hxm⟩ := get_lt f.code (f.code.length - 1) (by omega)
      have hlast : Hid (lastOp f.fn = xl.op) := by
        show lastOp f.fn = _
        unfold lastOp
        have : f.fn.code.getLast? = some xl := by rw [List.getLast?_eq_getElem?]; exact hxl
        rw [this]
      by_cases hn00 : (n : Int) = 0
      all_goals
        have hp0 : (n : Int) = 0 → f.params = 0 := fun hn => Classical.byContradiction fun hp => h0 ⟨hn, hp⟩
        first | (have hp0h : Hid (f.params = 0) := hp0 hn00; rw [hn00] at hix) | skip
        clear h0 hp0
        go_wp2_with (go_at_call 50; (with_reducible refine hsh.mono ?_); rintro e w2 ⟨rfl, hb2⟩; obtain ⟨f0, f1, f2, f3⟩ := bF.later hb2; first | (have hp00 := hp0h.out) | skip)
        first | clear hp00 | skip
        have hP2 : Hid (BoxP w2 w.heap.size M) := bP.later hb2
        have hF2 : Hid (BoxF w2 (w.heap.size + 1) f) := bF.later hb2
        have hL2 : Hid (M.lies w2) := hL.later hb2
        have hf2 : Hid (f.lies w2) := hfL.later hb2
        have hFo2 : Hid (prog.Forms w2) := hFW.later hb2
        have hbw2 : Below w.heap.size w w2 := bthen hb hb2
        have hz2 : w.heap.size + 1 < w2.heap.size := by have := hb2.size; omega
        clear hb2 hb bP bF hL hfL hFW hz hsh hix c0 c1 c2 c3 hbl f0 f1 f2 f3
        go_loopw [34] (fun u wr => ∃ k : Nat, k ≤ f.sels.length ∧ u = .int .i64 k ∧ (∀ j y, j < k → f.sels[j]? = some y → selE M.pr f.fn y.sel = 0) ∧ Below w2.heap.size w2 wr) (fun u _ => f.sels.length - (intOf u).toNat)
        case atStart => exact ⟨0, Nat.zero_le _, rfl, fun j y hj => by omega, Below.refl _ _⟩
        case round =>
          obtain ⟨k, hk, rfl, hall, hbr⟩ := hrel
          have hPr : Hid (BoxP wr w.heap.size M) := hP2.out.later hbr
          have hFr : Hid (BoxF wr (w.heap.size + 1) f) := hF2.out.later hbr
          obtain ⟨p0, p1, p2, p3⟩ := hPr.out
          obtain ⟨f0, f1, f2, f3⟩ := hFr.out
          have z := hbr.size
          have z0 : w.heap.size < wr.heap.size := by omega
          have z1 : w.heap.size + 1 < wr.heap.size := by omega
          have hbwr : Below w.heap.size w wr := bthen hbw2 hbr
          by_cases hlt : k < f.sels.length
          · obtain ⟨x, hx, hm⟩ := get_lt f.sels k hlt
            have hfr := hf2.out.later hbr
            obtain ⟨b, o, hix, hbl, c0, c1⟩ := sel_ix hfr.2.1 k x hx
            have hLa := (hL2.out.later hbr).later (boxed wr (objS x))
            have hSa := (hfr.2.2.2.1 x hm).later (boxed wr (objS x))
            obtain ⟨e, he⟩ : ∃ e, Hid (selE M.pr f.fn x.sel = e) := ⟨_, rfl⟩
            have hcall := checkSelect_any M f x _ hLa hSa e he
            have hbx : Below w.heap.size w (wr.alloc (objS x)) := bthen hbwr (boxed wr (objS x))
            have hbW : Below w2.heap.size w2 (wr.alloc (objS x)) := bthen hbr (boxed wr (objS x))
            clear hLa hSa hfr
            by_cases h0 : e = 0
            · subst h0
              go_wp2_with (go_at_call 51; (with_reducible refine hcall.mono ?_); rintro e w3 ⟨rfl, hb3⟩)
              go_roundw
              case rel => exact ⟨k + 1, by omega, by go_num, (fun j y hj hy => by
                by_cases hjk : j = k
                · subst hjk; rw [hx] at hy; cases hy; exact he.out
                · exact hall j y (by omega) hy), bthen hbW hb3⟩
              case measure => simp [intOf]; omega
            · have hv : Hid (fnE insP M.pr n f.fn = (e, 0)) := fnE_sel hS0.out ((firstE_hit _ _ k x.sel (sels_get f k x hx) (fun i y hi hy => by
                simp only [MFn.fn, List.getElem?_map, Option.map_eq_some_iff] at hy
                obtain ⟨y', hy', rfl⟩ := hy
                exact hall i y' hi hy') (by rw [he.out]; exact h0)).trans he.out) h0
              go_wp2_with (go_at_call 51; (with_reducible refine hcall.mono ?_); rintro e w3 ⟨rfl, hb3⟩)
              go_ret2
              exact ⟨ret_ii (hv.out.symm.trans hr.out), bthen hbx hb3⟩
          · have hs0 : Hid (firstE (selE M.pr f.fn) f.fn.sels = 0) := firstE_zero _ _ fun s hs => by
              simp only [MFn.fn, List.mem_map] at hs
              obtain ⟨y, hy, rfl⟩ := hs
              obtain ⟨j, hj, rfl⟩ := List.getElem_of_mem hy
              exact hall j _ (by omega) (List.getElem?_eq_getElem hj)
            have hLr : Hid (M.lies wr) := hL2.out.later hbr
            have hfr : Hid (f.lies wr) := hf2.out.later hbr
            have hFor : Hid (prog.Forms wr) := hFo2.out.later hbr
            clear hall hP2 hF2 hL2 hf2 hFo2 hbw2 hbr hz2 z
            go_wp2
            generalize hwq : wr = w4 at *
            go_loopw [49] (fun u wr => ∃ k : Nat, k ≤ f.code.length ∧ u = .int .i64 k ∧ (∀ j y, j < k → f.code[j]? = some y → insP M.pr f.fn y = 0) ∧ Below w4.heap.size w4 wr) (fun u _ => f.code.length - (intOf u).toNat)
            case atStart => exact ⟨0, Nat.zero_le _, rfl, fun j y hj => by omega, Below.refl _ _⟩
            case round =>
              obtain ⟨k, hk, rfl, hall, hbr⟩ := hrel
              have hPr2 : Hid (BoxP wr w.heap.size M) := hPr.out.later hbr
              have hFr2 : Hid (BoxF wr (w.heap.size + 1) f) := hFr.out.later hbr
              clear p0 p1 p2 p3 f0 f1 f2 f3
              obtain ⟨p0, p1, p2, p3⟩ := hPr2.out
              obtain ⟨f0, f1, f2, f3⟩ := hFr2.out
              have z := hbr.size
              have y0 : w.heap.size < wr.heap.size := by omega
              have y1 : w.heap.size + 1 < wr.heap.size := by omega
              have hbwr2 : Below w.heap.size w wr := bthen hbwr hbr
              by_cases hlt : k < f.code.length
              · obtain ⟨x, hx, hm⟩ := get_lt f.code k hlt
                have hfr2 := hfr.out.later hbr
                obtain ⟨b, o, hix, hbl, c0, c1, c2, c3, c4⟩ := ins_ix hfr2.1 k x hx
                have hLa := (hLr.out.later hbr).later (boxed wr (objI x))
                have hFoa := (hFor.out.later hbr).later (boxed wr (objI x))
                obtain ⟨e, he⟩ : ∃ e, Hid (insP M.pr f.fn x = e) := ⟨_, rfl⟩
                have hcall := checkInstr_any M f x _ e hLa (hfr2.2.2.1 x hm) hreg.1 hreg.2 hFoa he
                have hbx : Below w.heap.size w (wr.alloc (objI x)) := bthen hbwr2 (boxed wr (objI x))
                have hbW : Below w4.heap.size w4 (wr.alloc (objI x)) := bthen hbr (boxed wr (objI x))
                clear hLa hFoa hfr2
                by_cases h0 : e = 0
                · subst h0
                  go_wp2_with (go_at_call 52; (with_reducible refine hcall.mono ?_); rintro e w5 ⟨rfl, hb5⟩)
                  go_roundw
                  case rel => exact ⟨k + 1, by omega, by go_num, (fun j y hj hy => by
                    by_cases hjk : j = k
                    · subst hjk; rw [hx] at hy; cases hy; exact he.out
                    · exact hall j y (by omega) hy), bthen hbW hb5⟩
                  case measure => simp [intOf]; omega
                · have hv : Hid (fnE insP M.pr n f.fn = (e, (k : Int))) := fnE_ins hS0.out hs0.out ((firstAt_hit _ _ 0 k x hx hall (by rw [he.out]; exact h0)).trans (by rw [he.out, Nat.zero_add])) h0
                  go_wp2_with (go_at_call 52; (with_reducible refine hcall.mono ?_); rintro e w5 ⟨rfl, hb5⟩)
                  go_ret2
                  exact ⟨ret_ii (hv.out.symm.trans hr.out), bthen hbx hb5⟩
              · have hi0 : Hid (firstE (insP M.pr f.fn) f.fn.code = 0) := firstE_zero _ _ fun s hs => by
                  obtain ⟨j, hj, rfl⟩ := List.getElem_of_mem hs
                  exact hall j _ (by have : j < f.code.length := hj; omega) (List.getElem?_eq_getElem hj)
                have hfr2 := hfr.out.later hbr
                obtain ⟨b, o, hix, hbl, c0, c1, c2, c3, c4⟩ := ins_ix hfr2.1 (f.code.length - 1) xl hxl
                rw [show ((f.code.length - 1 : Nat) : Int) = (f.code.length : Int) - 1 by omega] at hix
                have hclI : (1 : Int) ≤ f.code.length := by omega
                clear hall hfr2
                by_cases e1 : xl.op = 42
                · have hv : Hid (fnE insP M.pr n f.fn = (0, 0)) := fnE_ok hS0.out hs0.out hi0.out (by rw [hlast.out]; exact .inl e1)
                  go_wp2
                  go_ret2
                  exact ⟨ret_ii (hv.out.symm.trans hr.out), hbwr2⟩
                · by_cases e2 : xl.op = 45
                  · have hv : Hid (fnE insP M.pr n f.fn = (0, 0)) := fnE_ok hS0.out hs0.out hi0.out (by rw [hlast.out]; exact .inr (.inl e2))
                    go_wp2
                    go_ret2
                    exact ⟨ret_ii (hv.out.symm.trans hr.out), hbwr2⟩
                  · by_cases e3 : xl.op = 61
                    · have hv : Hid (fnE insP M.pr n f.fn = (0, 0)) := fnE_ok hS0.out hs0.out hi0.out (by rw [hlast.out]; exact .inr (.inr e3))
                      go_wp2
                      go_ret2
                      exact ⟨ret_ii (hv.out.symm.trans hr.out), hbwr2⟩
                    · have hv : Hid (fnE insP M.pr n f.fn = (39, (f.fn.code.length : Int) - 1)) := fnE_fall hS0.out hs0.out hi0.out (by rw [hlast.out]; rintro (h | h | h) <;> omega)
                      go_wp2
                      go_ret2
                      exact ⟨ret_ii (hv.out.symm.trans hr.out), hbwr2⟩
end Go.Proofs.YtjcmhaaohdmjpaaDoor.pg
/- The contract of package prog's Check. -/
namespace Go.Proofs.YtjcmhaaohdmjpaaDoor.pg
open Go.ChangeShapes Go.WideShapes Go.ChangeAt Go.RowKit
set_option linter.unusedVariables false
set_option linter.unusedSimpArgs false
set_option maxRecDepth 100000
theorem chk_sizes {ins : Pr → Fn → Ins → Int} {P : Pr} {e : Int} (h : sizesE P = e) (he : e ≠ 0) : chk ins P = (e, 0, 0) := by unfold chk; rw [if_neg (by rw [h]; exact he), h]
theorem chk_fns {ins : Pr → Fn → Ins → Int} {P : Pr} (h : sizesE P = 0) : chk ins P = fnsE ins P P.fns 0 := by unfold chk; rw [if_pos h]
theorem ret_chk {a b c a' b' c' : Int} (h : (a, b, c) = (a', b', c')) : Ending.returned (.tuple #[.int .i64 a, .agg #[.int .i64 b, .int .i64 c]]) = .returned (.tuple #[.int .i64 a', .agg #[.int .i64 b', .int .i64 c']]) := by
  cases h; rfl
abbrev objZ : Obj := .cells #[.int .i64 0, .int .i64 0] 63
theorem fns_get (M : MPr) (k : Nat) (x : MFn) (hx : M.fns[k]? = some x) : M.pr.fns[k]? = some x.fn := by simp [MPr.pr, hx]
set_option maxHeartbeats 4000000 in
theorem check_any (M : MPr) (w : World) (hl : M.lies w) (hF : prog.Forms w) (a b c : Int) (hr : Hid (chk insP M.pr = (a, b, c))) :
    Calls Tryd.prog 19 #[M.val] w fun e w' => e = .returned (.tuple #[.int .i64 a, .agg #[.int .i64 b, .int .i64 c]]) ∧ Below w.heap.size w w' := by
  have hb := boxed2 w (objP M) objZ
  have hL := hl.later hb
  have hFW := hF.later hb
  have hln := rows_len hl.2.2.1
  obtain ⟨e, he⟩ : ∃ e, Hid (sizesE M.pr = e) := ⟨_, rfl⟩
  have hcs := checkSizes_any M _ hL e he
  clear hl hF
  go_enter Tryd.func19, Tryd.ntmps19
  by_cases h0 : e = 0
  · subst h0
    have hc0 := chk_fns (ins := insP) he.out
    go_wp2_with (go_at_call 32; (with_reducible refine hcs.mono ?_); rintro e w2 ⟨rfl, hb2⟩; obtain ⟨hbc, hbf⟩ := bcell hb2)
    clear hbc hbf
    go_loopw [17] (fun u wr => ∃ k : Nat, k ≤ M.fns.length ∧ u = .int .i64 k ∧ (∀ j y, j < k → M.fns[j]? = some y → (fnE insP M.pr (0 + j) y.fn).1 = 0) ∧ Below ((w.alloc (objP M)).alloc objZ).heap.size ((w.alloc (objP M)).alloc objZ) wr) (fun u _ => M.fns.length - (intOf u).toNat)
    case atStart => exact ⟨0, Nat.zero_le _, rfl, fun j y hj => by omega, hb2⟩
    case round =>
      obtain ⟨k, hk, rfl, hall, hbr⟩ := hrel
      have hall' : ∀ i f, i < k → M.pr.fns[i]? = some f → (fnE insP M.pr (0 + i) f).1 = 0 := fun i y hi hy => by
        simp only [MPr.pr, List.getElem?_map, Option.map_eq_some_iff] at hy
        obtain ⟨y', hy', rfl⟩ := hy
        exact hall i y' hi hy'
      by_cases hlt : k < M.fns.length
      · obtain ⟨x, hx, hm⟩ := get_lt M.fns k hlt
        obtain ⟨e, q, hE⟩ : ∃ e q, Hid (fnE insP M.pr k x.fn = (e, q)) := ⟨_, _, rfl⟩
        have hcall := checkFunc_any M k x wr e q (hL.later hbr) (hFW.later hbr) hx hE
        by_cases h0 : e = 0
        · subst h0
          obtain ⟨hbc, hbf⟩ := bcell hbr
          go_wp2_with (go_at_call 33; (with_reducible refine hcall.mono ?_); rintro e w3 ⟨rfl, hb3⟩)
          go_roundw
          case rel => exact ⟨k + 1, by omega, by go_num, (fun j y hj hy => by
            by_cases hjk : j = k
            · subst hjk; rw [hx] at hy; cases hy; rw [Nat.zero_add, hE.out]
            · exact hall j y (by omega) hy), bthen hbr hb3⟩
          case measure => simp [intOf]; omega
        · have hv : Hid (chk insP M.pr = (e, (k : Int), q)) := hc0.trans ((fnsE_hit insP M.pr _ 0 k x.fn (fns_get M k x hx) hall' (by rw [Nat.zero_add, hE.out]; exact h0)).trans (by rw [Nat.zero_add, hE.out]))
          have hb4 : Hid (Below w.heap.size w wr) := bthen hb hbr
          obtain ⟨hbc, hbf⟩ := bcell hbr
          go_wp2_with (go_at_call 33; (with_reducible refine hcall.mono ?_); rintro e' w3 ⟨rfl, hb3⟩; (have hb5 := bthen hbr hb3); clear hbc hbf; obtain ⟨hbc, hbf⟩ := bcell hb5)
          exact bodyPost_ret (v := .tuple #[.int .i64 e, .agg #[.int .i64 k, .int .i64 q]]) (by simp [results, Tryd.results19, go_sem, hbc]) rfl ⟨ret_chk (hv.out.symm.trans hr.out), ((bthen hb hb5).setCell (by simp) _).setCell (by simp) _⟩
      · have hv : Hid (chk insP M.pr = (0, 0, 0)) := hc0.trans (fnsE_zero insP M.pr _ 0 fun i f hf => hall' i f (by have := (List.getElem?_eq_some_iff.mp hf).1; simp [MPr.pr] at this; omega) hf)
        obtain ⟨hbc, hbf⟩ := bcell hbr
        go_wp2
        exact bodyPost_ret (v := .tuple #[.int .i64 0, .agg #[.int .i64 0, .int .i64 0]]) (by simp [results, Tryd.results19, go_sem, hbc]) rfl ⟨ret_chk (hv.out.symm.trans hr.out), ((bthen hb hbr).setCell (by simp) _).setCell (by simp) _⟩
  · have hv : Hid (chk insP M.pr = (e, 0, 0)) := chk_sizes he.out h0
    go_wp2_with (go_at_call 32; (with_reducible refine hcs.mono ?_); rintro e w2 ⟨rfl, hb2⟩; obtain ⟨hbc, hbf⟩ := bcell hb2)
    exact bodyPost_ret (v := .tuple #[.int .i64 e, .agg #[.int .i64 0, .int .i64 0]]) (by simp [results, Tryd.results19, go_sem, hbc]) rfl ⟨ret_chk (hv.out.symm.trans hr.out), ((bthen hb hb2).setCell (by simp) _).setCell (by simp) _⟩
end Go.Proofs.YtjcmhaaohdmjpaaDoor.pg
