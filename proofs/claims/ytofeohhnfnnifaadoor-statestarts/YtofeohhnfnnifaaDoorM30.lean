/- Has a state nothing beyond what the program has: package state's fits. -/
import Derived.Test.YtofeohhnfnnifaaDoorM29
namespace Go.Proofs.YtofeohhnfnnifaaDoor.pg
open Go.ChangeShapes Go.WideShapes Go.ChangeAt Go.RowKit
set_option linter.unusedVariables false
set_option linter.unusedSimpArgs false
set_option maxRecDepth 100000
theorem drop_iff {α : Type} (l : List α) (d : α) (k n : Nat) (hn : l.length = n) : (∀ x ∈ l.drop k, x = d) ↔ ∀ i, k ≤ i → i < n → l.getD i d = d := by
  constructor
  · intro h i h1 h2
    rw [List.getD_eq_getElem?_getD, List.getElem?_eq_getElem (by omega)]
    refine h _ ?_
    rw [List.mem_drop_iff_getElem]
    exact ⟨i - k, by omega, by congr 1; omega⟩
  · intro h x hx
    rw [List.mem_drop_iff_getElem] at hx
    obtain ⟨i, hi, rfl⟩ := hx
    have := h (k + i) (by omega) (by omega)
    rw [List.getD_eq_getElem?_getD, List.getElem?_eq_getElem (by omega)] at this
    simpa [Nat.add_comm] using this
/-- Two boxes: a program, and a state. -/
structure PS (w W : World) (M : MPr) (s : Sts) : Prop where
  b : Below w.heap.size w W
  p : BoxP W w.heap.size M
  sb : InS W (w.heap.size + 1) s
theorem ps_new (w : World) (M : MPr) (s : Sts) : PS w ((w.alloc (objP M)).alloc (objSt s)) M s := by
  obtain ⟨h1, h2⟩ := two_boxes w (objP M) (objSt s)
  exact ⟨boxed2 _ _ _, ⟨cell_ofG h1 rfl, cell_ofG h1 rfl, cell_ofG h1 rfl, cell_ofG h1 rfl⟩, h2⟩
theorem PS.later {w W W' : World} {M : MPr} {s : Sts} (h : PS w W M s) (hb : Below W.heap.size W W') : PS w W' M s := ⟨bthen h.b hb, h.p.later hb, h.sb.later hb⟩
set_option maxHeartbeats 2000000 in
theorem fits_any (M : MPr) (s : Sts) (hs : s.wf) (l1 : M.vars.length ≤ 8) (l2 : 0 ≤ M.locks) (l3 : M.locks ≤ 4) (l4 : M.chans.length ≤ 4) (w : World) (R : Bool) (hR : Hid (R = true ↔ fitsS M.pr s)) :
    Calls Tryd.prog 25 #[M.val, s.val] w fun e w' => e = .returned (.bool R) ∧ Below w.heap.size w w' := by
  have hE := ps_new w M s
  go_enter Tryd.func25, Tryd.ntmps25
  go_upto_region 1 with fail
  generalize (w.alloc (objP M)).alloc (objSt s) = W at *
  have hEH : Hid (PS w W M s) := hE
  obtain ⟨p0, p1, p2, p3⟩ := hE.p
  have zc := hE.sb.cnt hs
  clear hE
  by_cases c1 : s.cnt < 1
  · have e := Rfalse hR fun q => by have := q.c1; omega
    subst e
    clear hR
    go_wp2
    go_ret
    exact ⟨rfl, hEH.out.b⟩
  by_cases c6 : 6 < s.cnt
  · have e := Rfalse hR fun q => by have := q.c6; omega
    subst e
    clear hR
    go_wp2
    go_ret
    exact ⟨rfl, hEH.out.b⟩
  have d1 : 1 ≤ s.cnt := by omega
  have d6 : s.cnt ≤ 6 := by omega
  -- the four lists
  obtain ⟨ag, slg, rg⟩ := sl_drop Tryd.underlying36 (fun wx => Tryd.sizeOf35 wx) (hEH.out.sb.gos hs) (by rw [List.length_map, hs.lg]) s.cnt.toNat (by omega)
  rw [show ((s.cnt.toNat : Nat) : Int) = s.cnt by omega] at slg
  obtain ⟨av, slv, rv⟩ := sl_drop Tryd.underlying28 (fun wx => Tryd.sizeOf2 wx) (hEH.out.sb.vars hs) (by rw [List.length_map, hs.lv]) M.vars.length l1
  obtain ⟨ao, slo, ro⟩ := sl_drop Tryd.underlying29 (fun wx => Tryd.sizeOf3 wx) (hEH.out.sb.own hs) (by rw [List.length_map, hs.lo]) M.locks.toNat (by omega)
  rw [show ((M.locks.toNat : Nat) : Int) = M.locks by omega] at slo
  obtain ⟨ac, slc, rc⟩ := sl_drop Tryd.underlying33 (fun wx => Tryd.sizeOf32 wx) (hEH.out.sb.chs hs) (by rw [List.length_map, hs.lc]) M.chans.length l4
  have cG : ∀ (Q : Bool), Hid (Q = true ↔ ∀ i, s.cnt.toNat ≤ i → i < 6 → s.gos.getD i zeroG = zeroG) → Calls Tryd.prog 39 #[.slice (some ag) (6 - s.cnt.toNat) (6 - s.cnt.toNat)] W fun e w' => e = .returned (.bool Q) ∧ Below W.heap.size W w' := fun Q hQ => by
    have := blank_go (s.gos.drop s.cnt.toNat) (some ag) (6 - s.cnt.toNat) W (by rw [List.map_drop]; exact rg) (fun x hx => hs.ag x (List.mem_of_mem_drop hx)) Q (by show _ ↔ _; rw [hQ.out, drop_iff _ _ _ 6 hs.lg])
    rwa [List.length_drop, hs.lg] at this
  have cV : ∀ (V : World), Below W.heap.size W V → ∀ (Q : Bool), Hid (Q = true ↔ tz s.vars M.vars.length) → Calls Tryd.prog 40 #[.slice (some av) (8 - M.vars.length) (8 - M.vars.length)] V fun e w' => e = .returned (.bool Q) ∧ w' = V := fun V hV Q hQ => by
    have := blank_i64 (s.vars.drop M.vars.length) (some av) (8 - M.vars.length) V (by rw [List.map_drop]; exact rv.later hV) Q (by show _ ↔ _; rw [hQ.out, tz_drop])
    rwa [List.length_drop, hs.lv] at this
  have cO : ∀ (V : World), Below W.heap.size W V → ∀ (Q : Bool), Hid (Q = true ↔ tz s.own M.locks.toNat) → Calls Tryd.prog 41 #[.slice (some ao) (4 - M.locks.toNat) (4 - M.locks.toNat)] V fun e w' => e = .returned (.bool Q) ∧ w' = V := fun V hV Q hQ => by
    have := blank_int (s.own.drop M.locks.toNat) (some ao) (4 - M.locks.toNat) V (by rw [List.map_drop]; exact ro.later hV) Q (by show _ ↔ _; rw [hQ.out, tz_drop])
    rwa [List.length_drop, hs.lo] at this
  have cC : ∀ (V : World), Below W.heap.size W V → ∀ (Q : Bool), Hid (Q = true ↔ ∀ i, M.chans.length ≤ i → i < 4 → s.ch.getD i zeroC = zeroC) → Calls Tryd.prog 42 #[.slice (some ac) (4 - M.chans.length) (4 - M.chans.length)] V fun e w' => e = .returned (.bool Q) ∧ Below V.heap.size V w' := fun V hV Q hQ => by
    have := blank_ch (s.ch.drop M.chans.length) (some ac) (4 - M.chans.length) V (by rw [List.map_drop]; exact rc.later hV) (fun x hx => hs.ac x (List.mem_of_mem_drop hx)) Q (by show _ ↔ _; rw [hQ.out, drop_iff _ _ _ 4 hs.lc])
    rwa [List.length_drop, hs.lc] at this
  clear rg rv ro rc
  by_cases hG : ∀ i, s.cnt.toNat ≤ i → i < 6 → s.gos.getD i zeroG = zeroG
  rotate_left
  · have e := Rfalse hR fun q => hG q.g
    subst e
    have xG := cG false ⟨fun q => (by cases q), fun q => absurd q hG⟩
    clear hR cG hG
    go_wp2_with (first
      | (go_at_call 39; (with_reducible refine xG.mono ?_); rintro e w2 ⟨rfl, hb2⟩; clear p0 p1 p2 p3 zc; obtain ⟨p0, p1, p2, p3⟩ := hEH.out.p.later hb2; (have hbE : Hid (Below w.heap.size w w2) := bthen hEH.out.b hb2)))
    go_ret
    exact ⟨rfl, hbE.out⟩
  by_cases hV : tz s.vars M.vars.length
  rotate_left
  · have e := Rfalse hR fun q => hV q.v
    subst e
    have xG := cG true ⟨fun _ => hG, fun _ => rfl⟩
    have yV : Hid (Hid (false = true ↔ (tz s.vars M.vars.length))) := ⟨fun q => (by cases q), fun q => absurd q hV⟩
    clear hR cG hG hV
    go_wp2_with (first
      | (go_at_call 39; (with_reducible refine xG.mono ?_); rintro e w2 ⟨rfl, hb2⟩; clear p0 p1 p2 p3 zc; obtain ⟨p0, p1, p2, p3⟩ := hEH.out.p.later hb2; (have hbE : Hid (Below w.heap.size w w2) := bthen hEH.out.b hb2); (have xV := cV _ hb2 false yV.out))
      | (go_at_call 40; (with_reducible refine xV.mono ?_); rintro e w3 ⟨rfl, rfl⟩))
    go_ret
    exact ⟨rfl, hbE.out⟩
  by_cases hO : tz s.own M.locks.toNat
  rotate_left
  · have e := Rfalse hR fun q => hO q.o
    subst e
    have xG := cG true ⟨fun _ => hG, fun _ => rfl⟩
    have yV : Hid (Hid (true = true ↔ (tz s.vars M.vars.length))) := ⟨fun _ => hV, fun _ => rfl⟩
    have yO : Hid (Hid (false = true ↔ (tz s.own M.locks.toNat))) := ⟨fun q => (by cases q), fun q => absurd q hO⟩
    clear hR cG hG hV hO
    go_wp2_with (first
      | (go_at_call 39; (with_reducible refine xG.mono ?_); rintro e w2 ⟨rfl, hb2⟩; clear p0 p1 p2 p3 zc; obtain ⟨p0, p1, p2, p3⟩ := hEH.out.p.later hb2; (have hbE : Hid (Below w.heap.size w w2) := bthen hEH.out.b hb2); (have xV := cV _ hb2 true yV.out); (have xO := cO _ hb2 false yO.out))
      | (go_at_call 40; (with_reducible refine xV.mono ?_); rintro e w3 ⟨rfl, rfl⟩)
      | (go_at_call 41; (with_reducible refine xO.mono ?_); rintro e w4 ⟨rfl, rfl⟩))
    go_ret
    exact ⟨rfl, hbE.out⟩
  by_cases hC : ∀ i, M.chans.length ≤ i → i < 4 → s.ch.getD i zeroC = zeroC
  rotate_left
  · have e := Rfalse hR fun q => hC q.c
    subst e
    have xG := cG true ⟨fun _ => hG, fun _ => rfl⟩
    have yV : Hid (Hid (true = true ↔ (tz s.vars M.vars.length))) := ⟨fun _ => hV, fun _ => rfl⟩
    have yO : Hid (Hid (true = true ↔ (tz s.own M.locks.toNat))) := ⟨fun _ => hO, fun _ => rfl⟩
    have yC : Hid (Hid (false = true ↔ (∀ i, M.chans.length ≤ i → i < 4 → s.ch.getD i zeroC = zeroC))) := ⟨fun q => (by cases q), fun q => absurd q hC⟩
    clear hR cG hG hV hO hC
    go_wp2_with (first
      | (go_at_call 39; (with_reducible refine xG.mono ?_); rintro e w2 ⟨rfl, hb2⟩; clear p0 p1 p2 p3 zc; obtain ⟨p0, p1, p2, p3⟩ := hEH.out.p.later hb2; (have hbE : Hid (Below w.heap.size w w2) := bthen hEH.out.b hb2); (have xV := cV _ hb2 true yV.out); (have xO := cO _ hb2 true yO.out); (have xC := cC _ hb2 false yC.out))
      | (go_at_call 40; (with_reducible refine xV.mono ?_); rintro e w3 ⟨rfl, rfl⟩)
      | (go_at_call 41; (with_reducible refine xO.mono ?_); rintro e w4 ⟨rfl, rfl⟩)
      | (go_at_call 42; (with_reducible refine xC.mono ?_); rintro e w5 ⟨rfl, hb5⟩))
    go_ret
    exact ⟨rfl, bthen hbE.out hb5⟩
  have e := Rtrue hR ⟨d1, d6, hG, hV, hO, hC⟩
  subst e
  have xG := cG true ⟨fun _ => hG, fun _ => rfl⟩
  have yV : Hid (Hid (true = true ↔ (tz s.vars M.vars.length))) := ⟨fun _ => hV, fun _ => rfl⟩
  have yO : Hid (Hid (true = true ↔ (tz s.own M.locks.toNat))) := ⟨fun _ => hO, fun _ => rfl⟩
  have yC : Hid (Hid (true = true ↔ (∀ i, M.chans.length ≤ i → i < 4 → s.ch.getD i zeroC = zeroC))) := ⟨fun _ => hC, fun _ => rfl⟩
  clear hR cG hG hV hO hC
  go_wp2_with (first
    | (go_at_call 39; (with_reducible refine xG.mono ?_); rintro e w2 ⟨rfl, hb2⟩; clear p0 p1 p2 p3 zc; obtain ⟨p0, p1, p2, p3⟩ := hEH.out.p.later hb2; (have hbE : Hid (Below w.heap.size w w2) := bthen hEH.out.b hb2); (have xV := cV _ hb2 true yV.out); (have xO := cO _ hb2 true yO.out); (have xC := cC _ hb2 true yC.out))
    | (go_at_call 40; (with_reducible refine xV.mono ?_); rintro e w3 ⟨rfl, rfl⟩)
    | (go_at_call 41; (with_reducible refine xO.mono ?_); rintro e w4 ⟨rfl, rfl⟩)
    | (go_at_call 42; (with_reducible refine xC.mono ?_); rintro e w5 ⟨rfl, hb5⟩))
  go_ret
  exact ⟨rfl, bthen hbE.out hb5⟩
end Go.Proofs.YtofeohhnfnnifaaDoor.pg
/- Is each offer of a goroutine that waits for it: package state's offered. -/
namespace Go.Proofs.YtofeohhnfnnifaaDoor.pg
open Go.ChangeShapes Go.WideShapes Go.ChangeAt Go.RowKit
set_option linter.unusedVariables false
set_option linter.unusedSimpArgs false
set_option maxRecDepth 100000
theorem range_of {w : World} {B : Nat} {cs : List Value} {t : TypeId} (h : w.heap[B]? = some (.cells cs.toArray t (0, 0))) (a m c : List Value) (e : cs = a ++ (m ++ c)) (off : Nat) (ho : a.length = off) : w.rangeAt B off m := fun j u hj => by
  refine cell_ofG h ?_
  have hlt := (List.getElem?_eq_some_iff.mp hj).1
  rw [List.getElem?_toArray, e, List.getElem?_append_right (by omega), ho, Nat.add_sub_cancel_left, List.getElem?_append_left hlt]
  exact hj
theorem InS.rangeC {w : World} {B : Nat} {s : Sts} (h : InS w B s) (hw : s.wf) : w.rangeAt B 12 (s.ch.map Chc.cells).flatten :=
  range_of h (ints s.vars ++ ints s.own) _ ((s.gos.map Gr.cells).flatten ++ [.int .i64 s.cnt]) (by rw [List.append_assoc]; rfl) 12 (by simp [hw.lv, hw.lo])
theorem InS.rangeG {w : World} {B : Nat} {s : Sts} (h : InS w B s) (hw : s.wf) : w.rangeAt B 48 (s.gos.map Gr.cells).flatten :=
  range_of h (ints s.vars ++ (ints s.own ++ (s.ch.map Chc.cells).flatten)) _ [.int .i64 s.cnt] (by simp only [List.append_assoc]; rfl) 48 (by simp only [List.length_append, List.length_map, hw.lv, hw.lo, flat_len Chc.cells 9 _ fun c hc => Chc.len (hw.ac c hc), hw.lc])
theorem InS.rangeO {w : World} {B : Nat} {s : Sts} (h : InS w B s) (hw : s.wf) : w.rangeAt B 8 (ints s.own) :=
  range_of h (ints s.vars) _ ((s.ch.map Chc.cells).flatten ++ ((s.gos.map Gr.cells).flatten ++ [.int .i64 s.cnt])) rfl 8 (by simp [hw.lv])
theorem extract_row {α : Type} (C : α → List Value) {k : Nat} (l : List α) (hk : ∀ x ∈ l, (C x).length = k) (i : Nat) (x : α) (hi : l[i]? = some x) : ((l.map C).flatten.toArray).extract (i * k) (i * k + k) = (C x).toArray := by
  rw [List.extract_toArray, List.extract_eq_take_drop, show i * k + k - i * k = k by omega, flat_part C l hk i x hi]
theorem ixv_ch {s : Sts} (hs : s.wf) (i : Nat) (c : Chc) (hi : s.ch[i]? = some c) (w : World) : (Instr.index 33 (.agg (s.ch.map Chc.cells).flatten.toArray) (.int .i64 (i : Int))).run Tryd.prog w = .ok c.vl w := by
  have hl : i < 4 := by have := (List.getElem?_eq_some_iff.mp hi).1; rw [hs.lc] at this; exact this
  have q1 : (i : Int) < 4 := by omega
  have q2 : (0 : Int) ≤ i := by omega
  have u := Tryd.underlying33
  have z := Tryd.sizeOf32
  have g := Tryd.isAgg32
  simp [Instr.index, run_underlying u, asIntOf, go_sem, z, g, q1, q2, part, hl]
  exact flat_part Chc.cells s.ch (fun c hc => Chc.len (hs.ac c hc)) i c hi
theorem ixv_go {s : Sts} (hs : s.wf) (i : Nat) (c : Gr) (hi : s.gos[i]? = some c) (w : World) : (Instr.index 36 (.agg (s.gos.map Gr.cells).flatten.toArray) (.int .i64 (i : Int))).run Tryd.prog w = .ok c.val w := by
  have hl : i < 6 := by have := (List.getElem?_eq_some_iff.mp hi).1; rw [hs.lg] at this; exact this
  have q1 : (i : Int) < 6 := by omega
  have q2 : (0 : Int) ≤ i := by omega
  have u := Tryd.underlying36
  have z := Tryd.sizeOf35
  have g := Tryd.isAgg35
  simp [Instr.index, run_underlying u, asIntOf, go_sem, z, g, q1, q2, part, hl]
  exact flat_part Gr.cells s.gos (fun c hc => Gr.len (hs.ag c hc)) i c hi
theorem ixv_own {s : Sts} (hs : s.wf) (i : Nat) (x : Int) (hi : s.own[i]? = some x) (w : World) : (Instr.index 29 (.agg (ints s.own).toArray) (.int .i64 (i : Int))).run Tryd.prog w = .ok (.int .i64 x) w := by
  have hl : i < 4 := by have := (List.getElem?_eq_some_iff.mp hi).1; rw [hs.lo] at this; exact this
  have q1 : (i : Int) < 4 := by omega
  have q2 : (0 : Int) ≤ i := by omega
  have u := Tryd.underlying29
  have z := Tryd.sizeOf3
  have g := Tryd.isAgg3
  simp [Instr.index, run_underlying u, asIntOf, go_sem, z, g, q1, q2, part, hl, hi]
theorem ixp {t e : TypeId} {n k : Nat} (hu : Tryd.prog.underlying t = some (.array n e)) (hz : ∀ wx, (sizeOf e).run Tryd.prog wx = .ok k wx) (B off : Nat) (a : Int) (h0 : 0 ≤ a) (h1 : a < n) : ∀ wx, (Instr.indexAt t (.pointer (some ⟨B, off, none⟩)) (.int .i64 a)).run Tryd.prog wx = .ok (.pointer (some ⟨B, off + a.toNat * k, none⟩)) wx := by
  intro wx
  simp [Instr.indexAt, run_underlying hu, asIntOf, go_sem, hz, Instr.sureAddr, h0, h1, add_none]
def offL (s : Sts) (k : Nat) : List Int := (List.range 6).map fun g : Nat => offs s (g : Int) k
theorem offL_zero (s : Sts) : offL s 0 = [0, 0, 0, 0, 0, 0] := rfl
theorem offs_bd (s : Sts) (g : Int) : ∀ k, 0 ≤ offs s g k ∧ offs s g k ≤ k
  | 0 => ⟨by unfold offs; omega, by unfold offs; omega⟩
  | k + 1 => by have := offs_bd s g k; unfold offs; split <;> omega
theorem offL_at (s : Sts) (k : Nat) {g : Nat} (h : g < 6) : (ints (offL s k)).toArray[g]? = some (.int .i64 (offs s g k)) := by simp [offL, h]
theorem offL_same {s : Sts} {k : Nat} (h : (chAt s k).off = 0) : offL s (k + 1) = offL s k := by
  unfold offL
  apply List.map_congr_left
  intro g _
  show offs s g k + (if _ then 1 else 0) = _
  rw [if_neg (fun q => q.1 h)]
  omega
theorem offL_more {s : Sts} {k : Nat} (h : (chAt s k).off ≠ 0) (h0 : 0 ≤ (chAt s k).frm) (h6 : (chAt s k).frm < 6) : (ints (offL s k)).toArray.setIfInBounds (chAt s k).frm.toNat (.int .i64 (offs s (chAt s k).frm k + 1)) = (ints (offL s (k + 1))).toArray := by
  rw [List.setIfInBounds_toArray]
  congr 1
  apply List.ext_getElem?
  intro i
  rw [List.getElem?_set]
  simp only [ints, offL, List.length_map, List.length_range, List.getElem?_map]
  by_cases c : (chAt s k).frm.toNat = i
  · rw [if_pos c, if_pos (by omega)]
    have hi : i < 6 := by omega
    rw [List.getElem?_range hi]
    simp only [Option.map_some]
    have e : ((i : Nat) : Int) = (chAt s k).frm := by omega
    show some _ = some (Value.int .i64 (offs s i k + (if _ then 1 else 0)))
    rw [e, if_pos ⟨h, rfl⟩]
  · rw [if_neg c]
    by_cases hi : i < 6
    · rw [List.getElem?_range hi]
      simp only [Option.map_some]
      show some (Value.int .i64 (offs s i k)) = some (Value.int .i64 (offs s i k + (if _ then 1 else 0)))
      rw [if_neg (fun q => c (by omega))]
      congr 2
      omega
    · rw [List.getElem?_eq_none (by simp; omega)]
      rfl
theorem ch_getD {s : Sts} {k : Nat} {c : Chc} (h : s.ch[k]? = some c) : chAt s k = c := by unfold chAt; rw [List.getD_eq_getElem?_getD, h]; rfl
theorem go_getD {s : Sts} {k : Nat} {c : Gr} (h : s.gos[k]? = some c) : s.gos.getD k zeroG = c := by rw [List.getD_eq_getElem?_getD, h]; rfl
/-- Where all lies between two rounds. -/
structure OfS (w wr : World) (M : MPr) (s : Sts) (k : Nat) : Prop where
  ps : PS w wr M s
  arr : wr.heap[w.heap.size + 2]? = some (.cells (ints (offL s k)).toArray 98)
theorem OfS.later {w wr w' : World} {M : MPr} {s : Sts} {k : Nat} (h : OfS w wr M s k) (hb : Below wr.heap.size wr w') : OfS w w' M s k := ⟨h.ps.later hb, (hb.block _ (Array.getElem?_eq_some_iff.mp h.arr).1).trans h.arr⟩
def off1 (P : Pr) (s : Sts) (n : Nat) : Prop := (chAt s n).off ≠ 0 → 0 ≤ (chAt s n).frm ∧ (chAt s n).frm < s.cnt ∧ sendsC P (goAt s (chAt s n).frm) n
set_option maxHeartbeats 4000000 in
theorem offered_any (M : MPr) (s : Sts) (hs : s.wf) (c1 : 1 ≤ s.cnt) (c6 : s.cnt ≤ 6) (hst : ∀ i, i < s.cnt.toNat → stands M.pr (s.gos.getD i zeroG)) (w : World) (hM : M.lies w) (R : Bool) (hR : Hid (R = true ↔ offered M.pr s)) :
    Calls Tryd.prog 28 #[M.val, s.val] w fun e w' => e = .returned (.bool R) ∧ Below w.heap.size w w' := by
  obtain ⟨q1, q2, q3⟩ := three_boxes w (objP M) (objSt s) (.cells (ints (offL s 0)).toArray 98)
  have hE : Hid (OfS w (((w.alloc (objP M)).alloc (objSt s)).alloc (.cells (ints (offL s 0)).toArray 98)) M s 0) := ⟨⟨boxed3 _ _ _ _, ⟨cell_ofG q1 rfl, cell_ofG q1 rfl, cell_ofG q1 rfl, cell_ofG q1 rfl⟩, q2⟩, q3⟩
  clear q1 q2 q3
  have hMH : Hid (M.lies w) := hM
  have hsH : Hid s.wf := hs
  have hstH : Hid (∀ i, i < s.cnt.toNat → stands M.pr (s.gos.getD i zeroG)) := hst
  have infC : Hid ((Tryd.prog.info? 33).map (·.size) = some (s.ch.map Chc.cells).flatten.length) := by show _ = _; rw [flat_len Chc.cells 9 _ fun c hc => Chc.len (hs.ac c hc), hs.lc]; kernel_rfl
  have infG : Hid ((Tryd.prog.info? 36).map (·.size) = some (s.gos.map Gr.cells).flatten.length) := by show _ = _; rw [flat_len Gr.cells 12 _ fun c hc => Gr.len (hs.ag c hc), hs.lg]; kernel_rfl
  have huC : Hid (Tryd.prog.underlying 33 = _) := Tryd.underlying33
  have huG : Hid (Tryd.prog.underlying 36 = _) := Tryd.underlying36
  have huc : Hid (Tryd.prog.underlying 32 = _) := Tryd.underlying32
  have hug : Hid (Tryd.prog.underlying 35 = _) := Tryd.underlying35
  have hchl := hs.lc
  have hgol := hs.lg
  clear hM hst hs
  go_enter Tryd.func28, Tryd.ntmps28
  go_upto_region 2 with fail
  rw [show (Obj.cells #[.int .i64 0, .int .i64 0, .int .i64 0, .int .i64 0, .int .i64 0, .int .i64 0] 98) = .cells (ints (offL s 0)).toArray 98 from rfl]
  generalize ((w.alloc (objP M)).alloc (objSt s)).alloc (.cells (ints (offL s 0)).toArray 98) = W at *
  have rC : Hid (W.rangeAt (w.heap.size + 1) 12 (s.ch.map Chc.cells).flatten) := hE.out.ps.sb.rangeC hsH.out
  go_wp2_with (refine wpList_load_mid rfl 33 _ rfl (w.heap.size + 1) 12 rfl _ _ rC.out huC.out rfl infC.out ?_)
  try simp only [Act.put, List.setIfInBounds_toArray, List.set_cons_zero, List.set_cons_succ]
  go_loopw [12] (fun u wr => ∃ k : Nat, k ≤ 4 ∧ u = .int .i64 (k : Int) ∧ Hid (OfS w wr M s k) ∧ Hid (∀ n, n < k → off1 M.pr s n)) (fun u _ => 4 - (intOf u).toNat)
  case atStart => exact ⟨0, by omega, rfl, hE, fun n hn => by omega⟩
  case round =>
    clear hE rC
    obtain ⟨k, hk, rfl, ho, hd⟩ := hrel
    by_cases hlt : k < 4
    · obtain ⟨c, hc, hcm⟩ := get_lt s.ch k (by omega)
      have ec := ch_getD hc
      have hcw := hsH.out.ac c hcm
      have hix := ixv_ch hsH.out k c hc
      have hkI : (k : Int) < 4 := by omega
      have hinfA : Hid ((Tryd.prog.info? 32).map (·.size) = some c.cells.toArray.size) := infoC hcw
      have hone := oneC c
      obtain ⟨ZI, hZ1, hZ2, _⟩ := zero_big (P := Tryd.prog) (t := 32) (n := 9) (by kernel_rfl)
      have hsz : Hid (ZI.size = c.cells.toArray.size) := by show _ = _; rw [hZ2, List.size_toArray, Chc.len hcw]
      have hzi : (wr.alloc (.cells ZI 32)).heap[wr.heap.size]? = some (.cells ZI 32) := heap_alloc_new wr _
      have hbw : Below wr.heap.size wr ((wr.alloc (.cells ZI 32)).setRow wr.heap.size c.cells.toArray) := below_setRowG (boxed _ _) (Nat.le_refl _) _
      have hV : Hid (OfS w ((wr.alloc (.cells ZI 32)).setRow wr.heap.size c.cells.toArray) M s k) := ho.out.later hbw
      have hCb : Hid (InC ((wr.alloc (.cells ZI 32)).setRow wr.heap.size c.cells.toArray) wr.heap.size c) := setRow_heap _ _ _ _ _ _ hzi
      have hlo : w.heap.size + 2 < wr.heap.size := (Array.getElem?_eq_some_iff.mp ho.out.arr).1
      clear hbw hZ2 ho
      go_upto_region 5 with (first
        | (refine wpList_alloc_big rfl 32 rfl hZ1 ?_)
        | (refine wpList_store_row rfl 32 _ _ rfl wr.heap.size c.cells.toArray rfl rfl _ _ hzi hinfA.out hsz.out hone ?_))
      try simp only [Act.put, List.setIfInBounds_toArray, List.set_cons_zero, List.set_cons_succ]
      generalize (wr.alloc (.cells ZI 32)).setRow wr.heap.size c.cells.toArray = V at *
      generalize wr.heap.size = CB at *
      clear hzi hZ1 hsz hone hinfA hix
      have z6 := hCb.out.at hcw 2 _ rfl
      have z7 := hCb.out.at hcw 3 _ rfl
      simp only [Nat.reduceAdd] at z6 z7
      have hcwH : Hid c.wf := hcw
      clear hcw hc hcm
      by_cases o0 : c.off = 0
      · have eo := offL_same (s := s) (k := k) (by rw [ec]; exact o0)
        have hV2 : Hid (OfS w V M s (k + 1)) := ⟨hV.out.ps, by rw [eo]; exact hV.out.arr⟩
        have hd2 : Hid (∀ n, n < k + 1 → off1 M.pr s n) := fun n hn => by
          by_cases q : n = k
          · subst q; intro z; rw [ec] at z; exact absurd o0 z
          · exact hd.out n (by omega)
        rw [o0] at z6
        clear eo o0 hd hV ec
        go_wp2
        go_roundw
        case rel => exact ⟨k + 1, by omega, by go_num, hV2, hd2⟩
        case measure => simp [intOf]; omega
      · have e0 : (c.off == 0) = false := by simpa using o0
        have hno : ¬ off1 M.pr s k → R = false := fun q => Rfalse hR fun z => q fun y => z.1 k hlt y
        have h1k : off1 M.pr s k ↔ (0 ≤ c.frm ∧ c.frm < s.cnt ∧ sendsC M.pr (goAt s c.frm) k) := by
          unfold off1
          rw [ec]
          exact ⟨fun q => q o0, fun q _ => q⟩
        have zc := hV.out.ps.sb.cnt hsH.out
        obtain ⟨p0, p1, p2, p3⟩ := hV.out.ps.p
        have s0 := fun s => bey_cell z7 s
        have s1 := fun s => bey_cell zc s
        have t0 := fun s => bey_cell p0 s
        have t1 := fun s => bey_cell p1 s
        have t2 := fun s => bey_cell p2 s
        have t3 := fun s => bey_cell p3 s
        have hne := bey_some V
        by_cases f0 : c.frm < 0
        · have e := hno fun q => by have := (h1k.mp q).1; omega
          subst e
          clear hno h1k hR hd o0
          go_wp2_with fail
          refine wp_region_cls (Bey V) (by kernel_rfl) (by kernel_rfl) (bey_drew V) ?_
          repeat (go_big_quiet_step (fail))
          refine wpQuiet_nil ?_
          intro _ hw'
          obtain ⟨sq, hw''⟩ := hw'
          subst hw''
          clear s0 s1 t0 t1 t2 t3 hne
          go_wp2
          go_ret
          exact ⟨rfl, bthen hV.out.ps.b sq.h⟩
        by_cases f1 : c.frm < s.cnt
        · obtain ⟨g, hg, hgm⟩ := get_lt s.gos c.frm.toNat (by omega)
          have eg : goAt s c.frm = g := go_getD hg
          have hgs : stands M.pr g := by have := hstH.out c.frm.toNat (by omega); rwa [go_getD hg] at this
          have hgr := ((hV.out.ps.sb.gos hsH.out).row (i := c.frm.toNat) (row := g.cells) (by rw [List.getElem?_map, hg]; rfl))
          have hgR : Hid (V.rangeAt (w.heap.size + 1) (48 + c.frm.toNat * 12) g.cells) := by
            obtain ⟨b, off, ha, _, hc⟩ := hgr
            simp only [Option.some.injEq, Addr.mk.injEq, and_true] at ha
            obtain ⟨rfl, rfl⟩ := ha
            intro j u hj
            rw [Nat.add_assoc]
            exact hc j u hj
          have tg : ∀ x : Cls (Bey V), x.w.rangeAt (w.heap.size + 1) (48 + c.frm.toNat * 12) g.cells := fun x j u hj => bey_cell (hgR.out j u hj) x
          have hpx := ixp (t := 36) Tryd.underlying36 (fun wx => Tryd.sizeOf35 wx) (w.heap.size + 1) 48 c.frm (by omega) (by omega)
          have hginf : Hid ((Tryd.prog.info? 35).map (·.size) = some g.cells.length) := by have := infoGw (hsH.out.ag g hgm); rwa [List.size_toArray] at this
          rw [eg] at h1k
          have fl : ((M.fns.map MFn.fn).length : Int) = M.fns.length := by rw [List.length_map]
          have cS : ∀ (Q : Bool), Hid (Q = true ↔ sendsC M.pr g k) → ∀ x : Cls (Bey V), Calls Tryd.prog 44 #[M.val, g.val, .int .i64 (k : Int)] x.w fun e w' => e = .returned (.bool Q) ∧ Below x.w.heap.size x.w w' := fun Q hQ x => sends_any M g k hgs.1 (by have := hgs.2.1; show g.fn < (M.fns.length : Int); rw [← fl]; exact this) hgs.2.2.1 hgs.2.2.2.1 x.w (hMH.out.later (bthen hV.out.ps.b x.h)) Q hQ
          have d0 : decide (c.frm < 0) = false := decide_eq_false f0
          have d1 : decide (s.cnt ≤ c.frm) = false := decide_eq_false (by omega)
          by_cases sy : sendsC M.pr g k
          · have cX := cS true ⟨fun _ => sy, fun _ => rfl⟩
            have hd2 : Hid (∀ n, n < k + 1 → off1 M.pr s n) := fun n hn => by
              by_cases q : n = k
              · subst q; exact h1k.mpr ⟨by omega, f1, sy⟩
              · exact hd.out n (by omega)
            have em := offL_more (s := s) (k := k) (by rw [ec]; exact o0) (by rw [ec]; omega) (by rw [ec]; omega)
            rw [ec] at em
            have emH : Hid _ := em
            have obd := offs_bd s c.frm k
            clear hno h1k hR hd o0 cS sy hgs hgr hgm hg eg em fl ec
            go_wp2_with fail
            refine wp_region_cls (Bey V) (by kernel_rfl) (by kernel_rfl) (bey_drew V) ?_
            repeat (first
              | (go_big_quiet_want; (refine quiet_load_mid 35 _ rfl (w.heap.size + 1) (48 + c.frm.toNat * 12) rfl _ _ tg hug.out rfl hginf.out ?_); (simp only [Act.put, List.setIfInBounds_toArray, List.set_cons_zero, List.set_cons_succ]); go_big_quiet_on)
              | go_big_quiet_step ((go_at_call 44; exact calls_bey (cX _))))
            refine wpQuiet_nil ?_
            intro _ hw'
            obtain ⟨sq, hw''⟩ := hw'
            subst hw''
            have hVq : Hid (OfS w sq.w M s k) := hV.out.later sq.h
            have hCq := hCb.out.later sq.h
            have y7 := hCq.at hcwH.out 3 _ rfl
            simp only [Nat.reduceAdd] at y7
            clear s0 s1 t0 t1 t2 t3 hne tg cX hpx p0 p1 p2 p3 z6 z7 zc hCq hV
            generalize sq.w = U at *
            have hox := ixp (t := 98) Tryd.underlying98 (fun wx => Tryd.sizeOf3 wx) (w.heap.size + 2) 0 c.frm (by omega) (by omega)
            have hoa : 0 + c.frm.toNat * 1 = c.frm.toNat := by omega
            rw [hoa] at hox
            have fe : ((c.frm.toNat : Nat) : Int) = c.frm := by omega
            have hoc : U.cell? ⟨w.heap.size + 2, c.frm.toNat, none⟩ = some (.int .i64 (offs s c.frm k)) := cell_ofG hVq.out.arr (by rw [offL_at s k (by omega), fe])
            have hof : U.frozen? ⟨w.heap.size + 2, c.frm.toNat, none⟩ = false := frozen_of_row _ _ _ _ _ hVq.out.arr
            have how : wrap64 (offs s c.frm k + 1) = offs s c.frm k + 1 := by unfold wrap64; omega
            clear hoa fe
            generalize offs s c.frm k = ov at *
            go_wp2_with (refine wpList_puti rfl 3 _ _ rfl ⟨w.heap.size + 2, c.frm.toNat, none⟩ rfl (ov + 1) (by rw [← how]; rfl) (by kernel_rfl) _ hoc hof ?_; intro W1 hW1; (have hV2 : Hid (OfS w W1 M s (k + 1)) := by rw [hW1, setCell_eq_setRow U (w.heap.size + 2) c.frm.toNat _ _ _ _ hVq.out.arr, emH.out]; exact ⟨⟨below_setRowG hVq.out.ps.b (by omega) _, ⟨(by have := hVq.out.ps.p.1; simpa [World.cell?, setRow_other U (w.heap.size + 2) w.heap.size _ (by omega)] using this), (by have := hVq.out.ps.p.2.1; simpa [World.cell?, setRow_other U (w.heap.size + 2) w.heap.size _ (by omega)] using this), (by have := hVq.out.ps.p.2.2.1; simpa [World.cell?, setRow_other U (w.heap.size + 2) w.heap.size _ (by omega)] using this), (by have := hVq.out.ps.p.2.2.2; simpa [World.cell?, setRow_other U (w.heap.size + 2) w.heap.size _ (by omega)] using this)⟩, (setRow_other _ _ _ _ (by omega)).trans hVq.out.ps.sb⟩, setRow_heap _ _ _ _ _ _ hVq.out.arr⟩); clear hW1 hoc hof y7)
            go_roundw
            case rel => exact ⟨k + 1, by omega, by go_num, hV2, hd2⟩
            case measure => simp [intOf]; omega
          · have cX := cS false ⟨fun q => (by cases q), fun q => absurd q sy⟩
            have e := hno fun q => sy (h1k.mp q).2.2
            subst e
            clear hno h1k hR hd o0 cS sy hgs hgr hgm hg eg fl ec
            go_wp2_with fail
            refine wp_region_cls (Bey V) (by kernel_rfl) (by kernel_rfl) (bey_drew V) ?_
            repeat (first
              | (go_big_quiet_want; (refine quiet_load_mid 35 _ rfl (w.heap.size + 1) (48 + c.frm.toNat * 12) rfl _ _ tg hug.out rfl hginf.out ?_); (simp only [Act.put, List.setIfInBounds_toArray, List.set_cons_zero, List.set_cons_succ]); go_big_quiet_on)
              | go_big_quiet_step ((go_at_call 44; exact calls_bey (cX _))))
            refine wpQuiet_nil ?_
            intro _ hw'
            obtain ⟨sq, hw''⟩ := hw'
            subst hw''
            clear s0 s1 t0 t1 t2 t3 hne tg cX hpx
            go_wp2
            go_ret
            exact ⟨rfl, bthen hV.out.ps.b sq.h⟩
        · have e := hno fun q => f1 (h1k.mp q).2.1
          subst e
          have d0 : decide (c.frm < 0) = false := decide_eq_false f0
          have d1 : decide (s.cnt ≤ c.frm) = true := decide_eq_true (by omega)
          clear hno h1k hR hd o0 f1
          go_wp2_with fail
          refine wp_region_cls (Bey V) (by kernel_rfl) (by kernel_rfl) (bey_drew V) ?_
          repeat (go_big_quiet_step (fail))
          refine wpQuiet_nil ?_
          intro _ hw'
          obtain ⟨sq, hw''⟩ := hw'
          subst hw''
          clear s0 s1 t0 t1 t2 t3 hne
          go_wp2
          go_ret
          exact ⟨rfl, bthen hV.out.ps.b sq.h⟩
    · have hk4 : k = 4 := by omega
      subst hk4
      have rG : Hid (wr.rangeAt (w.heap.size + 1) 48 (s.gos.map Gr.cells).flatten) := ho.out.ps.sb.rangeG hsH.out
      clear hlt hk
      go_wp2_with (refine wpList_load_mid rfl 36 _ rfl (w.heap.size + 1) 48 rfl _ _ rG.out huG.out rfl infG.out ?_)
      try simp only [Act.put, List.setIfInBounds_toArray, List.set_cons_zero, List.set_cons_succ]
      clear rG
      generalize hWW : wr = W4 at *
      clear hWW
      go_loopw [49] (fun u wr => ∃ k : Nat, k ≤ 6 ∧ u = .int .i64 (k : Int) ∧ Hid (OfS w wr M s 4) ∧ Hid (∀ g, g < k → (s.gos.getD g zeroG).st = 2 → offs s g 4 = 1)) (fun u _ => 6 - (intOf u).toNat)
      case atStart => exact ⟨0, by omega, rfl, ho, fun n hn => by omega⟩
      case round =>
        clear ho
        obtain ⟨k, hk, rfl, ho, hd3⟩ := hrel
        by_cases hlt : k < 6
        · obtain ⟨g, hg, hgm⟩ := get_lt s.gos k (by omega)
          have eg := go_getD hg
          have hgw := hsH.out.ag g hgm
          have hix := ixv_go hsH.out k g hg
          have hkI : (k : Int) < 6 := by omega
          have hinfA : Hid ((Tryd.prog.info? 35).map (·.size) = some g.cells.toArray.size) := infoGw hgw
          have hone := oneG g
          obtain ⟨ZI, hZ1, hZ2, _⟩ := zero_big (P := Tryd.prog) (t := 35) (n := 12) (by kernel_rfl)
          have hsz : Hid (ZI.size = g.cells.toArray.size) := by show _ = _; rw [hZ2, List.size_toArray, Gr.len hgw]
          have hzi : (wr.alloc (.cells ZI 35)).heap[wr.heap.size]? = some (.cells ZI 35) := heap_alloc_new wr _
          have hbw : Below wr.heap.size wr ((wr.alloc (.cells ZI 35)).setRow wr.heap.size g.cells.toArray) := below_setRowG (boxed _ _) (Nat.le_refl _) _
          have hV : Hid (OfS w ((wr.alloc (.cells ZI 35)).setRow wr.heap.size g.cells.toArray) M s 4) := ho.out.later hbw
          have hGb : Hid (InG ((wr.alloc (.cells ZI 35)).setRow wr.heap.size g.cells.toArray) wr.heap.size g) := setRow_heap _ _ _ _ _ _ hzi
          clear hbw hZ2 ho
          go_upto_region 13 with (first
            | (refine wpList_alloc_big rfl 35 rfl hZ1 ?_)
            | (refine wpList_store_row rfl 35 _ _ rfl wr.heap.size g.cells.toArray rfl rfl _ _ hzi hinfA.out hsz.out hone ?_))
          try simp only [Act.put, List.setIfInBounds_toArray, List.set_cons_zero, List.set_cons_succ]
          generalize (wr.alloc (.cells ZI 35)).setRow wr.heap.size g.cells.toArray = V at *
          generalize wr.heap.size = CB at *
          clear hzi hZ1 hsz hone hinfA hix hgw hgm hg
          have z0 := hGb.out.c0
          have hox := ixp (t := 98) Tryd.underlying98 (fun wx => Tryd.sizeOf3 wx) (w.heap.size + 2) 0 (k : Int) (by omega) (by omega)
          have hoa : 0 + ((k : Int)).toNat * 1 = k := by omega
          rw [hoa] at hox
          have hoc : V.cell? ⟨w.heap.size + 2, k, none⟩ = some (.int .i64 (offs s k 4)) := cell_ofG hV.out.arr (by rw [offL_at s 4 (by omega)])
          clear hoa
          by_cases s2 : g.st = 2
          · rw [s2] at z0
            by_cases n1 : offs s k 4 = 1
            · rw [n1] at hoc
              have hd4 : Hid (∀ g, g < k + 1 → (s.gos.getD g zeroG).st = 2 → offs s g 4 = 1) := fun n hn q => by
                by_cases e : n = k
                · subst e; exact n1
                · exact hd3.out n (by omega) q
              clear n1 s2 hd3 eg
              go_wp2
              go_roundw
              case rel => exact ⟨k + 1, by omega, by go_num, hV, hd4⟩
              case measure => simp [intOf]; omega
            · have e := Rfalse hR fun q => n1 (q.2 k hlt (by rw [eg]; exact s2))
              subst e
              have d : (offs s k 4 != 1) = true := by simpa using n1
              generalize offs s k 4 = ov at *
              clear hR n1 s2 hd3 eg hd
              go_wp2
              go_ret
              exact ⟨rfl, hV.out.ps.b⟩
          · have d : (g.st == 2) = false := by simpa using s2
            have hd4 : Hid (∀ g, g < k + 1 → (s.gos.getD g zeroG).st = 2 → offs s g 4 = 1) := fun n hn q => by
              by_cases e : n = k
              · subst e; rw [eg] at q; exact absurd q s2
              · exact hd3.out n (by omega) q
            clear s2 hd3 eg
            go_wp2
            go_roundw
            case rel => exact ⟨k + 1, by omega, by go_num, hV, hd4⟩
            case measure => simp [intOf]; omega
        · have hk6 : k = 6 := by omega
          subst hk6
          have e := Rtrue hR ⟨fun n hn => hd.out n hn, fun g hg => hd3.out g hg⟩
          subst e
          clear hR hd hd3 hlt hk
          go_wp2
          go_ret
          exact ⟨rfl, ho.out.ps.b⟩
end Go.Proofs.YtofeohhnfnnifaaDoor.pg
