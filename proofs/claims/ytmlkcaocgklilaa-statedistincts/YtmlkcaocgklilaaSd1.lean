/- Distinct of package state. -/
import Derived.Test.YtmlkcaocgklilaaSd0
import Derived.Test.YtmlkcaocgklilaaMk
import Derived.Deep.DeepCutAuto
namespace Go.Proofs.Ytmlkcaocgklilaa.pg
open Go.ChangeShapes Go.WideShapes Go.ChangeAt Go.RowKit
set_option linter.unusedVariables false
set_option linter.unusedSimpArgs false
set_option maxRecDepth 100000
attribute [local go_sem ↓] Go.wp_at_zero Go.wp_at_succ
theorem infoN_q : (Try.prog.info? 3).map (fun i => (i.zero, i.size, i.bytes)) = some (some (.int .i64 0), 1, 8) := by kernel_rfl
/-- How far Distinct has come. -/
structure DSt (w : World) (B g n j : Nat) (ks : List Lit) (P : Nat → Nat) (wr : World) : Prop where
  be : Below w.heap.size w wr
  mp : MapD wr B j ks P
  gt : g < wr.heap.size
  wh : ∃ cur : Array Value, wr.heap[g]? = some (.cells cur 3 (0, 0)) ∧ cur.size = n ∧ ∀ i, i < j → cur[i]? = some (.int .i64 (P i : Int))
theorem set_at {w : World} {g j : Nat} {cur : Array Value} {t : TypeId} {v : Value} (h : w.heap[g]? = some (.cells cur t (0, 0))) : (w.setCell ⟨g, j, none⟩ v).heap[g]? = some (.cells (cur.setIfInBounds j v) t (0, 0)) := by
  simp [World.setCell, Array.getElem?_modify, h]
theorem set_else {w : World} {g j b : Nat} {v : Value} (h : b ≠ g) : (w.setCell ⟨g, j, none⟩ v).heap[b]? = w.heap[b]? := by
  simp [World.setCell, Array.getElem?_modify, Ne.symm h]
theorem DSt.fill {w : World} {B g n j : Nat} {ks : List Lit} {P : Nat → Nat} {wr : World} (hg : w.heap.size ≤ g) (hne : B ≠ g) (st : DSt w B g n j ks P wr) (hm : MapD wr B (j + 1) ks P) (hj : j < n) : DSt w B g n (j + 1) ks P (wr.setCell ⟨g, j, none⟩ (.int .i64 (P j : Int))) := by
  obtain ⟨cur, h1, h2, h3⟩ := st.wh
  refine ⟨st.be.setCell hg _, hm.kept (set_else hne), by rw [World.size_setCell]; exact st.gt, cur.setIfInBounds j _, set_at h1, by simpa using h2, fun i hi => ?_⟩
  by_cases e : i = j
  · subst e; rw [Array.getElem?_setIfInBounds_self_of_lt (by omega)]
  · rw [Array.getElem?_setIfInBounds_ne (by omega)]
    exact h3 i (by omega)
theorem DSt.later {w : World} {B g n j : Nat} {ks : List Lit} {P : Nat → Nat} {wr w' : World} (st : DSt w B g n j ks P wr) (hb : Below wr.heap.size wr w') : DSt w B g n j ks P w' := by
  obtain ⟨cur, h1, h2, h3⟩ := st.wh
  exact ⟨bthen st.be hb, st.mp.kept (hb.block B st.mp.lt), Nat.lt_of_lt_of_le st.gt hb.size, cur, (hb.block g st.gt).trans h1, h2, h3⟩
theorem DSt.grown {w : World} {B g n j : Nat} {ks : List Lit} {P : Nat → Nat} {wr w' : World} (hB : w.heap.size ≤ B) (hne : g ≠ B) (st : DSt w B g n j ks P wr) (hg : wr.grownBy w' (some B)) (hm : MapD w' B (j + 1) ks P) : Below w.heap.size w w' ∧ g < w'.heap.size ∧ ∃ cur : Array Value, w'.heap[g]? = some (.cells cur 3 (0, 0)) ∧ cur.size = n ∧ ∀ i, i < j → cur[i]? = some (.int .i64 (P i : Int)) := by
  obtain ⟨cur, h1, h2, h3⟩ := st.wh
  have hs := st.be.size
  exact ⟨st.be.trans ⟨hg.os, hg.tape, hg.output, hg.size, fun i hi => hg.block i (by omega) (by simp; omega)⟩, Nat.lt_of_lt_of_le st.gt hg.size, cur, (hg.block g st.gt (by simp [hne])).trans h1, h2, h3⟩
theorem whole_at {w : World} {g n j : Nat} {P : Nat → Nat} (h : ∃ cur : Array Value, w.heap[g]? = some (.cells cur 3 (0, 0)) ∧ cur.size = n ∧ ∀ i, i < j → cur[i]? = some (.int .i64 (P i : Int))) (hj : j < n) : ∃ v, w.cell? ⟨g, j, none⟩ = some v ∧ w.frozen? ⟨g, j, none⟩ = false := by
  obtain ⟨cur, h1, h2, _⟩ := h
  exact ⟨cur[j]'(by omega), by simp [World.cell?, h1, h2, hj], by simp [World.frozen?, h1]⟩
theorem DSt.at {w : World} {B g n j : Nat} {ks : List Lit} {P : Nat → Nat} {wr : World} (st : DSt w B g n j ks P wr) (hj : j < n) : ∃ v, wr.cell? ⟨g, j, none⟩ = some v ∧ wr.frozen? ⟨g, j, none⟩ = false := whole_at st.wh hj
theorem fill2 {w : World} {B g n j : Nat} {ks : List Lit} {P : Nat → Nat} {wr : World} (hg : w.heap.size ≤ g) (hne : B ≠ g) (hb : Below w.heap.size w wr) (hgt : g < wr.heap.size) (hwh : ∃ cur : Array Value, wr.heap[g]? = some (.cells cur 3 (0, 0)) ∧ cur.size = n ∧ ∀ i, i < j → cur[i]? = some (.int .i64 (P i : Int))) (hm : MapD wr B (j + 1) ks P) (hj : j < n) : DSt w B g n (j + 1) ks P (wr.setCell ⟨g, j, none⟩ (.int .i64 (P j : Int))) := by
  obtain ⟨cur, h1, h2, h3⟩ := hwh
  refine ⟨hb.setCell hg _, hm.kept (set_else hne), by rw [World.size_setCell]; exact hgt, cur.setIfInBounds j _, set_at h1, by simpa using h2, fun i hi => ?_⟩
  by_cases e : i = j
  · subst e; rw [Array.getElem?_setIfInBounds_self_of_lt (by omega)]
  · rw [Array.getElem?_setIfInBounds_ne (by omega)]
    exact h3 i (by omega)
theorem range_grow {w w' : World} {B b : Nat} {cs : List Value} (h : w.rangeAt B 0 cs) (hB : B < w.heap.size) (hne : B ≠ b) (hg : w.grownBy w' (some b)) : w'.rangeAt B 0 cs := fun j v hv => by
  have := h j v hv
  unfold World.cell? at this ⊢
  rw [hg.block B hB (by simp [hne])]
  exact this
theorem rows_cur {w : World} {g n : Nat} {P : Nat → Nat} (h : ∃ cur : Array Value, w.heap[g]? = some (.cells cur 3 (0, 0)) ∧ cur.size = n ∧ ∀ i, i < n → cur[i]? = some (.int .i64 (P i : Int))) (hn : n ≤ 9223372036854775807) : Rows w 1 (some ⟨g, 0, none⟩) n (((List.range n).map fun i => (P i : Int)).map chCells) := by
  obtain ⟨cur, h1, h2, h3⟩ := h
  refine ⟨by simp, hn, by simp, .inr ⟨g, 0, rfl, (Array.getElem?_eq_some_iff.mp h1).1, fun i row hi => ?_⟩⟩
  simp only [List.map_map, List.getElem?_map, Option.map_eq_some_iff] at hi
  obtain ⟨k, hk, rfl⟩ := hi
  have hkl := (List.getElem?_eq_some_iff.mp hk).1
  have hke := (List.getElem?_eq_some_iff.mp hk).2
  simp at hkl hke
  subst hke
  refine ⟨rfl, fun j u hj => ?_⟩
  match j with
  | 0 =>
    simp [chCells] at hj
    subst hj
    have := h3 i hkl
    simp [World.cell?, h1, this]
  | j + 1 => simp [chCells] at hj
set_option maxHeartbeats 1000000 in
theorem distinct_any (l : List Sta) (la : Option Addr) (lc : Nat) (w : World) (hl : Rows w 121 la lc (l.map Sta.cs)) (hsz : l.length * 8 ≤ reachBytes) (P : Nat → Nat) (hP : ∀ i, i < l.length → IsFst (l.map Sta.key) i (P i)) :
    Calls Try.prog 6 #[.slice la l.length lc] w fun e w' => ∃ g, e = .returned (.tuple #[.int .i64 (cnt P l.length : Int), .slice (some ⟨g, 0, none⟩) l.length l.length]) ∧ Rows w' 1 (some ⟨g, 0, none⟩) l.length (((List.range l.length).map fun i => (P i : Int)).map chCells) ∧ Below w.heap.size w w' := by
  have ll := rows_len hl
  have hlH : Hid (Rows w 121 la lc (l.map Sta.cs)) := hl
  have hPH : Hid (∀ i, i < (l.map Sta.key).length → IsFst (l.map Sta.key) i (P i)) := fun i hi => hP i (by simpa using hi)
  have hmm := @run_makeMap Try.prog
  have m0 : Hid (MapD (w.alloc (.map #[] 0)) w.heap.size 0 (l.map Sta.key) P) := mapd_new w _ P
  obtain ⟨iN, hiN, hzN, hsN, hbN⟩ := info_q infoN_q
  unfold reachBytes at hsz
  obtain ⟨Z, hZ, hZs, _⟩ := zeroS
  have hZH : Hid (∀ w, (zeroValue 36).run Try.prog w = .ok (.agg Z) w) := hZ
  clear hZ
  have hb8 : iN.bytes * l.length ≤ 281474976710656 := by rw [hbN]; omega
  clear hl hP
  go_enter Try.func6, Try.ntmps6
  go_wp2_with (first
    | (at_make; (refine wpList_mk _ rfl _ _ 23 rfl 3 iN (.int .i64 0) Try.underlying23 hiN hzN rfl hsN l.length rfl rfl hb8 (by omega) ?_); intro W hwh hbW hsW))
  have hs1 : (w.alloc (.map #[] 0)).heap.size = w.heap.size + 1 := by simp
  rw [hs1] at hwh hbW hsW
  have st0 : Hid (DSt w w.heap.size (w.heap.size + 1) l.length 0 (l.map Sta.key) P W) := ⟨(boxed w _).trans (hbW.mono (by omega)), m0.out.kept (hbW.block _ (by omega)), by omega, _, hwh, by simp, fun i hi => by omega⟩
  clear m0 hmm hwh hbW hsW hs1
  go_loopw [16] (fun u wr => ∃ j : Nat, j ≤ l.length ∧ u = .int .i64 j ∧ Hid (DSt w w.heap.size (w.heap.size + 1) l.length j (l.map Sta.key) P wr)) (fun u _ => l.length - (intOf u).toNat)
  case atStart => exact ⟨0, Nat.zero_le _, rfl, st0.out⟩
  case round =>
    obtain ⟨j, hj, rfl, stH⟩ := hrel
    clear st0
    by_cases hlt : j < l.length
    · obtain ⟨x, hx, hxm⟩ := get_lt l j hlt
      obtain ⟨b0, o0, hix, hbl, hrg⟩ := state_ix (hlH.out.later stH.out.be) j x hx
      have hrH : Hid (wr.rangeAt b0 o0 x.cs) := hrg
      have hjI : (j : Int) < l.length := by omega
      have hk : Hid ((l.map Sta.key)[j]? = some x.key) := by show _ = _; simp [hx]
      have huH : Hid (Try.prog.underlying 36 = _) := Try.underlying36
      have hix2 : ∀ wx, (Instr.indexAt 23 (.slice (some ⟨w.heap.size + 1, 0, none⟩) l.length l.length) (.int .i64 (j : Int))).run Try.prog wx = .ok (.pointer (some ⟨w.heap.size + 1, j, none⟩)) wx := fun wx => by
        rw [run_indexAt_slice wx 23 ⟨w.heap.size + 1, 0, none⟩ _ _ _ _ Try.underlying23, if_pos (by omega)]
        have e1 : Try.prog.elem 23 = 3 := by kernel_rfl
        rw [e1, Try.sizeOf3 wx]
        simp [add_none]
      clear hrg
      have hZx : Hid (Z.size = x.cs.toArray.size) := hZs.trans (by simp [x.len])
      have hSn : Hid (∀ wx : World, (wx.alloc (.cells x.cs.toArray 36)).rangeAt wx.heap.size 0 x.cs) := fun wx => range_new wx _ _
      have st1 : Hid (DSt w w.heap.size (w.heap.size + 1) l.length j (l.map Sta.key) P (wr.alloc (.cells x.cs.toArray 36))) := stH.out.later (boxed _ _)
      by_cases hs : ∃ i, i < j ∧ (l.map Sta.key)[i]? = some x.key
      · have hmd := st1.out.mp.seen hPH.out hk.out hs
        obtain ⟨c, hc⟩ := st1.out.mp.has (x := x) true ⟨fun _ => hs, fun _ => rfl⟩
        have hlook := hmd.look (x := x) (i := j) (by omega) hk.out
        have hmdH : Hid (MapD _ _ _ _ _) := hmd
        obtain ⟨v0, hcell, hfro⟩ := st1.out.at hlt
        clear hmd hs
        go_wp2_with (first
          | (refine wpList_load_mid rfl 36 _ rfl b0 o0 rfl x.cs _ hrH.out huH.out rfl (infoS121 x) ?_)
          | (refine wpList_alloc_big rfl 36 rfl hZH.out ?_)
          | (refine wpList_store_new rfl 36 _ _ rfl rfl Z x.cs.toArray rfl (infoS121a x) hZx.out (sta_all x) ?_)
          | (refine wpList_load_mid rfl 36 _ rfl wr.heap.size 0 rfl x.cs _ (hSn.out wr) huH.out rfl (infoS121 x) ?_))
        go_roundw
        case rel => exact ⟨j + 1, by omega, by go_num, st1.out.fill (by omega) (by omega) hmdH.out hlt⟩
        case measure => simp [intOf]; omega
      · have hno : ∀ i, i < j → (l.map Sta.key)[i]? ≠ some x.key := fun i hi q => hs ⟨i, hi, q⟩
        obtain ⟨c, hc⟩ := st1.out.mp.has (x := x) false ⟨(fun q => by cases q), fun q => absurd q hs⟩
        obtain ⟨w2, hup, hmd, hgr⟩ := st1.out.mp.put hPH.out (x := x) hk.out hno (by unfold maxLen; omega)
        have hlook := hmd.look (x := x) (i := j) (by omega) hk.out
        have hS2 : Hid (w2.rangeAt wr.heap.size 0 x.cs) := range_grow (hSn.out wr) (by simp) (by have := stH.out.mp.lt; omega) hgr
        have hst2 := st1.out.grown (Nat.le_refl _) (by omega) hgr hmd
        have st2 : Hid (DSt w w.heap.size (w.heap.size + 1) l.length j (l.map Sta.key) P (w2) ∨ True) := .inr trivial
        obtain ⟨v0, hcell, hfro⟩ := whole_at hst2.2.2 hlt
        have hst2H : Hid _ := hst2
        have hmdH : Hid (MapD _ _ _ _ _) := hmd
        clear hmd hs hno hgr hst2 st2
        go_wp2_with (first
          | (refine wpList_load_mid rfl 36 _ rfl b0 o0 rfl x.cs _ hrH.out huH.out rfl (infoS121 x) ?_)
          | (refine wpList_alloc_big rfl 36 rfl hZH.out ?_)
          | (refine wpList_store_new rfl 36 _ _ rfl rfl Z x.cs.toArray rfl (infoS121a x) hZx.out (sta_all x) ?_)
          | (refine wpList_load_mid rfl 36 _ rfl wr.heap.size 0 rfl x.cs _ (hSn.out wr) huH.out rfl (infoS121 x) ?_)
          | (refine wpList_load_mid rfl 36 _ rfl wr.heap.size 0 rfl x.cs _ hS2.out huH.out rfl (infoS121 x) ?_))
        go_roundw
        case rel => exact ⟨j + 1, by omega, by go_num, fill2 (by omega) (by omega) hst2H.out.1 hst2H.out.2.1 hst2H.out.2.2 hmdH.out hlt⟩
        case measure => simp [intOf]; omega
    · have hj2 : j = l.length := by omega
      subst hj2
      have hlen := stH.out.mp.size 3
      go_wp2
      go_ret2
      exact ⟨w.heap.size + 1, rfl, rows_cur stH.out.wh (by omega), stH.out.be⟩
end Go.Proofs.Ytmlkcaocgklilaa.pg
