/- The events that may come next, handed out by goroutine. -/
import Derived.Test.YtkadlopcomjonaaM19
import Derived.Shelf.Abstract
import Derived.Test.YtkadlopcomjonaaM16
import Derived.Maps.OwnOps
import Derived.Maps.OwnSet
import Derived.Maps.RangeWalk
import Derived.DeepKeys4
import Derived.MapViews
import Derived.WideKeyEntry
namespace Go.Proofs.Ytkadlopcomjonaa.pg
open Go.ChangeShapes Go.WideShapes Go.ChangeAt Go.RowKit Go.Shelf
set_option linter.unusedVariables false
set_option linter.unusedSimpArgs false
set_option maxRecDepth 100000
attribute [local go_sem] Oper.semAt_some
abbrev PlK (n : Nat) := { x : Nat // x < n }
def subK {n : Nat} (l : List Nat) (h : ∀ x ∈ l, x < n) : List (PlK n) := l.pmap Subtype.mk h
theorem subK_val {n : Nat} (l : List Nat) (h : ∀ x ∈ l, x < n) : (subK l h).map (·.1) = l := by
  unfold subK
  rw [List.map_pmap]
  exact List.pmap_eq_self.mpr (fun _ _ => rfl)
theorem subK_snoc {n : Nat} {l : List Nat} {x : Nat} (h : ∀ y ∈ l ++ [x], y < n) (h1 : ∀ y ∈ l, y < n) (hx : x < n) : subK (l ++ [x]) h = subK l h1 ++ [⟨x, hx⟩] := by
  unfold subK
  rw [List.pmap_append]
  rfl
theorem subK_congr {n : Nat} {l m : List Nat} (e : l = m) (h : ∀ x ∈ l, x < n) : subK l h = subK m (e ▸ h) := by subst e; rfl
theorem abideK {β : Type} {B : Nat} {J : β → World → Prop} (h : AbidesFrom B J) {s : β} {W W' : World} (hs : J s W) (hb : Below W.heap.size W W') : J s W' := h s W W' none hs ⟨hb.os, hb.tape, hb.output, hb.size, fun k hk _ => hb.block k hk⟩ (fun r e => by cases e)
/-- What a round keeps: what lies below, and two blocks. -/
structure KeepP (n₀ Bp Bc : Nat) (W W' : World) : Prop where
  b : Below n₀ W W'
  p : ∀ cs t z, W.heap[Bp]? = some (.cells cs t z) → W'.heap[Bp]? = some (.cells cs t z)
  c : ∀ cs t z, W.heap[Bc]? = some (.cells cs t z) → W'.heap[Bc]? = some (.cells cs t z)
theorem KeepP.trans {n₀ Bp Bc : Nat} {A B C : World} (h : KeepP n₀ Bp Bc A B) (k : KeepP n₀ Bp Bc B C) : KeepP n₀ Bp Bc A C := ⟨h.b.trans k.b, fun cs t z q => k.p cs t z (h.p cs t z q), fun cs t z q => k.c cs t z (h.c cs t z q)⟩
theorem yieldAnyK {m : Nat} (m' : Nat) {P : Program} {l : Nat} {args : Array Value} {W : World} {R : Ending → World → Prop} (h : YieldAt Fence.wide m P l args W R) : YieldAt Fence.wide m' P l args W R := by
  obtain ⟨fn, tmps, assign, body, hy, hR⟩ := h
  exact ⟨fn, tmps, assign, body, hy, hR.1, fun c cs _ => hR.2 c cs (fun d q => by cases q)⟩
/-- A cut, as numbers of events. -/
def cfK (c : Ck) (a : Nat) : Nat := (c.of a).toNat
/-- What may come next, of the first goroutines. -/
def freeT (B : Nat → Nat → Bool) (g : Nat → Nat) (n : Nat) (c : Nat → Nat) (k : Nat) : List Nat := (List.range k).filterMap (freeA B g n c)
theorem freeT_more (B : Nat → Nat → Bool) (g : Nat → Nat) (n : Nat) (c : Nat → Nat) (k : Nat) : freeT B g n c (k + 1) = freeT B g n c k ++ (freeA B g n c k).toList := by
  unfold freeT
  rw [List.range_succ, List.filterMap_append]
  congr 1
theorem freeT_lt {B : Nat → Nat → Bool} {g : Nat → Nat} {n : Nat} {c : Nat → Nat} {k : Nat} : ∀ x ∈ freeT B g n c k, x < n := fun x hx => by
  obtain ⟨a, _, h⟩ := List.mem_filterMap.mp hx
  exact (freeA_g h).1
theorem freeT_len (B : Nat → Nat → Bool) (g : Nat → Nat) (n : Nat) (c : Nat → Nat) (k : Nat) : (freeT B g n c k).length ≤ k := by
  unfold freeT
  have := List.length_filterMap_le (freeA B g n c) (List.range k)
  rwa [List.length_range] at this
/-- A cut that can be looked at. -/
def okN (N : Nat) (c : Ck) : Prop := ∀ a, a < 6 → 0 ≤ c.of a ∧ c.of a ≤ (N : Int)
abbrev okCut (c : Ck) : Prop := okN 1000 c
theorem okN_mono {N M : Nat} {c : Ck} (h : okN N c) (hm : N ≤ M) : okN M c := fun a ha => by have := h a ha; omega
theorem okN_tk {N : Nat} {c : Ck} (h : okN N c) {g : Nat} (hg : g < 6) : okN (N + 1) (tk c g) := fun a ha => by
  have := h a ha
  rw [of_tk hg ha]
  split <;> omega
theorem all_congr_K {α : Type} {p q : α → Bool} : ∀ {l : List α}, (∀ x ∈ l, p x = q x) → l.all p = l.all q
  | [], _ => rfl
  | x :: l, h => by rw [List.all_cons, List.all_cons, h x (by simp), all_congr_K fun y hy => h y (by simp [hy])]
theorem leKb_is {l : List Ev} {B : Nat → Nat → Bool} (hB : Tells (dpf l) B) (hrt : ∀ x ∈ l, rightP x) {i : Nat} {x c : Ck} (hx : (rel (evf l) l.length).1[i]? = some x) (hi : i < l.length) (hc : okCut c) : leKb x (tk c (gof l i)) 6 = withinB B (gof l) (cfK c) i := by
  have hg : gof l i < 6 := gof_lt hrt hi
  unfold leKb withinB
  refine all_congr_K fun a ha => ?_
  rw [List.mem_range] at ha
  rw [rel_is hrt hB l.length (Nat.le_refl _) i x hx a ha, of_tk hg ha]
  have h1 := hc a ha
  unfold incC cfK
  by_cases e : a = gof l i
  · rw [if_pos e, if_pos e]
    refine decide_eq_decide.mpr ?_
    omega
  · rw [if_neg e, if_neg e]
    refine decide_eq_decide.mpr ?_
    omega
theorem freeA_none {B : Nat → Nat → Bool} {g : Nat → Nat} {n : Nat} {c : Nat → Nat} {a : Nat} (h : ¬ c a < (plc g n a).length) : freeA B g n c a = none := by
  unfold freeA
  rw [List.getElem?_eq_none (by omega)]
  rfl
theorem freeA_some {B : Nat → Nat → Bool} {g : Nat → Nat} {n : Nat} {c : Nat → Nat} {a x : Nat} (h : (plc g n a)[c a]? = some x) : freeA B g n c a = if withinB B g c x = true then some x else none := by
  unfold freeA
  rw [h]
  cases hw : withinB B g c x <;> simp [Option.filter, hw]
abbrev objPas (l : List Ev) (la : Option Addr) (lc : Nat) (ca : Option Addr) (cc : Nat) (pa : Nat → Option Addr) (pc : Nat → Nat) : Obj := .cells (pasV l la lc ca cc pa pc).toArray 82
theorem range_of {w : World} {B : Nat} {cs : List Value} {t : TypeId} (h : w.heap[B]? = some (.cells cs.toArray t (0, 0))) : w.rangeAt B 0 cs := fun j v hj => by
  rw [Nat.zero_add]
  exact cell_ofK h (by simpa using hj)
theorem ch_ixK {w : World} {a : Option Addr} {cap : Nat} {l : List Int} (h : Rows w 1 a cap (l.map chCells)) (i : Nat) (x : Int) (hi : l[i]? = some x) :
    ∃ b o, (∀ wx, (Instr.indexAt 39 (.slice a l.length cap) (.int .i64 (i : Int))).run Try.prog wx = .ok (.pointer (some ⟨b, o, none⟩)) wx) ∧ b < w.heap.size ∧ w.cell? ⟨b, o, none⟩ = some (.int .i64 x) := by
  obtain ⟨b, o, hr, hlt, hc⟩ := h.ix 39 3 Try.underlying39 (by kernel_rfl) (fun wx => Try.sizeOf3 wx) i (row := chCells x) (by simp [hi])
  rw [List.length_map] at hr
  exact ⟨b, o, hr, hlt, hc 0 _ rfl⟩
set_option maxHeartbeats 4000000 in
theorem free1_in (n : Nat) (w0 : World) (l : List Ev) (la : Option Addr) (lc : Nat) (ca : Option Addr) (cc : Nat) (pa : Nat → Option Addr) (pc : Nat → Nat) (lo0 : Nat) (hl : Rows w0 26 la lc (l.map Ev.cells)) (hP : Pst w0 lo0 l ca cc pa pc) (hlen : l.length ≤ 256) (hrt : ∀ x ∈ l, rightP x) {B : Nat → Nat → Bool} (hB : Tells (dpf l) B) (c : Ck) (hc : okCut c)
    (ll AB Bp Bc : Nat) (J Jx : List (PlK l.length) → World → Prop) (hJ : AbidesFrom AB J)
    (hY : ∀ m pre x W, J pre W → pre.length < 6 → YieldAt Fence.wide m Try.prog ll #[.int .i64 ((x : PlK l.length).1 : Int)] W fun e W' => (e = .returned (.bool true) ∧ J (pre ++ [x]) W' ∧ KeepP w0.heap.size Bp Bc W W') ∨ (e = .returned (.bool false) ∧ Jx (pre ++ [x]) W'))
    (W : World) (hW : Below w0.heap.size w0 W) (hBp : W.heap[Bp]? = some (objPas l la lc ca cc pa pc)) (hBc : W.heap[Bc]? = some (objK c)) (h0 : J [] W) :
    CallsIn Fence.wide n Try.prog 74 #[.func (.yield ll) #[] #[], .pointer (some ⟨Bp, 0, none⟩), .pointer (some ⟨Bc, 0, none⟩)] W fun e W' => (∃ v, e = .returned v) ∧ (J (subK (freeT B (gof l) l.length (cfK c) 6) freeT_lt) W' ∨ ∃ k, k ≤ 6 ∧ Jx (subK (freeT B (gof l) l.length (cfK c) k) freeT_lt) W') := by
  have k2 := cell_ofK (k := 2) hBp (v := slv pa pc (fun a => plI (gof l) l.length a) 0) rfl
  have k3 := cell_ofK (k := 3) hBp (v := slv pa pc (fun a => plI (gof l) l.length a) 1) rfl
  have k4 := cell_ofK (k := 4) hBp (v := slv pa pc (fun a => plI (gof l) l.length a) 2) rfl
  have k5 := cell_ofK (k := 5) hBp (v := slv pa pc (fun a => plI (gof l) l.length a) 3) rfl
  have k6 := cell_ofK (k := 6) hBp (v := slv pa pc (fun a => plI (gof l) l.length a) 4) rfl
  have k7 := cell_ofK (k := 7) hBp (v := slv pa pc (fun a => plI (gof l) l.length a) 5) rfl
  have hs0 : Hid (J (subK (freeT B (gof l) l.length (cfK c) 0) freeT_lt) W ∧ W.heap[Bc]? = some (objK c) ∧ W.heap[Bp]? = some (objPas l la lc ca cc pa pc) ∧ Below w0.heap.size w0 W) := ⟨h0, hBc, hBp, hW⟩
  have hlH : Hid (Rows w0 26 la lc (l.map Ev.cells)) := hl
  have hPH : Hid (Pst w0 lo0 l ca cc pa pc) := hP
  have hrH : Hid (∀ x ∈ l, rightP x) := hrt
  have hBH : Hid (Tells (dpf l) B) := hB
  have hcH : Hid (okCut c) := hc
  have hJH : Hid (AbidesFrom AB J) := hJ
  have hYH : Hid (∀ m pre x W, J pre W → pre.length < 6 → YieldAt Fence.wide m Try.prog ll #[.int .i64 ((x : PlK l.length).1 : Int)] W fun e W' => (e = .returned (.bool true) ∧ J (pre ++ [x]) W' ∧ KeepP w0.heap.size Bp Bc W W') ∨ (e = .returned (.bool false) ∧ Jx (pre ++ [x]) W')) := hY
  clear h0 hBc hBp hW hl hP hrt hB hc hJ hY
  refine callsIn_of_wp Try.func74 rfl trivial ?_ rfl
  simp only [Try.ntmps74, List.size_toArray, List.length_cons, List.length_nil, Nat.reduceAdd, Nat.reduceSub, Array.replicate_succ, Array.replicate_zero, List.push_toArray, List.append_toArray, List.nil_append, List.cons_append]
  gi_wp2
  clear k2 k3 k4 k5 k6 k7
  gi_loopw [8] (fun u wr => ∃ k : Nat, k ≤ 6 ∧ u = .int .i64 (k : Int) ∧ Hid (J (subK (freeT B (gof l) l.length (cfK c) k) freeT_lt) wr ∧ wr.heap[Bc]? = some (objK c) ∧ wr.heap[Bp]? = some (objPas l la lc ca cc pa pc) ∧ Below w0.heap.size w0 wr)) (fun u _ => 6 - (intOf u).toNat)
  case atStart => exact ⟨0, Nat.zero_le _, rfl, hs0⟩
  case round =>
    clear hs0
    obtain ⟨k, hk, rfl, hs⟩ := hrel
    by_cases hlt : k < 6
    · have hkI : (k : Int) < 6 := by omega
      have xk : ∀ wx, (Instr.index 80 (.agg #[slv pa pc (fun a => plI (gof l) l.length a) 0, slv pa pc (fun a => plI (gof l) l.length a) 1, slv pa pc (fun a => plI (gof l) l.length a) 2, slv pa pc (fun a => plI (gof l) l.length a) 3, slv pa pc (fun a => plI (gof l) l.length a) 4, slv pa pc (fun a => plI (gof l) l.length a) 5]) (.int .i64 (k : Int))).run Try.prog wx = .ok (.slice (pa k) (plI (gof l) l.length k).length (pc k)) wx := ix_sixv (sixC pa pc fun a => plI (gof l) l.length a) _ k hlt rfl (by have := sixC_at (pa := pa) (pc := pc) (L := fun a => plI (gof l) l.length a) hlt; rw [List.getElem?_toArray] at this; exact this) rfl
      have xc := ck_at Bc k hlt
      obtain ⟨_, hck0⟩ := of_mem (x := c) hlt
      have hco := hcH.out k hlt
      obtain ⟨ci, hci⟩ : ∃ ci : Nat, (ci : Int) = c.of k := ⟨(c.of k).toNat, by omega⟩
      have hck : c.list[k]? = some (ci : Int) := by rw [hci]; exact hck0
      have hcf : Hid (cfK c k = ci) := by show (c.of k).toNat = ci; omega
      clear hck0 hco hci
      have hmore : Hid (freeT B (gof l) l.length (cfK c) (k + 1) = freeT B (gof l) l.length (cfK c) k ++ (freeA B (gof l) l.length (cfK c) k).toList) := freeT_more _ _ _ _ _
      have hlp : Hid ((plI (gof l) l.length k).length = (plc (gof l) l.length k).length) := List.length_map _
      obtain ⟨S0, hS0d⟩ : ∃ S0 : World → Prop, S0 = fun w' => w'.heap[Bc]? = some (objK c) ∧ w'.heap[Bp]? = some (objPas l la lc ca cc pa pc) ∧ Below w0.heap.size w0 w' := ⟨_, rfl⟩
      gi_wp2
      clear xk
      refine y_region S0 25 (by kernel_rfl) ?_
      subst hS0d
      have hS : wr.drew.heap[Bc]? = some (objK c) ∧ wr.drew.heap[Bp]? = some (objPas l la lc ca cc pa pc) ∧ Below w0.heap.size w0 wr.drew := ⟨hs.out.2.1, hs.out.2.2.1, bthen hs.out.2.2.2 (bey_drew wr)⟩
      refine y_move (i := 0) rfl (by kernel_rfl) (by kernel_rfl) (by kernel_rfl) (by kernel_rfl) rfl (fun _ _ _ _ h => h) rfl (.int .i64 (k : Int)) (fun _ => rfl) hS ?_
      simp only [Act.put, List.getElem_toArray, List.getElem_cons_succ, List.getElem_cons_zero, List.setIfInBounds_toArray, List.set_cons_zero, List.set_cons_succ]
      refine y_move (i := 1) rfl (by kernel_rfl) (by kernel_rfl) (by kernel_rfl) (by kernel_rfl) rfl (fun _ _ _ _ h => h) rfl (.pointer (some ⟨Bc, k, none⟩)) (fun wx => by unfold execOp; exact run_value_of (xc wx)) hS ?_
      simp only [Act.put, List.getElem_toArray, List.getElem_cons_succ, List.getElem_cons_zero, List.setIfInBounds_toArray, List.set_cons_zero, List.set_cons_succ]
      refine y_load1 (i := 2) rfl (by kernel_rfl) (by kernel_rfl) (by kernel_rfl) (by kernel_rfl) rfl (fun _ _ _ _ h => h) rfl 3 _ rfl ⟨Bc, k, none⟩ rfl _ Try.underlying3 rfl (.int .i64 (ci : Int)) (fun w' h' => (InB.cell h'.1 hck).1) hS ?_
      simp only [Act.put, List.getElem_toArray, List.getElem_cons_succ, List.getElem_cons_zero, List.setIfInBounds_toArray, List.set_cons_zero, List.set_cons_succ]
      refine y_move (i := 3) rfl (by kernel_rfl) (by kernel_rfl) (by kernel_rfl) (by kernel_rfl) rfl (fun _ _ _ _ h => h) rfl (.slice (pa k) (plI (gof l) l.length k).length (pc k)) (fun _ => rfl) hS ?_
      simp only [Act.put, List.getElem_toArray, List.getElem_cons_succ, List.getElem_cons_zero, List.setIfInBounds_toArray, List.set_cons_zero, List.set_cons_succ]
      refine y_move (i := 4) rfl (by kernel_rfl) (by kernel_rfl) (by kernel_rfl) (by kernel_rfl) rfl (fun _ _ _ _ h => h) rfl (.int .i64 ((plI (gof l) l.length k).length : Int)) (fun _ => by kernel_rfl) hS ?_
      simp only [Act.put, List.getElem_toArray, List.getElem_cons_succ, List.getElem_cons_zero, List.setIfInBounds_toArray, List.set_cons_zero, List.set_cons_succ]
      by_cases hcl : ci < (plI (gof l) l.length k).length
      · have hdl : (ci : Int) < ((plI (gof l) l.length k).length : Int) := by omega
        obtain ⟨xv, hxv, hxm⟩ := get_lt (plI (gof l) l.length k) ci hcl
        obtain ⟨i, hi, hip⟩ : ∃ i : Nat, xv = (i : Int) ∧ (plc (gof l) l.length k)[ci]? = some i := by
          unfold plI at hxv
          rw [List.getElem?_map] at hxv
          obtain ⟨i, h1, h2⟩ := Option.map_eq_some_iff.mp hxv
          exact ⟨i, h2.symm, h1⟩
        subst hi
        obtain ⟨hil, hig, _⟩ := plc_at.mp hip
        obtain ⟨lb, lo, xl, hlb, hlc⟩ := ch_ixK (own_rows (hPH.out.p.ow k hlt) (len1u _)) ci (i : Int) hxv
        obtain ⟨xx, hxx⟩ : ∃ xx, (rel (evf l) l.length).1[i]? = some xx := ⟨_, List.getElem?_eq_getElem (by rw [rel_len]; exact hil)⟩
        have hlk := leKb_is hBH.out hrH.out hxx hil hcH.out
        rw [hig] at hlk
        have hgo : (k : Int) = (evf l i).go := by
          have h1 := (hrH.out (evf l i) (List.mem_of_getElem? (evf_at hil))).1
          unfold gof at hig
          omega
        have cW : ∀ V, Below w0.heap.size w0 V → Calls Try.prog 75 #[.agg (pasV l la lc ca cc pa pc).toArray, .int .i64 (i : Int), .agg c.cells.toArray] V fun e w' => e = .returned (.bool (leKb xx (tk c k) 6)) ∧ Below V.heap.size V w' := fun V hV => within_any l la lc (rel (evf l) l.length).1 ca cc pa pc _ i c V (hlH.out.later hV) ((own_rows hPH.out.c (fun row hm => by rw [List.mem_map] at hm; obtain ⟨y, _, rfl⟩ := hm; rfl)).later hV) (rel_len _ _) hil xx hxx k hgo hlt (hcH.out k hlt)
        have hfa := freeA_some (B := B) (g := gof l) (n := l.length) (c := cfK c) (a := k) (x := i) (by rw [hcf.out]; exact hip)
        rw [← hlk] at hfa
        obtain ⟨bw, hbw⟩ : ∃ bw, leKb xx (tk c k) 6 = bw := ⟨_, rfl⟩
        rw [hbw] at hfa cW
        clear hlk hgo hxx hxv hxm hip hbw
        cases bw with
        | false =>
          have hN : Hid (freeT B (gof l) l.length (cfK c) (k + 1) = freeT B (gof l) l.length (cfK c) k) := by show _ = _; rw [hmore.out, hfa]; simp
          clear hfa hmore
          refine y_move (i := 5) rfl (by kernel_rfl) (by kernel_rfl) (by kernel_rfl) (by kernel_rfl) rfl (fun _ _ _ _ h => h) rfl (.bool true) (fun wx => by simp [execOp, hdl, go_sem]) hS ?_
          simp only [Act.put, List.getElem_toArray, List.getElem_cons_succ, List.getElem_cons_zero, List.setIfInBounds_toArray, List.set_cons_zero, List.set_cons_succ]
          refine y_move (i := 6) rfl (by kernel_rfl) (by kernel_rfl) (by kernel_rfl) (by kernel_rfl) rfl (fun _ _ _ _ h => h) rfl (.bool true) (fun _ => rfl) hS ?_
          simp only [Act.put, List.getElem_toArray, List.getElem_cons_succ, List.getElem_cons_zero, List.setIfInBounds_toArray, List.set_cons_zero, List.set_cons_succ]
          refine y_loads (i := 7) rfl (by kernel_rfl) (by kernel_rfl) (by kernel_rfl) (by kernel_rfl) rfl (fun _ _ _ _ h => h) rfl 82 _ rfl Bp 0 rfl (pasV l la lc ca cc pa pc) _ (fun w' h' => range_of h'.2.1) Try.underlying82 rfl (infoPa) hS ?_
          simp only [Act.put, List.getElem_toArray, List.getElem_cons_succ, List.getElem_cons_zero, List.setIfInBounds_toArray, List.set_cons_zero, List.set_cons_succ]
          refine y_move (i := 8) rfl (by kernel_rfl) (by kernel_rfl) (by kernel_rfl) (by kernel_rfl) rfl (fun _ _ _ _ h => h) rfl (.slice (pa k) (plI (gof l) l.length k).length (pc k)) (fun _ => rfl) hS ?_
          simp only [Act.put, List.getElem_toArray, List.getElem_cons_succ, List.getElem_cons_zero, List.setIfInBounds_toArray, List.set_cons_zero, List.set_cons_succ]
          refine y_move (i := 9) rfl (by kernel_rfl) (by kernel_rfl) (by kernel_rfl) (by kernel_rfl) rfl (fun _ _ _ _ h => h) rfl (.int .i64 (k : Int)) (fun _ => rfl) hS ?_
          simp only [Act.put, List.getElem_toArray, List.getElem_cons_succ, List.getElem_cons_zero, List.setIfInBounds_toArray, List.set_cons_zero, List.set_cons_succ]
          refine y_move (i := 10) rfl (by kernel_rfl) (by kernel_rfl) (by kernel_rfl) (by kernel_rfl) rfl (fun _ _ _ _ h => h) rfl (.pointer (some ⟨Bc, k, none⟩)) (fun wx => by unfold execOp; exact run_value_of (xc wx)) hS ?_
          simp only [Act.put, List.getElem_toArray, List.getElem_cons_succ, List.getElem_cons_zero, List.setIfInBounds_toArray, List.set_cons_zero, List.set_cons_succ]
          refine y_load1 (i := 11) rfl (by kernel_rfl) (by kernel_rfl) (by kernel_rfl) (by kernel_rfl) rfl (fun _ _ _ _ h => h) rfl 3 _ rfl ⟨Bc, k, none⟩ rfl _ Try.underlying3 rfl (.int .i64 (ci : Int)) (fun w' h' => (InB.cell h'.1 hck).1) hS ?_
          simp only [Act.put, List.getElem_toArray, List.getElem_cons_succ, List.getElem_cons_zero, List.setIfInBounds_toArray, List.set_cons_zero, List.set_cons_succ]
          refine y_move (i := 12) rfl (by kernel_rfl) (by kernel_rfl) (by kernel_rfl) (by kernel_rfl) rfl (fun _ _ _ _ h => h) rfl (.pointer (some ⟨lb, lo, none⟩)) (fun wx => by unfold execOp; exact run_value_of (xl wx)) hS ?_
          simp only [Act.put, List.getElem_toArray, List.getElem_cons_succ, List.getElem_cons_zero, List.setIfInBounds_toArray, List.set_cons_zero, List.set_cons_succ]
          refine y_load1 (i := 13) rfl (by kernel_rfl) (by kernel_rfl) (by kernel_rfl) (by kernel_rfl) rfl (fun _ _ _ _ h => h) rfl 3 _ rfl ⟨lb, lo, none⟩ rfl _ Try.underlying3 rfl (.int .i64 (i : Int)) (fun w' h' => cell_later h'.2.2 hlc) hS ?_
          simp only [Act.put, List.getElem_toArray, List.getElem_cons_succ, List.getElem_cons_zero, List.setIfInBounds_toArray, List.set_cons_zero, List.set_cons_succ]
          refine y_loads (i := 14) rfl (by kernel_rfl) (by kernel_rfl) (by kernel_rfl) (by kernel_rfl) rfl (fun _ _ _ _ h => h) rfl 86 _ rfl Bc 0 rfl c.cells _ (fun w' h' => range_of (cs := c.cells) h'.1) Try.underlying86 rfl (by kernel_rfl) hS ?_
          simp only [Act.put, List.getElem_toArray, List.getElem_cons_succ, List.getElem_cons_zero, List.setIfInBounds_toArray, List.set_cons_zero, List.set_cons_succ]
          have hS0 := hS
          refine y_call3 (i := 15) (by kernel_rfl) rfl rfl rfl 75 _ _ _ _ _ _ rfl (.agg (pasV l la lc ca cc pa pc).toArray) (.int .i64 (i : Int)) (.agg c.cells.toArray) rfl rfl rfl (cf_fn Try.func75 (by kernel_rfl) (by kernel_rfl) _ _) _ (cW _ hS.2.2) ?_
          rintro e w1 ⟨rfl, hb1⟩
          have hS1 : w1.heap[Bc]? = some (objK c) ∧ w1.heap[Bp]? = some (objPas l la lc ca cc pa pc) ∧ Below w0.heap.size w0 w1 := ⟨(hb1.block Bc (Array.getElem?_eq_some_iff.mp hS.1).1).trans hS.1, (hb1.block Bp (Array.getElem?_eq_some_iff.mp hS.2.1).1).trans hS.2.1, bthen hS.2.2 hb1⟩
          refine ⟨_, rfl, hS1, ?_⟩
          simp only [Act.put, List.getElem_toArray, List.getElem_cons_succ, List.getElem_cons_zero, List.setIfInBounds_toArray, List.set_cons_zero, List.set_cons_succ]
          refine y_move (i := 16) rfl (by kernel_rfl) (by kernel_rfl) (by kernel_rfl) (by kernel_rfl) rfl (fun _ _ _ _ h => h) rfl (.bool false) (fun _ => rfl) hS1 ?_
          simp only [Act.put, List.getElem_toArray, List.getElem_cons_succ, List.getElem_cons_zero, List.setIfInBounds_toArray, List.set_cons_zero, List.set_cons_succ]
          refine y_move (i := 17) rfl (by kernel_rfl) (by kernel_rfl) (by kernel_rfl) (by kernel_rfl) rfl (fun _ _ _ _ h => h) rfl (.bool false) (fun _ => rfl) hS1 ?_
          simp only [Act.put, List.getElem_toArray, List.getElem_cons_succ, List.getElem_cons_zero, List.setIfInBounds_toArray, List.set_cons_zero, List.set_cons_succ]
          refine y_skip (i := 18) rfl (by kernel_rfl) (by kernel_rfl) (by kernel_rfl) (by kernel_rfl) rfl (fun _ _ _ _ h => h) rfl hS1 ?_
          simp only [Act.put, List.getElem_toArray, List.getElem_cons_succ, List.getElem_cons_zero, List.setIfInBounds_toArray, List.set_cons_zero, List.set_cons_succ]
          refine y_skip (i := 19) rfl (by kernel_rfl) (by kernel_rfl) (by kernel_rfl) (by kernel_rfl) rfl (fun _ _ _ _ h => h) rfl hS1 ?_
          simp only [Act.put, List.getElem_toArray, List.getElem_cons_succ, List.getElem_cons_zero, List.setIfInBounds_toArray, List.set_cons_zero, List.set_cons_succ]
          refine y_skip (i := 20) rfl (by kernel_rfl) (by kernel_rfl) (by kernel_rfl) (by kernel_rfl) rfl (fun _ _ _ _ h => h) rfl hS1 ?_
          simp only [Act.put, List.getElem_toArray, List.getElem_cons_succ, List.getElem_cons_zero, List.setIfInBounds_toArray, List.set_cons_zero, List.set_cons_succ]
          refine y_skip (i := 21) rfl (by kernel_rfl) (by kernel_rfl) (by kernel_rfl) (by kernel_rfl) rfl (fun _ _ _ _ h => h) rfl hS1 ?_
          simp only [Act.put, List.getElem_toArray, List.getElem_cons_succ, List.getElem_cons_zero, List.setIfInBounds_toArray, List.set_cons_zero, List.set_cons_succ]
          refine y_skip (i := 22) rfl (by kernel_rfl) (by kernel_rfl) (by kernel_rfl) (by kernel_rfl) rfl (fun _ _ _ _ h => h) rfl hS1 ?_
          simp only [Act.put, List.getElem_toArray, List.getElem_cons_succ, List.getElem_cons_zero, List.setIfInBounds_toArray, List.set_cons_zero, List.set_cons_succ]
          refine y_skip (i := 23) rfl (by kernel_rfl) (by kernel_rfl) (by kernel_rfl) (by kernel_rfl) rfl (fun _ _ _ _ h => h) rfl hS1 ?_
          simp only [Act.put, List.getElem_toArray, List.getElem_cons_succ, List.getElem_cons_zero, List.setIfInBounds_toArray, List.set_cons_zero, List.set_cons_succ]
          refine y_skip (i := 24) rfl (by kernel_rfl) (by kernel_rfl) (by kernel_rfl) (by kernel_rfl) rfl (fun _ _ _ _ h => h) rfl hS1 ?_
          simp only [Act.put, List.getElem_toArray, List.getElem_cons_succ, List.getElem_cons_zero, List.setIfInBounds_toArray, List.set_cons_zero, List.set_cons_succ]
          refine y_pass (by kernel_rfl) rfl rfl ?_
          simp only [Act.put, List.getElem_toArray, List.getElem_cons_succ, List.getElem_cons_zero, List.setIfInBounds_toArray, List.set_cons_zero, List.set_cons_succ]
          refine wpAnyIn_take (i := 26) (v := undef) rfl rfl (by kernel_rfl) (by kernel_rfl) (by kernel_rfl) (fun _ _ _ h => h) ⟨Or.inr ⟨by rfl, rfl⟩, fun _ => rfl⟩ ?_
          simp only [Act.put, List.getElem_toArray, List.getElem_cons_succ, List.getElem_cons_zero, List.setIfInBounds_toArray, List.set_cons_zero, List.set_cons_succ]
          refine wpAnyIn_take (i := 27) (v := .bool false) rfl rfl (by kernel_rfl) (by kernel_rfl) (by kernel_rfl) (fun _ _ _ h => h) ⟨Or.inl ⟨by rfl, fun _ => rfl⟩, fun _ => rfl⟩ ?_
          simp only [Act.put, List.getElem_toArray, List.getElem_cons_succ, List.getElem_cons_zero, List.setIfInBounds_toArray, List.set_cons_zero, List.set_cons_succ]
          refine wpAnyIn_done (by kernel_rfl) ?_ _
          have hs2 : Hid (J (subK (freeT B (gof l) l.length (cfK c) (k + 1)) freeT_lt) w1 ∧ w1.heap[Bc]? = some (objK c) ∧ w1.heap[Bp]? = some (objPas l la lc ca cc pa pc) ∧ Below w0.heap.size w0 w1) := ⟨by rw [subK_congr hN.out]; exact abideK hJH.out hs.out.1 (bthen (bey_drew wr) hb1), hS1⟩
          clear hs hS hS0 hS1 hN hb1 cW xc xl hck
          gi_wp2
          go_roundw
          case rel => exact ⟨k + 1, by omega, by go_num, hs2⟩
          case measure => simp [intOf]; omega
        | true =>
          have hN : freeT B (gof l) l.length (cfK c) (k + 1) = freeT B (gof l) l.length (cfK c) k ++ [i] := by rw [hmore.out, hfa]; simp
          have hNs : Hid (subK (freeT B (gof l) l.length (cfK c) (k + 1)) freeT_lt = subK (freeT B (gof l) l.length (cfK c) k) freeT_lt ++ [⟨i, hil⟩]) := by
            show _ = _
            rw [subK_congr hN]
            exact subK_snoc _ _ _
          have hpl : Hid ((subK (freeT B (gof l) l.length (cfK c) k) freeT_lt : List (PlK l.length)).length < 6) := by
            show _ < _
            unfold subK
            rw [List.length_pmap]
            have := freeT_len B (gof l) l.length (cfK c) k
            omega
          clear hfa hmore hN
          refine y_move (i := 5) rfl (by kernel_rfl) (by kernel_rfl) (by kernel_rfl) (by kernel_rfl) rfl (fun _ _ _ _ h => h) rfl (.bool true) (fun wx => by simp [execOp, hdl, go_sem]) hS ?_
          simp only [Act.put, List.getElem_toArray, List.getElem_cons_succ, List.getElem_cons_zero, List.setIfInBounds_toArray, List.set_cons_zero, List.set_cons_succ]
          refine y_move (i := 6) rfl (by kernel_rfl) (by kernel_rfl) (by kernel_rfl) (by kernel_rfl) rfl (fun _ _ _ _ h => h) rfl (.bool true) (fun _ => rfl) hS ?_
          simp only [Act.put, List.getElem_toArray, List.getElem_cons_succ, List.getElem_cons_zero, List.setIfInBounds_toArray, List.set_cons_zero, List.set_cons_succ]
          refine y_loads (i := 7) rfl (by kernel_rfl) (by kernel_rfl) (by kernel_rfl) (by kernel_rfl) rfl (fun _ _ _ _ h => h) rfl 82 _ rfl Bp 0 rfl (pasV l la lc ca cc pa pc) _ (fun w' h' => range_of h'.2.1) Try.underlying82 rfl (infoPa) hS ?_
          simp only [Act.put, List.getElem_toArray, List.getElem_cons_succ, List.getElem_cons_zero, List.setIfInBounds_toArray, List.set_cons_zero, List.set_cons_succ]
          refine y_move (i := 8) rfl (by kernel_rfl) (by kernel_rfl) (by kernel_rfl) (by kernel_rfl) rfl (fun _ _ _ _ h => h) rfl (.slice (pa k) (plI (gof l) l.length k).length (pc k)) (fun _ => rfl) hS ?_
          simp only [Act.put, List.getElem_toArray, List.getElem_cons_succ, List.getElem_cons_zero, List.setIfInBounds_toArray, List.set_cons_zero, List.set_cons_succ]
          refine y_move (i := 9) rfl (by kernel_rfl) (by kernel_rfl) (by kernel_rfl) (by kernel_rfl) rfl (fun _ _ _ _ h => h) rfl (.int .i64 (k : Int)) (fun _ => rfl) hS ?_
          simp only [Act.put, List.getElem_toArray, List.getElem_cons_succ, List.getElem_cons_zero, List.setIfInBounds_toArray, List.set_cons_zero, List.set_cons_succ]
          refine y_move (i := 10) rfl (by kernel_rfl) (by kernel_rfl) (by kernel_rfl) (by kernel_rfl) rfl (fun _ _ _ _ h => h) rfl (.pointer (some ⟨Bc, k, none⟩)) (fun wx => by unfold execOp; exact run_value_of (xc wx)) hS ?_
          simp only [Act.put, List.getElem_toArray, List.getElem_cons_succ, List.getElem_cons_zero, List.setIfInBounds_toArray, List.set_cons_zero, List.set_cons_succ]
          refine y_load1 (i := 11) rfl (by kernel_rfl) (by kernel_rfl) (by kernel_rfl) (by kernel_rfl) rfl (fun _ _ _ _ h => h) rfl 3 _ rfl ⟨Bc, k, none⟩ rfl _ Try.underlying3 rfl (.int .i64 (ci : Int)) (fun w' h' => (InB.cell h'.1 hck).1) hS ?_
          simp only [Act.put, List.getElem_toArray, List.getElem_cons_succ, List.getElem_cons_zero, List.setIfInBounds_toArray, List.set_cons_zero, List.set_cons_succ]
          refine y_move (i := 12) rfl (by kernel_rfl) (by kernel_rfl) (by kernel_rfl) (by kernel_rfl) rfl (fun _ _ _ _ h => h) rfl (.pointer (some ⟨lb, lo, none⟩)) (fun wx => by unfold execOp; exact run_value_of (xl wx)) hS ?_
          simp only [Act.put, List.getElem_toArray, List.getElem_cons_succ, List.getElem_cons_zero, List.setIfInBounds_toArray, List.set_cons_zero, List.set_cons_succ]
          refine y_load1 (i := 13) rfl (by kernel_rfl) (by kernel_rfl) (by kernel_rfl) (by kernel_rfl) rfl (fun _ _ _ _ h => h) rfl 3 _ rfl ⟨lb, lo, none⟩ rfl _ Try.underlying3 rfl (.int .i64 (i : Int)) (fun w' h' => cell_later h'.2.2 hlc) hS ?_
          simp only [Act.put, List.getElem_toArray, List.getElem_cons_succ, List.getElem_cons_zero, List.setIfInBounds_toArray, List.set_cons_zero, List.set_cons_succ]
          refine y_loads (i := 14) rfl (by kernel_rfl) (by kernel_rfl) (by kernel_rfl) (by kernel_rfl) rfl (fun _ _ _ _ h => h) rfl 86 _ rfl Bc 0 rfl c.cells _ (fun w' h' => range_of (cs := c.cells) h'.1) Try.underlying86 rfl (by kernel_rfl) hS ?_
          simp only [Act.put, List.getElem_toArray, List.getElem_cons_succ, List.getElem_cons_zero, List.setIfInBounds_toArray, List.set_cons_zero, List.set_cons_succ]
          have hS0 := hS
          refine y_call3 (i := 15) (by kernel_rfl) rfl rfl rfl 75 _ _ _ _ _ _ rfl (.agg (pasV l la lc ca cc pa pc).toArray) (.int .i64 (i : Int)) (.agg c.cells.toArray) rfl rfl rfl (cf_fn Try.func75 (by kernel_rfl) (by kernel_rfl) _ _) _ (cW _ hS.2.2) ?_
          rintro e w1 ⟨rfl, hb1⟩
          have hS1 : w1.heap[Bc]? = some (objK c) ∧ w1.heap[Bp]? = some (objPas l la lc ca cc pa pc) ∧ Below w0.heap.size w0 w1 := ⟨(hb1.block Bc (Array.getElem?_eq_some_iff.mp hS.1).1).trans hS.1, (hb1.block Bp (Array.getElem?_eq_some_iff.mp hS.2.1).1).trans hS.2.1, bthen hS.2.2 hb1⟩
          refine ⟨_, rfl, hS1, ?_⟩
          simp only [Act.put, List.getElem_toArray, List.getElem_cons_succ, List.getElem_cons_zero, List.setIfInBounds_toArray, List.set_cons_zero, List.set_cons_succ]
          refine y_move (i := 16) rfl (by kernel_rfl) (by kernel_rfl) (by kernel_rfl) (by kernel_rfl) rfl (fun _ _ _ _ h => h) rfl (.bool true) (fun _ => rfl) hS1 ?_
          simp only [Act.put, List.getElem_toArray, List.getElem_cons_succ, List.getElem_cons_zero, List.setIfInBounds_toArray, List.set_cons_zero, List.set_cons_succ]
          refine y_move (i := 17) rfl (by kernel_rfl) (by kernel_rfl) (by kernel_rfl) (by kernel_rfl) rfl (fun _ _ _ _ h => h) rfl (.bool true) (fun _ => rfl) hS1 ?_
          simp only [Act.put, List.getElem_toArray, List.getElem_cons_succ, List.getElem_cons_zero, List.setIfInBounds_toArray, List.set_cons_zero, List.set_cons_succ]
          refine y_move (i := 18) rfl (by kernel_rfl) (by kernel_rfl) (by kernel_rfl) (by kernel_rfl) rfl (fun _ _ _ _ h => h) rfl (.func (.yield ll) #[] #[]) (fun _ => rfl) hS1 ?_
          simp only [Act.put, List.getElem_toArray, List.getElem_cons_succ, List.getElem_cons_zero, List.setIfInBounds_toArray, List.set_cons_zero, List.set_cons_succ]
          refine y_move (i := 19) rfl (by kernel_rfl) (by kernel_rfl) (by kernel_rfl) (by kernel_rfl) rfl (fun _ _ _ _ h => h) rfl (.slice (pa k) (plI (gof l) l.length k).length (pc k)) (fun _ => rfl) hS1 ?_
          simp only [Act.put, List.getElem_toArray, List.getElem_cons_succ, List.getElem_cons_zero, List.setIfInBounds_toArray, List.set_cons_zero, List.set_cons_succ]
          refine y_move (i := 20) rfl (by kernel_rfl) (by kernel_rfl) (by kernel_rfl) (by kernel_rfl) rfl (fun _ _ _ _ h => h) rfl (.int .i64 (k : Int)) (fun _ => rfl) hS1 ?_
          simp only [Act.put, List.getElem_toArray, List.getElem_cons_succ, List.getElem_cons_zero, List.setIfInBounds_toArray, List.set_cons_zero, List.set_cons_succ]
          refine y_move (i := 21) rfl (by kernel_rfl) (by kernel_rfl) (by kernel_rfl) (by kernel_rfl) rfl (fun _ _ _ _ h => h) rfl (.pointer (some ⟨Bc, k, none⟩)) (fun wx => by unfold execOp; exact run_value_of (xc wx)) hS1 ?_
          simp only [Act.put, List.getElem_toArray, List.getElem_cons_succ, List.getElem_cons_zero, List.setIfInBounds_toArray, List.set_cons_zero, List.set_cons_succ]
          refine y_load1 (i := 22) rfl (by kernel_rfl) (by kernel_rfl) (by kernel_rfl) (by kernel_rfl) rfl (fun _ _ _ _ h => h) rfl 3 _ rfl ⟨Bc, k, none⟩ rfl _ Try.underlying3 rfl (.int .i64 (ci : Int)) (fun w' h' => (InB.cell h'.1 hck).1) hS1 ?_
          simp only [Act.put, List.getElem_toArray, List.getElem_cons_succ, List.getElem_cons_zero, List.setIfInBounds_toArray, List.set_cons_zero, List.set_cons_succ]
          refine y_move (i := 23) rfl (by kernel_rfl) (by kernel_rfl) (by kernel_rfl) (by kernel_rfl) rfl (fun _ _ _ _ h => h) rfl (.pointer (some ⟨lb, lo, none⟩)) (fun wx => by unfold execOp; exact run_value_of (xl wx)) hS1 ?_
          simp only [Act.put, List.getElem_toArray, List.getElem_cons_succ, List.getElem_cons_zero, List.setIfInBounds_toArray, List.set_cons_zero, List.set_cons_succ]
          refine y_load1 (i := 24) rfl (by kernel_rfl) (by kernel_rfl) (by kernel_rfl) (by kernel_rfl) rfl (fun _ _ _ _ h => h) rfl 3 _ rfl ⟨lb, lo, none⟩ rfl _ Try.underlying3 rfl (.int .i64 (i : Int)) (fun w' h' => cell_later h'.2.2 hlc) hS1 ?_
          simp only [Act.put, List.getElem_toArray, List.getElem_cons_succ, List.getElem_cons_zero, List.setIfInBounds_toArray, List.set_cons_zero, List.set_cons_succ]
          refine y_yield1 (m := 0) (l := ll) (by kernel_rfl) rfl rfl _ _ _ rfl rfl (.int .i64 (i : Int)) rfl _ (hYH.out 0 (subK (freeT B (gof l) l.length (cfK c) k) freeT_lt) ⟨i, hil⟩ w1 (abideK hJH.out hs.out.1 (bthen (bey_drew wr) hb1)) hpl.out) ?_
          rintro e W3 (⟨rfl, hJ3, hk3⟩ | ⟨rfl, hJx3⟩)
          · refine ⟨_, rfl, ?_⟩
            simp only [Act.put, List.getElem_toArray, List.getElem_cons_succ, List.getElem_cons_zero, List.setIfInBounds_toArray, List.set_cons_zero, List.set_cons_succ]
            refine wpAnyIn_take (i := 26) (v := .bool false) rfl rfl (by kernel_rfl) (by kernel_rfl) (by kernel_rfl) (fun _ _ _ h => h) ⟨Or.inl ⟨by rfl, fun _ => rfl⟩, fun _ => rfl⟩ ?_
            simp only [Act.put, List.getElem_toArray, List.getElem_cons_succ, List.getElem_cons_zero, List.setIfInBounds_toArray, List.set_cons_zero, List.set_cons_succ]
            refine wpAnyIn_take (i := 27) (v := .bool false) rfl rfl (by kernel_rfl) (by kernel_rfl) (by kernel_rfl) (fun _ _ _ h => h) ⟨Or.inl ⟨by rfl, fun _ => rfl⟩, fun _ => rfl⟩ ?_
            simp only [Act.put, List.getElem_toArray, List.getElem_cons_succ, List.getElem_cons_zero, List.setIfInBounds_toArray, List.set_cons_zero, List.set_cons_succ]
            refine wpAnyIn_done (by kernel_rfl) ?_ _
            have hs2 : Hid (J (subK (freeT B (gof l) l.length (cfK c) (k + 1)) freeT_lt) W3 ∧ W3.heap[Bc]? = some (objK c) ∧ W3.heap[Bp]? = some (objPas l la lc ca cc pa pc) ∧ Below w0.heap.size w0 W3) := ⟨by rw [hNs.out]; exact hJ3, hk3.c _ _ _ hS1.1, hk3.p _ _ _ hS1.2.1, hS1.2.2.trans hk3.b⟩
            clear hs hS hS0 hS1 hNs hb1 cW xc xl hck hJ3 hk3
            gi_wp2
            go_roundw
            case rel => exact ⟨k + 1, by omega, by go_num, hs2⟩
            case measure => simp [intOf]; omega
          · refine ⟨_, rfl, ?_⟩
            simp only [Act.put, List.getElem_toArray, List.getElem_cons_succ, List.getElem_cons_zero, List.setIfInBounds_toArray, List.set_cons_zero, List.set_cons_succ]
            refine wpAnyIn_take (i := 26) (v := .bool true) rfl rfl (by kernel_rfl) (by kernel_rfl) (by kernel_rfl) (fun _ _ _ h => h) ⟨Or.inl ⟨by rfl, fun _ => rfl⟩, fun _ => rfl⟩ ?_
            simp only [Act.put, List.getElem_toArray, List.getElem_cons_succ, List.getElem_cons_zero, List.setIfInBounds_toArray, List.set_cons_zero, List.set_cons_succ]
            refine wpAnyIn_take (i := 27) (v := .bool true) rfl rfl (by kernel_rfl) (by kernel_rfl) (by kernel_rfl) (fun _ _ _ h => h) ⟨Or.inl ⟨by rfl, fun _ => rfl⟩, fun _ => rfl⟩ ?_
            simp only [Act.put, List.getElem_toArray, List.getElem_cons_succ, List.getElem_cons_zero, List.setIfInBounds_toArray, List.set_cons_zero, List.set_cons_succ]
            refine wpAnyIn_done (by kernel_rfl) ?_ _
            gi_wp2
            refine bodyPost_ret (results_none rfl _ _ _) rfl ?_
            exact ⟨⟨_, rfl⟩, .inr ⟨k + 1, by omega, by rw [hNs.out]; exact hJx3⟩⟩
      · have hdl : ¬ ((ci : Int) < ((plI (gof l) l.length k).length : Int)) := by omega
        have hN : Hid (freeT B (gof l) l.length (cfK c) (k + 1) = freeT B (gof l) l.length (cfK c) k) := by
          show _ = _
          rw [hmore.out, freeA_none (by rw [hcf.out, ← hlp.out]; exact hcl)]
          simp
        clear hmore
        refine y_move (i := 5) rfl (by kernel_rfl) (by kernel_rfl) (by kernel_rfl) (by kernel_rfl) rfl (fun _ _ _ _ h => h) rfl (.bool false) (fun wx => by simp [execOp, hdl, go_sem]) hS ?_
        simp only [Act.put, List.getElem_toArray, List.getElem_cons_succ, List.getElem_cons_zero, List.setIfInBounds_toArray, List.set_cons_zero, List.set_cons_succ]
        refine y_move (i := 6) rfl (by kernel_rfl) (by kernel_rfl) (by kernel_rfl) (by kernel_rfl) rfl (fun _ _ _ _ h => h) rfl (.bool false) (fun _ => rfl) hS ?_
        simp only [Act.put, List.getElem_toArray, List.getElem_cons_succ, List.getElem_cons_zero, List.setIfInBounds_toArray, List.set_cons_zero, List.set_cons_succ]
        refine y_skip (i := 7) rfl (by kernel_rfl) (by kernel_rfl) (by kernel_rfl) (by kernel_rfl) rfl (fun _ _ _ _ h => h) rfl hS ?_
        simp only [Act.put, List.getElem_toArray, List.getElem_cons_succ, List.getElem_cons_zero, List.setIfInBounds_toArray, List.set_cons_zero, List.set_cons_succ]
        refine y_skip (i := 8) rfl (by kernel_rfl) (by kernel_rfl) (by kernel_rfl) (by kernel_rfl) rfl (fun _ _ _ _ h => h) rfl hS ?_
        simp only [Act.put, List.getElem_toArray, List.getElem_cons_succ, List.getElem_cons_zero, List.setIfInBounds_toArray, List.set_cons_zero, List.set_cons_succ]
        refine y_skip (i := 9) rfl (by kernel_rfl) (by kernel_rfl) (by kernel_rfl) (by kernel_rfl) rfl (fun _ _ _ _ h => h) rfl hS ?_
        simp only [Act.put, List.getElem_toArray, List.getElem_cons_succ, List.getElem_cons_zero, List.setIfInBounds_toArray, List.set_cons_zero, List.set_cons_succ]
        refine y_skip (i := 10) rfl (by kernel_rfl) (by kernel_rfl) (by kernel_rfl) (by kernel_rfl) rfl (fun _ _ _ _ h => h) rfl hS ?_
        simp only [Act.put, List.getElem_toArray, List.getElem_cons_succ, List.getElem_cons_zero, List.setIfInBounds_toArray, List.set_cons_zero, List.set_cons_succ]
        refine y_skip (i := 11) rfl (by kernel_rfl) (by kernel_rfl) (by kernel_rfl) (by kernel_rfl) rfl (fun _ _ _ _ h => h) rfl hS ?_
        simp only [Act.put, List.getElem_toArray, List.getElem_cons_succ, List.getElem_cons_zero, List.setIfInBounds_toArray, List.set_cons_zero, List.set_cons_succ]
        refine y_skip (i := 12) rfl (by kernel_rfl) (by kernel_rfl) (by kernel_rfl) (by kernel_rfl) rfl (fun _ _ _ _ h => h) rfl hS ?_
        simp only [Act.put, List.getElem_toArray, List.getElem_cons_succ, List.getElem_cons_zero, List.setIfInBounds_toArray, List.set_cons_zero, List.set_cons_succ]
        refine y_skip (i := 13) rfl (by kernel_rfl) (by kernel_rfl) (by kernel_rfl) (by kernel_rfl) rfl (fun _ _ _ _ h => h) rfl hS ?_
        simp only [Act.put, List.getElem_toArray, List.getElem_cons_succ, List.getElem_cons_zero, List.setIfInBounds_toArray, List.set_cons_zero, List.set_cons_succ]
        refine y_skip (i := 14) rfl (by kernel_rfl) (by kernel_rfl) (by kernel_rfl) (by kernel_rfl) rfl (fun _ _ _ _ h => h) rfl hS ?_
        simp only [Act.put, List.getElem_toArray, List.getElem_cons_succ, List.getElem_cons_zero, List.setIfInBounds_toArray, List.set_cons_zero, List.set_cons_succ]
        refine y_skip (i := 15) rfl (by kernel_rfl) (by kernel_rfl) (by kernel_rfl) (by kernel_rfl) rfl (fun _ _ _ _ h => h) rfl hS ?_
        simp only [Act.put, List.getElem_toArray, List.getElem_cons_succ, List.getElem_cons_zero, List.setIfInBounds_toArray, List.set_cons_zero, List.set_cons_succ]
        refine y_move (i := 16) rfl (by kernel_rfl) (by kernel_rfl) (by kernel_rfl) (by kernel_rfl) rfl (fun _ _ _ _ h => h) rfl (.bool false) (fun _ => rfl) hS ?_
        simp only [Act.put, List.getElem_toArray, List.getElem_cons_succ, List.getElem_cons_zero, List.setIfInBounds_toArray, List.set_cons_zero, List.set_cons_succ]
        refine y_move (i := 17) rfl (by kernel_rfl) (by kernel_rfl) (by kernel_rfl) (by kernel_rfl) rfl (fun _ _ _ _ h => h) rfl (.bool false) (fun _ => rfl) hS ?_
        simp only [Act.put, List.getElem_toArray, List.getElem_cons_succ, List.getElem_cons_zero, List.setIfInBounds_toArray, List.set_cons_zero, List.set_cons_succ]
        refine y_skip (i := 18) rfl (by kernel_rfl) (by kernel_rfl) (by kernel_rfl) (by kernel_rfl) rfl (fun _ _ _ _ h => h) rfl hS ?_
        simp only [Act.put, List.getElem_toArray, List.getElem_cons_succ, List.getElem_cons_zero, List.setIfInBounds_toArray, List.set_cons_zero, List.set_cons_succ]
        refine y_skip (i := 19) rfl (by kernel_rfl) (by kernel_rfl) (by kernel_rfl) (by kernel_rfl) rfl (fun _ _ _ _ h => h) rfl hS ?_
        simp only [Act.put, List.getElem_toArray, List.getElem_cons_succ, List.getElem_cons_zero, List.setIfInBounds_toArray, List.set_cons_zero, List.set_cons_succ]
        refine y_skip (i := 20) rfl (by kernel_rfl) (by kernel_rfl) (by kernel_rfl) (by kernel_rfl) rfl (fun _ _ _ _ h => h) rfl hS ?_
        simp only [Act.put, List.getElem_toArray, List.getElem_cons_succ, List.getElem_cons_zero, List.setIfInBounds_toArray, List.set_cons_zero, List.set_cons_succ]
        refine y_skip (i := 21) rfl (by kernel_rfl) (by kernel_rfl) (by kernel_rfl) (by kernel_rfl) rfl (fun _ _ _ _ h => h) rfl hS ?_
        simp only [Act.put, List.getElem_toArray, List.getElem_cons_succ, List.getElem_cons_zero, List.setIfInBounds_toArray, List.set_cons_zero, List.set_cons_succ]
        refine y_skip (i := 22) rfl (by kernel_rfl) (by kernel_rfl) (by kernel_rfl) (by kernel_rfl) rfl (fun _ _ _ _ h => h) rfl hS ?_
        simp only [Act.put, List.getElem_toArray, List.getElem_cons_succ, List.getElem_cons_zero, List.setIfInBounds_toArray, List.set_cons_zero, List.set_cons_succ]
        refine y_skip (i := 23) rfl (by kernel_rfl) (by kernel_rfl) (by kernel_rfl) (by kernel_rfl) rfl (fun _ _ _ _ h => h) rfl hS ?_
        simp only [Act.put, List.getElem_toArray, List.getElem_cons_succ, List.getElem_cons_zero, List.setIfInBounds_toArray, List.set_cons_zero, List.set_cons_succ]
        refine y_skip (i := 24) rfl (by kernel_rfl) (by kernel_rfl) (by kernel_rfl) (by kernel_rfl) rfl (fun _ _ _ _ h => h) rfl hS ?_
        simp only [Act.put, List.getElem_toArray, List.getElem_cons_succ, List.getElem_cons_zero, List.setIfInBounds_toArray, List.set_cons_zero, List.set_cons_succ]
        refine y_pass (by kernel_rfl) rfl rfl ?_
        simp only [Act.put, List.getElem_toArray, List.getElem_cons_succ, List.getElem_cons_zero, List.setIfInBounds_toArray, List.set_cons_zero, List.set_cons_succ]
        refine wpAnyIn_take (i := 26) (v := undef) rfl rfl (by kernel_rfl) (by kernel_rfl) (by kernel_rfl) (fun _ _ _ h => h) ⟨Or.inr ⟨by rfl, rfl⟩, fun _ => rfl⟩ ?_
        simp only [Act.put, List.getElem_toArray, List.getElem_cons_succ, List.getElem_cons_zero, List.setIfInBounds_toArray, List.set_cons_zero, List.set_cons_succ]
        refine wpAnyIn_take (i := 27) (v := .bool false) rfl rfl (by kernel_rfl) (by kernel_rfl) (by kernel_rfl) (fun _ _ _ h => h) ⟨Or.inl ⟨by rfl, fun _ => rfl⟩, fun _ => rfl⟩ ?_
        simp only [Act.put, List.getElem_toArray, List.getElem_cons_succ, List.getElem_cons_zero, List.setIfInBounds_toArray, List.set_cons_zero, List.set_cons_succ]
        refine wpAnyIn_done (by kernel_rfl) ?_ _
        have hs2 : Hid (J (subK (freeT B (gof l) l.length (cfK c) (k + 1)) freeT_lt) wr.drew ∧ wr.drew.heap[Bc]? = some (objK c) ∧ wr.drew.heap[Bp]? = some (objPas l la lc ca cc pa pc) ∧ Below w0.heap.size w0 wr.drew) := ⟨by rw [subK_congr hN.out]; exact abideK hJH.out hs.out.1 (bey_drew wr), hS⟩
        clear hs hS hN xc hck
        gi_wp2
        go_roundw
        case rel => exact ⟨k + 1, by omega, by go_num, hs2⟩
        case measure => simp [intOf]; omega
    · have hkI : ¬ ((k : Int) < 6) := by omega
      have hke : k = 6 := by omega
      have hfin : Hid (J (subK (freeT B (gof l) l.length (cfK c) 6) freeT_lt) wr) := by have := hs.out.1; subst hke; exact this
      clear hs hke
      gi_wp2
      go_end0
      exact ⟨⟨_, rfl⟩, .inl hfin.out⟩
end Go.Proofs.Ytkadlopcomjonaa.pg
/- The canonical order of a trace: package canon's Form. -/
namespace Go.Proofs.Ytkadlopcomjonaa.pg
open Go.ChangeShapes Go.WideShapes Go.ChangeAt Go.RowKit Go.Shelf
set_option linter.unusedVariables false
set_option linter.unusedSimpArgs false
set_option maxRecDepth 100000
attribute [local go_sem] Oper.semAt_some
theorem free_any (l : List Ev) (la : Option Addr) (lc : Nat) (ca : Option Addr) (cc : Nat) (pa : Nat → Option Addr) (pc : Nat → Nat) (c : Ck) (w : World) : Calls Try.prog 45 #[.agg (pasV l la lc ca cc pa pc).toArray, .agg c.cells.toArray] w fun e w' => e = .returned (.func (.func 74) #[] #[.pointer (some ⟨w.heap.size, 0, none⟩), .pointer (some ⟨w.heap.size + 1, 0, none⟩)]) ∧ w' = (w.alloc (objPas l la lc ca cc pa pc)).alloc (objK c) := by
  go_enter Try.func45, Try.ntmps45
  go_wp2
  go_ret
  exact ⟨rfl, rfl⟩
theorem free_stops (n : Nat) (w0 : World) (l : List Ev) (la : Option Addr) (lc : Nat) (ca : Option Addr) (cc : Nat) (pa : Nat → Option Addr) (pc : Nat → Nat) (lo0 : Nat) (hl : Rows w0 26 la lc (l.map Ev.cells)) (hP : Pst w0 lo0 l ca cc pa pc) (hlen : l.length ≤ 256) (hrt : ∀ x ∈ l, rightP x) {B : Nat → Nat → Bool} (hB : Tells (dpf l) B) (c : Ck) (hc : okCut c) (Bp Bc : Nat) (w : World) (hW : Below w0.heap.size w0 w) (hBp : w.heap[Bp]? = some (objPas l la lc ca cc pa pc)) (hBc : w.heap[Bc]? = some (objK c)) :
    SeqStopsK Fence.wide n Try.prog 74 #[.pointer (some ⟨Bp, 0, none⟩), .pointer (some ⟨Bc, 0, none⟩)] (fun x : PlK l.length => #[Value.int .i64 (x.1 : Int)]) (KeepP w0.heap.size Bp Bc) (fun ys => ys = subK (freeT B (gof l) l.length (cfK c) 6) freeT_lt) (fun ys => ∃ k, k ≤ 6 ∧ ys = subK (freeT B (gof l) l.length (cfK c) k) freeT_lt) 6 w := by
  intro ll J Jx W hb hJ _ hY h0
  have h1 := free1_in n w0 l la lc ca cc pa pc lo0 hl hP hlen hrt hB c hc ll W.heap.size Bp Bc J Jx hJ (fun m pre x V hp hlt => yieldAnyK m (hY pre x V hp hlt)) W (bthen hW hb) ((hb.block Bp (Array.getElem?_eq_some_iff.mp hBp).1).trans hBp) ((hb.block Bc (Array.getElem?_eq_some_iff.mp hBc).1).trans hBc) h0
  refine h1.mono ?_
  rintro e W' ⟨h2, h3⟩
  refine ⟨h2, ?_⟩
  rcases h3 with h | ⟨k, hk, h⟩
  · exact .inl ⟨_, rfl, h⟩
  · exact .inr ⟨_, ⟨k, hk, rfl⟩, h⟩
theorem freeT_pre (B : Nat → Nat → Bool) (g : Nat → Nat) (n : Nat) (c : Nat → Nat) {k : Nat} (h : k ≤ 6) : ∃ t, freeL B g n c = freeT B g n c k ++ t := by
  have e : List.range 6 = List.range k ++ (List.range' k (6 - k)) := by
    match k, h with
    | 0, _ => rfl
    | 1, _ => rfl
    | 2, _ => rfl
    | 3, _ => rfl
    | 4, _ => rfl
    | 5, _ => rfl
    | 6, _ => rfl
  refine ⟨(List.range' k (6 - k)).filterMap (freeA B g n c), ?_⟩
  unfold freeL freeT
  rw [← List.filterMap_append, ← e]
theorem withinB_congr {B : Nat → Nat → Bool} {g : Nat → Nat} {c c' : Nat → Nat} (h : ∀ a, a < 6 → c a = c' a) (x : Nat) : withinB B g c x = withinB B g c' x := by
  unfold withinB
  refine all_congr_K fun a ha => ?_
  rw [List.mem_range] at ha
  unfold incC
  rw [h a ha]
theorem freeA_congr {B : Nat → Nat → Bool} {g : Nat → Nat} {n : Nat} {c c' : Nat → Nat} (h : ∀ a, a < 6 → c a = c' a) {a : Nat} (ha : a < 6) : freeA B g n c a = freeA B g n c' a := by
  unfold freeA
  rw [h a ha]
  congr 1
  funext x
  exact withinB_congr h x
theorem fmap_congrK {α β : Type} {f h : α → Option β} : ∀ {l : List α}, (∀ x ∈ l, f x = h x) → l.filterMap f = l.filterMap h
  | [], _ => rfl
  | x :: l, q => by rw [List.filterMap_cons, List.filterMap_cons, q x (by simp), fmap_congrK fun y hy => q y (by simp [hy])]
theorem freeL_congr {B : Nat → Nat → Bool} {g : Nat → Nat} {n : Nat} {c c' : Nat → Nat} (h : ∀ a, a < 6 → c a = c' a) : freeL B g n c = freeL B g n c' := by
  unfold freeL
  refine fmap_congrK fun a ha => freeA_congr h (List.mem_range.mp ha)
/-- What the canonical order takes next is what comes first. -/
theorem next_pick {d B : Nat → Nat → Bool} (hB : Tells d B) {g : Nat → Nat} {n : Nat} (ho : Ord d g n) (hg : ∀ k, k < n → g k < 6) {L : List Nat} (hO : OrdL B g n L) (hk : L.length < n) {c : Nat → Nat} (hu : ∀ a, a < 6 → c a = cutS g n (memS L) a) : ∃ x t, freeL B g n c = x :: t ∧ Pick B g n (memS L) x := by
  have hD := hO.lin.down hB
  rw [freeL_congr hu]
  have hm : cnt (memS L) n < n := by rw [cnt_memS L hO.lin.nodup hO.lin.lt]; exact hk
  obtain ⟨i, h1, h2⟩ := free_some (B := B) (miss_some hm)
  have hi := (freeL_mem hB ho hg hD i).mpr ⟨h1, h2⟩
  cases hf : freeL B g n (cutS g n (memS L)) with
  | nil => rw [hf] at hi; cases hi
  | cons x t => exact ⟨x, t, rfl, freeL_pick hB ho hg hD hf⟩
/-- The cells of an order of which the beginning is told. -/
def fmC (n : Nat) (L : List Nat) : List Value := (L.map fun x : Nat => Value.int .i64 (x : Int)) ++ List.replicate (n - L.length) (Value.int .i64 0)
theorem fmC_set {n : Nat} {L : List Nat} (x : Nat) (h : L.length < n) : (fmC n L).toArray.setIfInBounds L.length (.int .i64 (x : Int)) = (fmC n (L ++ [x])).toArray := by
  unfold fmC
  rw [List.setIfInBounds_toArray]
  congr 1
  rw [List.set_append_right _ _ (by rw [List.length_map]; exact Nat.le_refl _), List.length_map, Nat.sub_self, List.map_append, List.length_append]
  obtain ⟨m, hm⟩ : ∃ m, n - L.length = m + 1 := ⟨n - L.length - 1, by omega⟩
  rw [hm, List.replicate_succ, List.set_cons_zero, show n - (L.length + [x].length) = m by simp only [List.length_cons, List.length_nil]; omega]
  simp
theorem fmC_at {n : Nat} {L : List Nat} {x k : Nat} (h : L[k]? = some x) : (fmC n L).toArray[k]? = some (.int .i64 (x : Int)) := by
  unfold fmC
  rw [List.getElem?_toArray, List.getElem?_append_left (by rw [List.length_map]; exact (List.getElem?_eq_some_iff.mp h).1), List.getElem?_map, h]
  rfl
theorem fmC_in {n : Nat} {L : List Nat} {k : Nat} (h : k < n) (hl : L.length ≤ n) : ∃ v, (fmC n L).toArray[k]? = some v := by
  refine ⟨_, Array.getElem?_eq_getElem (i := k) ?_⟩
  unfold fmC
  simp
  omega
theorem ix_fm (A n : Nat) (j : Nat) (h : j < n) : ∀ wx, (Instr.indexAt 39 (.slice (some ⟨A, 0, none⟩) n n) (.int .i64 (j : Int))).run Try.prog wx = .ok (.pointer (some ⟨A, j, none⟩)) wx := ix_int A n j h
abbrev mkK (D : Nat) : Deferred := { target := .collected D, args := #[] }
/-- The marks that ranges leave. -/
structure MarksK (n₀ : Nat) (Ds : List Nat) (W : World) : Prop where
  nd : Ds.Nodup
  at_ : ∀ D ∈ Ds, n₀ ≤ D ∧ W.heap[D]? = some (.deferred (some []))
theorem MarksK.nil (n₀ : Nat) (W : World) : MarksK n₀ [] W := ⟨List.nodup_nil, by simp⟩
theorem MarksK.lt {n₀ : Nat} {Ds : List Nat} {W : World} (h : MarksK n₀ Ds W) {D : Nat} (hD : D ∈ Ds) : D < W.heap.size := (Array.getElem?_eq_some_iff.mp (h.at_ D hD).2).1
theorem MarksK.keep {n₀ : Nat} {Ds : List Nat} {W W' : World} (h : MarksK n₀ Ds W) (hk : ∀ D ∈ Ds, W'.heap[D]? = W.heap[D]?) : MarksK n₀ Ds W' := ⟨h.nd, fun D hD => ⟨(h.at_ D hD).1, (hk D hD).trans (h.at_ D hD).2⟩⟩
theorem MarksK.later {n₀ : Nat} {Ds : List Nat} {W W' : World} (h : MarksK n₀ Ds W) (hb : Below W.heap.size W W') : MarksK n₀ Ds W' := h.keep fun D hD => hb.block D (h.lt hD)
theorem MarksK.more {n₀ : Nat} {Ds : List Nat} {W : World} (h : MarksK n₀ Ds W) {D : Nat} (hn : n₀ ≤ D) (hne : D ∉ Ds) (hD : W.heap[D]? = some (.deferred (some []))) : MarksK n₀ (D :: Ds) W :=
  ⟨List.nodup_cons.mpr ⟨hne, h.nd⟩, fun E hE => by
    rcases List.mem_cons.mp hE with rfl | hE
    · exact ⟨hn, hD⟩
    · exact h.at_ E hE⟩
structure KeepDK (n₀ : Nat) (W W' : World) : Prop where
  b : Below n₀ W W'
  c : ∀ (b : Nat) (o : Obj), W.heap[b]? = some o → (∀ z, o ≠ .deferred z) → W'.heap[b]? = some o
theorem leaves_marksK {F : Fence} {n : Nat} {P : Program} {fn : Func} {tmps : Array Value} {R : Ending → World → Prop} {n₀ : Nat} : ∀ (Ds : List Nat) (W : World), MarksK n₀ Ds W → (∀ W', KeepDK n₀ W W' → LeavesIn F n P fn tmps R [] .returning W') → LeavesInM F n P fn tmps R (Ds.map mkK) .returning W
  | [], W, _, h => h W ⟨Below.refl _ _, fun _ _ q _ => q⟩
  | D :: Ds, W, hm, h => by
    obtain ⟨hn, hD⟩ := hm.at_ D (by simp)
    have hnd := List.nodup_cons.mp hm.nd
    refine ⟨(fun q => by cases q), .inl ⟨D, _, rfl, run_takeDeferred hD, ?_⟩⟩
    refine leaves_marksK Ds _ ⟨hnd.2, fun E hE => ⟨(hm.at_ E (by simp [hE])).1, (World.putObj_heap_other (show E ≠ D from fun e => by subst e; exact hnd.1 hE)).trans (hm.at_ E (by simp [hE])).2⟩⟩ fun W' hk => h W' ?_
    have hb : Below n₀ W (W.putObj D (.deferred none)) := (Below.refl n₀ W).grown (grownBy_putObj' W D _) (by have := hm.lt (D := D) (by simp); omega) (fun k e => by cases e; exact hn)
    exact ⟨hb.trans hk.b, fun b o q qn => hk.c b o (by
      by_cases e : b = D
      · subst e; rw [hD] at q; cases q; exact absurd rfl (qn _)
      · exact (World.putObj_heap_other e).trans q) qn⟩
theorem keepP_b {n₀ Bp Bc : Nat} {w : World} (hn : n₀ ≤ w.heap.size) (h1 : Bp < w.heap.size) (h2 : Bc < w.heap.size) (W : World) (l : Nat) (o o' : Obj) (hl : w.heap.size ≤ l) (h : W.heap[l]? = some o) (h3 : o.isCells = false) (h4 : o.isWalk = false) : KeepP n₀ Bp Bc W (W.putObj l o') :=
  ⟨belowK_b hn W l o o' hl h h3 h4, fun cs t z q => (World.putObj_heap_other (by omega)).trans q, fun cs t z q => (World.putObj_heap_other (by omega)).trans q⟩
theorem results_two {fn : Func} {p q : Tmp} (h : fn.results = #[.tmp p, .tmp q]) (tmps : Array Value) (w : World) (u v : Value) (hp : tmps.getD p undef = u) (hq : tmps.getD q undef = v) : (results fn tmps).run Try.prog w = .ok (.tuple #[u, v]) w := by
  have hp' : tmps[p]?.getD undef = u := by simpa using hp
  have hq' : tmps[q]?.getD undef = v := by simpa using hq
  simp [results, h, hp', hq']
/-- How all lies while the order is told. -/
structure FS (w1 W : World) (l : List Ev) (la : Option Addr) (lc : Nat) (ca : Option Addr) (cc : Nat) (pa : Nat → Option Addr) (pc : Nat → Nat) (L : List Nat) (c : Ck) : Prop where
  b : Below w1.heap.size w1 W
  p : W.heap[w1.heap.size]? = some (objPas l la lc ca cc pa pc)
  f : W.heap[w1.heap.size + 1]? = some (.cells (fmC l.length L).toArray 3)
  s : W.heap[w1.heap.size + 1 + 1]? = some (.cells #[.slice (some ⟨w1.heap.size + 1, 0, none⟩) l.length l.length] 39)
  c : W.heap[w1.heap.size + 1 + 1 + 1]? = some (objK c)
section
variable {w1 W W' : World} {l : List Ev} {la : Option Addr} {lc : Nat} {ca : Option Addr} {cc : Nat} {pa : Nat → Option Addr} {pc : Nat → Nat} {L : List Nat} {c : Ck}
theorem FS.lt (h : FS w1 W l la lc ca cc pa pc L c) : w1.heap.size + 1 + 1 + 1 < W.heap.size := (Array.getElem?_eq_some_iff.mp h.c).1
theorem FS.keep (h : FS w1 W l la lc ca cc pa pc L c) (hb : Below w1.heap.size W W') (hk : ∀ b, b < w1.heap.size + 4 → W'.heap[b]? = W.heap[b]?) : FS w1 W' l la lc ca cc pa pc L c :=
  ⟨h.b.trans hb, (hk _ (by omega)).trans h.p, (hk _ (by omega)).trans h.f, (hk _ (by omega)).trans h.s, (hk _ (by omega)).trans h.c⟩
theorem FS.later (h : FS w1 W l la lc ca cc pa pc L c) (hb : Below W.heap.size W W') : FS w1 W' l la lc ca cc pa pc L c := h.keep (hb.mono (by have := h.lt; omega)) fun b q => hb.block b (by have := h.lt; omega)
theorem FS.put (h : FS w1 W l la lc ca cc pa pc L c) (x : Nat) (hL : L.length < l.length) : FS w1 (W.setCell ⟨w1.heap.size + 1, L.length, none⟩ (.int .i64 (x : Int))) l la lc ca cc pa pc (L ++ [x]) c := by
  have hne : ∀ b, b ≠ w1.heap.size + 1 → (W.setCell ⟨w1.heap.size + 1, L.length, none⟩ (.int .i64 (x : Int))).heap[b]? = W.heap[b]? := fun b q => Below.heap_setCell _ _ _ _ q
  refine ⟨h.b.setCell (p := ⟨w1.heap.size + 1, L.length, none⟩) (by show w1.heap.size ≤ w1.heap.size + 1; omega) _, (hne _ (by omega)).trans h.p, ?_, (hne _ (by omega)).trans h.s, (hne _ (by omega)).trans h.c⟩
  rw [setCell_eq_setRow W (w1.heap.size + 1) L.length _ _ _ _ h.f, setRow_heap W (w1.heap.size + 1) _ _ _ _ h.f, fmC_set x hL]
theorem FS.tick (h : FS w1 W l la lc ca cc pa pc L c) {g : Nat} (hg : g < 6) : FS w1 (W.setCell ⟨w1.heap.size + 1 + 1 + 1, g, none⟩ (.int .i64 (c.of g + 1))) l la lc ca cc pa pc L (tk c g) := by
  have hne : ∀ b, b ≠ w1.heap.size + 1 + 1 + 1 → (W.setCell ⟨w1.heap.size + 1 + 1 + 1, g, none⟩ (.int .i64 (c.of g + 1))).heap[b]? = W.heap[b]? := fun b q => Below.heap_setCell _ _ _ _ q
  exact ⟨h.b.setCell (p := ⟨w1.heap.size + 1 + 1 + 1, g, none⟩) (by show w1.heap.size ≤ w1.heap.size + 1 + 1 + 1; omega) _, (hne _ (by omega)).trans h.p, (hne _ (by omega)).trans h.f, (hne _ (by omega)).trans h.s, InB.put (z := c) h.c hg (c.of g + 1)⟩
end
/-- What is known of the order and of the cut. -/
structure FO (B : Nat → Nat → Bool) (l : List Ev) (L : List Nat) (c : Ck) : Prop where
  o : OrdL B (gof l) l.length L
  u : ∀ a, a < 6 → c.of a = (cutS (gof l) l.length (memS L) a : Int)
theorem FO.ok {B : Nat → Nat → Bool} {l : List Ev} {L : List Nat} {c : Ck} (h : FO B l L c) (hlen : l.length ≤ 256) : okCut c := fun a ha => by
  rw [h.u a ha]
  have := cnt_le (fun k => gof l k == a && memS L k) l.length
  unfold cutS
  omega
theorem FO.cf {B : Nat → Nat → Bool} {l : List Ev} {L : List Nat} {c : Ck} (h : FO B l L c) : ∀ a, a < 6 → cfK c a = cutS (gof l) l.length (memS L) a := fun a ha => by
  unfold cfK
  rw [h.u a ha]
  exact Int.toNat_natCast _
theorem FO.next {B : Nat → Nat → Bool} {l : List Ev} {L : List Nat} {c : Ck} (h : FO B l L c) (hB : Tells (dpf l) B) (hrt : ∀ x ∈ l, rightP x) {x : Nat} (hp : Pick B (gof l) l.length (memS L) x) : FO B l (L ++ [x]) (tk c (gof l x)) := by
  refine ⟨h.o.snoc hp, fun a ha => ?_⟩
  rw [of_tk (gof_lt hrt hp.lt) ha, h.u a ha, memS_snoc, cut_ins hp.lt (freeB_iff.mp hp.fr).1]
  unfold incC
  split <;> omega
theorem FO.start (B : Nat → Nat → Bool) (l : List Ev) : FO B l [] zeroK := ⟨OrdL.nil _ _ _, fun a ha => by
  rw [of_zero ha, memS_nil]
  unfold cutS
  rw [cnt_cut (m := 0) (n := l.length) (Nat.zero_le _) fun k _ _ => by rw [Bool.and_false]]
  rfl⟩
def fmA (q : Nat) (l : List Ev) (la : Option Addr) (lc : Nat) (ca : Option Addr) (cc : Nat) (pa : Nat → Option Addr) (pc : Nat → Nat) (k : Nat) (u8 u9 u24 u25 u26 u27 u28 u29 u30 u31 u32 u33 u34 u35 u36 u37 u38 u39 u40 u41 u42 u43 u44 u45 u46 : Value) (d : List Deferred) : Act := { tmps := #[.slice la l.length lc, undef, .slice none 0 0, .int .i64 0, .pointer (some ⟨q, 0, none⟩), .int .i64 0, .pointer (some ⟨q + 1 + 1, 0, none⟩), .pointer (some ⟨q + 1 + 1 + 1, 0, none⟩), u8, u9, .tuple #[.agg (pasV l la lc ca cc pa pc).toArray, .int .i64 0], .slice la l.length lc, .tuple #[.agg (pasV l la lc ca cc pa pc).toArray, .int .i64 0], .agg (pasV l la lc ca cc pa pc).toArray, .int .i64 0, .int .i64 0, .bool false, undef, .slice la l.length lc, .int .i64 (l.length : Int), .slice (some ⟨q + 1, 0, none⟩) l.length l.length, .slice (some ⟨q + 1, 0, none⟩) l.length l.length, .int .i64 (l.length : Int), .int .i64 (k : Int), u24, u25, u26, u27, u28, u29, u30, u31, u32, u33, u34, u35, u36, u37, u38, u39, u40, u41, u42, u43, u44, u45, u46, undef], defers := d }
set_option maxHeartbeats 8000000 in
theorem form_ok (l : List Ev) (la : Option Addr) (lc : Nat) (w : World) (hl : Rows w 26 la lc (l.map Ev.cells)) (hlen : l.length ≤ 256) (hrt : ∀ x ∈ l, rightP x) {B : Nat → Nat → Bool} (hB : Tells (dpf l) B) :
    Calls Try.prog 19 #[.slice la l.length lc] w fun e w' => ∃ (L : List Nat) (A : Nat), e = .returned (.tuple #[.slice (some ⟨A, 0, none⟩) l.length l.length, .int .i64 0]) ∧ OrdL B (gof l) l.length L ∧ L.length = l.length ∧ w.heap.size ≤ A ∧ w'.heap[A]? = some (.cells (fmC l.length L).toArray 3) ∧ Below w.heap.size w w' := by
  obtain ⟨iN, hiN, hzN, hsN, hbN⟩ := info_q infoN_u
  have c1 := klook_ok l la lc w hl hlen hrt
  have huP : Hid (Try.prog.underlying 82 = _) := Try.underlying82
  have huK : Hid (Try.prog.underlying 86 = _) := Try.underlying86
  have hzK : Hid (∀ w, (zeroValue 82).run Try.prog w = .ok (.agg #[.slice none 0 0, .slice none 0 0, .slice none 0 0, .slice none 0 0, .slice none 0 0, .slice none 0 0, .slice none 0 0, .slice none 0 0]) w) := fun w => by kernel_rfl
  have hlenI : (l.length : Int) ≤ 256 := by omega
  have hlH : Hid (Rows w 26 la lc (l.map Ev.cells)) := hl
  have hrH : Hid (∀ x ∈ l, rightP x) := hrt
  have hBH : Hid (Tells (dpf l) B) := hB
  clear hl hrt hB
  refine (callsIn_wide (n := 3)).1 ?_
  refine callsIn_of_wp_marks Try.func19 rfl trivial ?_ rfl
  simp only [Try.ntmps19, List.size_toArray, List.length_cons, List.length_nil, Nat.reduceAdd, Nat.reduceSub, Array.replicate_succ, Array.replicate_zero, List.push_toArray, List.append_toArray, List.nil_append, List.cons_append]
  refine wpIn_wide.2 ?_
  go_upto_region 4 with (first
    | (go_at_call 44; (with_reducible refine c1.mono ?_); rintro e w1 ⟨ca, cc, pa, pc, rfl, hp1, hb1⟩; (have hp1H : Hid (Pst w1 w.heap.size l ca cc pa pc) := hp1); (have hb1H : Hid (Below w.heap.size w w1) := hb1); clear hp1 hb1)
    | (refine wpList_alloc_big rfl 82 rfl hzK.out ?_)
    | (refine wpList_store_row rfl 82 _ _ rfl w1.heap.size (pasV l la lc ca cc pa pc).toArray rfl rfl _ _ (heap_alloc_new w1 _) infoPa rfl (pas_one _ _ _ _ _ _ _ _) ?_))
  have hV0 : Hid (((w1.alloc objPz).setRow w1.heap.size (pasV l la lc ca cc pa pc).toArray).heap[w1.heap.size]? = some (objPas l la lc ca cc pa pc)) := setRow_heap _ _ _ _ _ _ (heap_alloc_new w1 _)
  have hVb : Hid (Below w1.heap.size w1 ((w1.alloc objPz).setRow w1.heap.size (pasV l la lc ca cc pa pc).toArray)) := (boxed w1 _).trans (below_rowK (Nat.le_refl _))
  have hVs : ((w1.alloc objPz).setRow w1.heap.size (pasV l la lc ca cc pa pc).toArray).heap.size = w1.heap.size + 1 := by rw [setRow_size, World.size_alloc]
  generalize (w1.alloc objPz).setRow w1.heap.size (pasV l la lc ca cc pa pc).toArray = V at *
  go_upto_region 7 with (first
    | (refine wpList_mk _ rfl _ _ 39 rfl 3 iN _ Try.underlying39 hiN hzN rfl hsN l.length rfl rfl (by rw [hbN]; omega) (by omega) ?_; intro w5 hn5 hb5 hs5))
  have hFS0 : Hid (FS w1 ((w5.alloc (.cells #[.slice (some ⟨w1.heap.size + 1, 0, none⟩) l.length l.length] 39)).alloc (objK zeroK)) l la lc ca cc pa pc [] zeroK) := by
    have s5 : w5.heap.size = w1.heap.size + 1 + 1 := by rw [hs5, hVs]
    obtain ⟨n1, n2⟩ := two6 w5 (.cells #[.slice (some ⟨w1.heap.size + 1, 0, none⟩) l.length l.length] 39) (objK zeroK)
    have hb2 := boxed2w w5 (.cells #[.slice (some ⟨w1.heap.size + 1, 0, none⟩) l.length l.length] 39) (objK zeroK)
    rw [s5] at n1 n2
    rw [hVs] at hn5
    refine ⟨bthen (bthen hVb.out hb5) hb2, ?_, ?_, n1, n2⟩
    · exact (hb2.block _ (by omega)).trans ((hb5.block _ (by omega)).trans hV0.out)
    · refine (hb2.block _ (by omega)).trans (hn5.trans ?_)
      unfold fmC
      simp
  have hfo0 : Hid (FO B l [] zeroK) := FO.start B l
  clear hn5 hb5 hs5 hV0 hVb hVs c1
  obtain ⟨q, hq⟩ : ∃ q, q = w1.heap.size := ⟨_, rfl⟩
  have hqH : Hid (q = w1.heap.size) := hq
  simp only [← hq]
  rw [← hq] at hFS0
  generalize (w5.alloc (.cells #[.slice (some ⟨q + 1, 0, none⟩) l.length l.length] 39)).alloc (objK zeroK) = V5 at *
  clear hq
  refine wp_loop (fun a' W' => ∃ (k : Nat) (L : List Nat) (c : Ck) (Ds : List Nat) (u8 u9 u24 u25 u26 u27 u28 u29 u30 u31 u32 u33 u34 u35 u36 u37 u38 u39 u40 u41 u42 u43 u44 u45 u46 : Value), k ≤ l.length ∧ L.length = k ∧ Hid (FS w1 W' l la lc ca cc pa pc L c ∧ FO B l L c ∧ MarksK w1.heap.size Ds W') ∧ a' = fmA q l la lc ca cc pa pc k u8 u9 u24 u25 u26 u27 u28 u29 u30 u31 u32 u33 u34 u35 u36 u37 u38 u39 u40 u41 u42 u43 u44 u45 u46 (Ds.map mkK)) (fun a' _ => l.length - (intOf (a'.tmps.getD 23 undef)).toNat) ?_ ?_
  · exact ⟨0, [], zeroK, [], undef, undef, undef, undef, undef, undef, undef, undef, undef, undef, undef, undef, undef, undef, undef, undef, undef, undef, undef, undef, undef, undef, undef, undef, undef, Nat.zero_le _, rfl, ⟨hFS0.out, hfo0.out, MarksK.nil _ _⟩, rfl⟩
  · rintro a' W ⟨k, L, c, Ds, u8, u9, u24, u25, u26, u27, u28, u29, u30, u31, u32, u33, u34, u35, u36, u37, u38, u39, u40, u41, u42, u43, u44, u45, u46, hk, hLk, hs, rfl⟩
    clear hFS0 hfo0
    unfold fmA
    by_cases hlt : k < l.length
    · have hkI : (k : Int) < l.length := by omega
      have hfs : Hid (FS w1 (W.alloc (.cells #[.int .i64 (k : Int)] 3)) l la lc ca cc pa pc L c) := hs.out.1.later (boxed _ _)
      have hmk : Hid (MarksK w1.heap.size Ds (W.alloc (.cells #[.int .i64 (k : Int)] 3))) := hs.out.2.2.later (boxed _ _)
      have hkb : Hid ((W.alloc (.cells #[.int .i64 (k : Int)] 3)).heap[W.heap.size]? = some (.cells #[.int .i64 (k : Int)] 3)) := heap_alloc_new W _
      have hWs : Hid ((W.alloc (.cells #[.int .i64 (k : Int)] 3)).heap.size = W.heap.size + 1) := World.size_alloc _ _
      have hWl : Hid (w1.heap.size + 1 + 1 + 1 < W.heap.size) := hs.out.1.lt
      have hDl : Hid (∀ D ∈ Ds, D < W.heap.size) := fun D hD => hs.out.2.2.lt hD
      have hfo : Hid (FO B l L c) := hs.out.2.1
      have cF := fun V => free_any l la lc ca cc pa pc c V
      clear hs
      go_upto_region 9 with fail
      generalize W.alloc (.cells #[.int .i64 (k : Int)] 3) = Wk at *
      have hp := hfs.out.p
      have hc : Wk.heap[w1.heap.size + 1 + 1 + 1]? = some (.cells c.cells.toArray 86) := hfs.out.c
      rw [← hqH.out] at hp hc
      go_wp2_with (first
        | (refine wpList_load_row rfl 82 _ rfl q rfl _ _ _ _ hp huP.out rfl infoPa ?_)
        | (refine wpList_load_row rfl 86 _ rfl (q + 1 + 1 + 1) rfl _ _ _ _ hc huK.out rfl (by kernel_rfl) ?_)
        | (go_at_call 45; (refine (cF _).mono ?_); rintro e w2 ⟨rfl, hw2⟩))
      clear cF hp hc
      have hbW : Below Wk.heap.size Wk w2 := by rw [hw2]; exact boxed2w _ _ _
      obtain ⟨q1, q2⟩ := two6 Wk (objPas l la lc ca cc pa pc) (objK c)
      rw [← hw2] at q1 q2 ⊢
      have hsz : w2.heap.size = W.heap.size + 3 := by rw [hw2]; simp [World.size_alloc, hWs.out]
      have hfs2 : FS w1 w2 l la lc ca cc pa pc L c := hfs.out.later hbW
      have hm2 : MarksK w1.heap.size Ds w2 := hmk.out.later hbW
      have hkb2 : w2.heap[W.heap.size]? = some (.cells #[.int .i64 (k : Int)] 3) := (hbW.block _ (by rw [hWs.out]; omega)).trans hkb.out
      clear hw2 hfs hmk hkb
      have hsz1 := hWl.out
      have hD2 : ∀ D ∈ Ds, D < w2.heap.size := fun D hD => by have := hDl.out D hD; omega
      refine (wpIn_wide (n := 3)).1 ?_
      refine wpIn_rangeFunc_ownG (n := 3) rfl (by omega) (gf := 74) (lb := #[.pointer (some ⟨Wk.heap.size, 0, none⟩), .pointer (some ⟨Wk.heap.size + 1, 0, none⟩)]) rfl trivial (enters_of Try.func74 (by kernel_rfl) rfl)
        (free_stops 2 w1 l la lc ca cc pa pc w.heap.size (hlH.out.later hb1H.out) hp1H.out hlen hrH.out hBH.out c (hfo.out.ok hlen) Wk.heap.size (Wk.heap.size + 1) w2 hfs2.b q1 q2) KeepP.trans (keepP_b (by omega) (by rw [hWs.out]; omega) (by rw [hWs.out]; omega)) (Below.refl _ _) (fun _ => rfl)
        (fun pre V => pre = [] ∧ FS w1 V l la lc ca cc pa pc L c ∧ MarksK w1.heap.size Ds V ∧ V.heap[W.heap.size]? = some (.cells #[.int .i64 (k : Int)] 3))
        (fun cd pre V => cd = .exit 2 ∧ ∃ x : PlK l.length, pre = [x] ∧ FS w1 V l la lc ca cc pa pc (L ++ [x.1]) c ∧ MarksK w1.heap.size Ds V ∧ V.heap[W.heap.size]? = some (.cells #[.int .i64 (k : Int)] 3)) ?own ?ownx ⟨rfl, hfs2, hm2, hkb2⟩
        (fun x => { tmps := #[.slice la l.length lc, undef, .slice none 0 0, .int .i64 0, .pointer (some ⟨q, 0, none⟩), .int .i64 0, .pointer (some ⟨q + 1 + 1, 0, none⟩), .pointer (some ⟨q + 1 + 1 + 1, 0, none⟩), .pointer (some ⟨W.heap.size, 0, none⟩), .int .i64 (x.1 : Int), .tuple #[.agg (pasV l la lc ca cc pa pc).toArray, .int .i64 0], .slice la l.length lc, .tuple #[.agg (pasV l la lc ca cc pa pc).toArray, .int .i64 0], .agg (pasV l la lc ca cc pa pc).toArray, .int .i64 0, .int .i64 0, .bool false, undef, .slice la l.length lc, .int .i64 (l.length : Int), .slice (some ⟨q + 1, 0, none⟩) l.length l.length, .slice (some ⟨q + 1, 0, none⟩) l.length l.length, .int .i64 (l.length : Int), .int .i64 (k : Int), .bool true, .int .i64 (k : Int), .agg (pasV l la lc ca cc pa pc).toArray, .agg c.cells.toArray, .func (.func 74) #[] #[.pointer (some ⟨Wk.heap.size, 0, none⟩), .pointer (some ⟨Wk.heap.size + 1, 0, none⟩)], .int .i64 (x.1 : Int), u30, u31, u32, u33, u34, u35, u36, u37, u38, u39, u40, u41, u42, u43, u44, u45, u46, undef], defers := [] }) ?assign ?body ?done ?stop
      case own =>
        rintro pre A B' row ⟨h1, h2, h3, h4⟩ hgr hr
        have hA := h2.lt
        have hne : ∀ b, b < w2.heap.size → some b ≠ row := fun b hb e => by have := (hr b e.symm).1; omega
        have h4l := (Array.getElem?_eq_some_iff.mp h4).1
        exact ⟨h1, h2.keep ((Below.refl _ A).grown hgr (by omega) (fun r e => by have := (hr r e).1; omega)) fun b hb => hgr.block b (by omega) (hne b (by omega)), h3.keep fun D hD => hgr.block D (h3.lt hD) (hne D (hD2 D hD)), (hgr.block _ h4l (hne _ (by omega))).trans h4⟩
      case ownx =>
        rintro cd pre A B' row ⟨h0, x, h1, h2, h3, h4⟩ hgr hr
        have hA := h2.lt
        have hne : ∀ b, b < w2.heap.size → some b ≠ row := fun b hb e => by have := (hr b e.symm).1; omega
        have h4l := (Array.getElem?_eq_some_iff.mp h4).1
        exact ⟨h0, x, h1, h2.keep ((Below.refl _ A).grown hgr (by omega) (fun r e => by have := (hr r e).1; omega)) fun b hb => hgr.block b (by omega) (hne b (by omega)), h3.keep fun D hD => hgr.block D (h3.lt hD) (hne D (hD2 D hD)), (hgr.block _ h4l (hne _ (by omega))).trans h4⟩
      case assign =>
        intro ll x V K hK
        gi_wp2
        exact hK
      case body =>
        rintro ll pre x V ⟨rfl, h2, h3, h4⟩ _
        have d1 := cell_ofK (k := 0) h2.s rfl
        have d2 := cell_ofK (k := 0) h4 rfl
        rw [← hqH.out] at d1
        have xF := ix_fm (q + 1) l.length k hlt
        obtain ⟨v3, hv3⟩ := fmC_in (n := l.length) (L := L) hlt (by omega)
        have d3 := cell_ofK (k := k) h2.f hv3
        have f3 : V.frozen? ⟨q + 1, k, none⟩ = false := by rw [hqH.out]; exact frozen_of_row _ _ _ _ _ h2.f
        rw [← hqH.out] at d3
        have hVl := h2.lt
        have nx : Hid (∀ W', W' = V.setCell ⟨q + 1, k, none⟩ (.int .i64 (x.1 : Int)) → KeepsFrom w2.heap.size V W' ∧ FS w1 W' l la lc ca cc pa pc (L ++ [x.1]) c ∧ MarksK w1.heap.size Ds W' ∧ W'.heap[W.heap.size]? = some (.cells #[.int .i64 (k : Int)] 3)) := fun W' e => by
          have hk2 : ∀ b, b ≠ q + 1 → W'.heap[b]? = V.heap[b]? := fun b hb => by rw [e]; exact Below.heap_setCell _ _ _ _ hb
          refine ⟨by rw [e]; exact (KeepsOthers.setCell _ _ _).from _, ?_, h3.keep fun D hD => hk2 D fun e2 => ?_, (hk2 _ (by rw [hqH.out]; omega)).trans h4⟩
          · rw [e, hqH.out, ← hLk]
            exact h2.put x.1 (by omega)
          · have := (h3.at_ D hD).2
            rw [e2, hqH.out, h2.f] at this
            cases this
        clear h2 h3 h4 hv3
        gi_wp2_with (refine inR_list rfl (by simp) (wpList_puti rfl 3 _ _ rfl ⟨q + 1, k, none⟩ rfl (x.1 : Int) rfl (by kernel_rfl) _ d3 f3 fun W' hW' => wpList_nil ?_); (have hfin := nx.out W' hW'); clear hW'; show wpListIn (Fence.wide.inRound ll) _ _ _ _ _ _ _)
        exact ⟨hfin.1, rfl, x, rfl, hfin.2⟩
      case done =>
        rintro D ys V hD hys ⟨rfl, _⟩ hK
        exfalso
        obtain ⟨x, t, h1, _⟩ := next_pick hBH.out (ord_ok hrH.out) (fun k hk => gof_lt hrH.out hk) hfo.out.o (by omega) hfo.out.cf
        have h2 : (subK (freeT B (gof l) l.length (cfK c) 6) freeT_lt).map (·.1) = [] := by rw [← hys]; rfl
        rw [subK_val] at h2
        rw [show freeL B (gof l) l.length (cfK c) = freeT B (gof l) l.length (cfK c) 6 from rfl, h2] at h1
        cases h1
      case stop =>
        rintro D cd pre V hD ⟨k', hk', hpre⟩ ⟨rfl, x, rfl, h2, h3, h4⟩ hK
        obtain ⟨y, t, h1, hpk⟩ := next_pick hBH.out (ord_ok hrH.out) (fun k hk => gof_lt hrH.out hk) hfo.out.o (by omega) hfo.out.cf
        have hxy : x.1 = y := by
          obtain ⟨t', ht'⟩ := freeT_pre B (gof l) l.length (cfK c) hk'
          have h5 : (subK (freeT B (gof l) l.length (cfK c) k') freeT_lt).map (·.1) = [x.1] := by rw [← hpre]; rfl
          rw [subK_val] at h5
          rw [h5, h1] at ht'
          simp only [List.cons_append, List.cons.injEq] at ht'
          exact ht'.1.symm
        rw [← hxy] at hpk
        have hfn : Hid (FO B l (L ++ [x.1]) (tk c (gof l x.1))) := hfo.out.next hBH.out hrH.out hpk
        have hg6 := gof_lt hrH.out x.2
        obtain ⟨b0, o0, hix, hbl, hrg⟩ := ev_row ((hlH.out.later hb1H.out).later h2.b) x.1 (evf l x.1) (evf_at x.2)
        have e0 : V.cell? ⟨b0, o0, none⟩ = some (.int .i64 (gof l x.1 : Int)) := by
          have h6 := (hrH.out (evf l x.1) (List.mem_of_getElem? (evf_at x.2))).1
          rw [show ((gof l x.1 : Nat) : Int) = (evf l x.1).go by unfold gof; omega]
          exact hrg 0 _ rfl
        have d1 := cell_ofK (k := 0) h2.s rfl
        have d2 := cell_ofK (k := 0) h4 rfl
        have xF := ix_fm (q + 1) l.length k hlt
        have d3 := cell_ofK (k := k) h2.f (fmC_at (x := x.1) (by rw [← hLk, List.getElem?_append_right (Nat.le_refl _), Nat.sub_self]; rfl))
        have xg := ck_at (q + 1 + 1 + 1) (gof l x.1) hg6
        obtain ⟨_, hof⟩ := of_mem (x := c) hg6
        obtain ⟨cg, fg⟩ := InB.cell (z := c) h2.c hof
        have hcb := hfo.out.ok hlen _ hg6
        have hw1 : wrap64 (c.of (gof l x.1) + 1) = c.of (gof l x.1) + 1 := by unfold wrap64; omega
        rw [← hqH.out] at d1 d3 cg fg
        have hxI : ((x.1 : Nat) : Int) < l.length := by have := x.2; omega
        have hmm : Hid (MarksK w1.heap.size (D :: Ds) V) := h3.more (by omega) (fun e => by have := hD2 D e; omega) hK
        have h2H : Hid (FS w1 V l la lc ca cc pa pc (L ++ [x.1]) c) := h2
        have nx : Hid (FS w1 (V.setCell ⟨q + 1 + 1 + 1, gof l x.1, none⟩ (.int .i64 (c.of (gof l x.1) + 1))) l la lc ca cc pa pc (L ++ [x.1]) (tk c (gof l x.1)) ∧ FO B l (L ++ [x.1]) (tk c (gof l x.1)) ∧ MarksK w1.heap.size (D :: Ds) (V.setCell ⟨q + 1 + 1 + 1, gof l x.1, none⟩ (.int .i64 (c.of (gof l x.1) + 1)))) := by
          refine ⟨by rw [hqH.out]; exact h2.tick hg6, hfn.out, hmm.out.keep fun E hE => Below.heap_setCell _ _ _ _ fun e2 => ?_⟩
          have h7 := (hmm.out.at_ E hE).2
          rw [e2, hqH.out, h2.c] at h7
          cases h7
        clear h2 h3 h4 hK hmm h2H hfn hrg hbl hof hcb h1 hpk hxy hpre hg6 q1 q2 hfs2 hm2 hkb2 hbW hD2
        generalize gof l x.1 = gn at *
        generalize c.of gn = cn at *
        refine wpIn_wide.2 ?_
        go_wp2_with fail
        refine ⟨⟨k + 1, L ++ [x.1], tk c gn, D :: Ds, _, _, _, _, _, _, _, _, _, _, _, _, _, _, _, _, _, _, _, _, _, _, _, _, _, by omega, by rw [List.length_append, hLk]; rfl, nx, rfl⟩, ?_⟩
        simp [intOf]
        omega
    · have hkI : ¬ ((k : Int) < l.length) := by omega
      have hke : k = l.length := by omega
      have d1 := cell_ofK (k := 0) hs.out.1.s rfl
      rw [← hqH.out] at d1
      go_wp2_with fail
      refine leaves_marksK (n₀ := w1.heap.size) Ds _ hs.out.2.2 fun W' hk' => ?_
      refine ⟨_, results_two Try.results19 _ _ (.slice (some ⟨q + 1, 0, none⟩) l.length l.length) (.int .i64 0) rfl rfl, L, q + 1, rfl, hs.out.2.1.o, by omega, ?_, ?_, ?_⟩
      · rw [hqH.out]; have := hb1H.out.size; omega
      · have h1 := hk'.c _ _ hs.out.1.f (fun z q => by cases q)
        rw [hqH.out]
        exact h1
      · exact (bthen hb1H.out hs.out.1.b).trans (hk'.b.mono hb1H.out.size)
end Go.Proofs.Ytkadlopcomjonaa.pg
/- A map from cuts to numbers, and what it weighs. -/
namespace Go.Proofs.Ytkadlopcomjonaa.pg
open Go.ChangeShapes Go.WideShapes Go.ChangeAt Go.RowKit Go.Shelf
open Go.Maps (Keyed IsMap)
set_option linter.unusedVariables false
set_option linter.unusedSimpArgs false
set_option maxRecDepth 100000
theorem lawC : Keyed Try.prog 86 := Keyed.of_law (deep_law_laid (by kernel_rfl) (m := 3) (by omega) (of_decide_eq_true (by kernel_rfl)) (by kernel_rfl) (by rw [Try.underlying86]))
theorem zero0K (w : World) : (zeroValue 3).run Try.prog w = .ok (.int .i64 0) w := by kernel_rfl
theorem wf_ofK {z : Int} (h : I64 z) : (Lit.int .i64 z).wf = true := by
  simp [Lit.wf, IntKind.min, IntKind.max, IntKind.bits, IntKind.signed]
  exact h
theorem keyC_ex (c : Ck) (h : c.wf) : ∃ l, keyOf Try.prog 86 c.val = some l := by
  have h1 : Try.prog.keyTypeAt (Try.prog.types.size + 1) 86 = true := by kernel_rfl
  have hc : Try.prog.cellsOf 86 = 6 := by kernel_rfl
  have hc1 : Try.prog.cellsOf 3 = 1 := by kernel_rfl
  have hf : c.val.formed Try.prog 86 = true := by simp [Value.formed, Try.underlying86, hc]
  obtain ⟨a0, a1, a2, a3, a4, a5⟩ := h
  have ht : DataW.Trod (H := Unit) (fun _ => ()) Try.prog default 0 (fun _ => true) true 86 c.val (.agg [.lit (.int .i64 c.c0), .lit (.int .i64 c.c1), .lit (.int .i64 c.c2), .lit (.int .i64 c.c3), .lit (.int .i64 c.c4), .lit (.int .i64 c.c5)]) [] :=
    ⟨2, by simp [DataW.trod, Value.cells, Try.underlying86, Try.underlying3, hc, hc1, wf_ofK a0, wf_ofK a1, wf_ofK a2, wf_ofK a3, wf_ofK a4, wf_ofK a5, List.range_succ]⟩
  exact ⟨_, (keyOf_asKey h1 (by rw [Try.underlying86]) hf ht).1⟩
theorem mapM_someK {α β : Type} {f : α → Option β} : ∀ {l : List α} {r : List β}, l.mapM f = some r → ∀ x ∈ l, ∃ y, f x = some y
  | [], _, _, x, hx => by cases hx
  | a :: l, r, h, x, hx => by
    rw [List.mapM_cons] at h
    cases hf : f a with
    | none => rw [hf] at h; cases h
    | some y =>
      rw [hf] at h
      cases hr : l.mapM f with
      | none => rw [hr] at h; cases h
      | some r2 =>
        rcases List.mem_cons.mp hx with rfl | hx
        · exact ⟨y, hf⟩
        · exact mapM_someK hr x hx
theorem keyC_inv (key : Value) (kl : Lit) (h : keyOf Try.prog 86 key = some kl) : ∃ x : Ck, key = x.val := by
  have hc : Try.prog.cellsOf 86 = 6 := by kernel_rfl
  have hc1 : Try.prog.cellsOf 3 = 1 := by kernel_rfl
  obtain ⟨xs, L, rfl, hL, _⟩ := keyOf_top (by rw [Try.underlying86]) h
  obtain ⟨cs⟩ := xs
  unfold Program.keyLits at hL
  rw [Try.underlying86] at hL
  simp only at hL
  split at hL
  · rename_i hlen
    rw [hc] at hlen
    obtain ⟨v0, v1, v2, v3, v4, v5, rfl⟩ := len6 hlen
    obtain ⟨r, hr, _⟩ := Option.map_eq_some_iff.mp hL
    have hk : ∀ i, i < 6 → ∃ n, ((([v0, v1, v2, v3, v4, v5] : List Value).drop (i * 1)).take 1) = [.int .i64 n] := fun i hi => by
      obtain ⟨y, hy⟩ := mapM_someK hr i (List.mem_range.mpr hi)
      rw [hc1] at hy
      obtain ⟨n, hn, _⟩ := keyLits_int' Try.underlying3 hy
      exact ⟨n, hn⟩
    obtain ⟨n0, h0⟩ := hk 0 (by decide)
    obtain ⟨n1, h1⟩ := hk 1 (by decide)
    obtain ⟨n2, h2⟩ := hk 2 (by decide)
    obtain ⟨n3, h3⟩ := hk 3 (by decide)
    obtain ⟨n4, h4⟩ := hk 4 (by decide)
    obtain ⟨n5, h5⟩ := hk 5 (by decide)
    simp at h0 h1 h2 h3 h4 h5
    subst h0 h1 h2 h3 h4 h5
    exact ⟨⟨n0, n1, n2, n3, n4, n5⟩, rfl⟩
  · cases hL
theorem val_injK {x y : Ck} (h : x.val = y.val) : x = y := by
  obtain ⟨a, b, c, d, e, f⟩ := x
  obtain ⟨a', b', c', d', e', f'⟩ := y
  simp only [Ck.val, Value.agg.injEq, Array.mk.injEq, List.cons.injEq, Value.int.injEq, true_and, and_true] at h
  obtain ⟨rfl, rfl, rfl, rfl, rfl, rfl⟩ := h
  rfl
/-- What a list of entries weighs. -/
def wsum (h : Ck → Nat) (E : List (Ck × Nat)) : Nat := (E.map fun e => e.2 * h e.1).sum
theorem wsum_nil (h : Ck → Nat) : wsum h [] = 0 := rfl
theorem wsum_app (h : Ck → Nat) (E F : List (Ck × Nat)) : wsum h (E ++ F) = wsum h E + wsum h F := by
  unfold wsum
  rw [List.map_append, List.sum_append_nat]
theorem wsum_cons (h : Ck → Nat) (e : Ck × Nat) (F : List (Ck × Nat)) : wsum h (e :: F) = e.2 * h e.1 + wsum h F := rfl
/-- A map that holds these entries. -/
structure MapC (w : World) (b n : Nat) (E : List (Ck × Nat)) (D : DataW Unit) : Prop where
  o : w.ownsMap Try.prog 86 (plainElem Try.prog 3) b n D
  m : IsMap D
  nd : (E.map Prod.fst).Nodup
  wf : ∀ e ∈ E, e.1.wf
  at_ : ∀ e ∈ E, ∀ l, keyOf Try.prog 86 e.1.val = some l → ∀ z, D.atKey l z = .lit (.int .i64 (e.2 : Int))
  no : ∀ c l, keyOf Try.prog 86 c.val = some l → c ∉ E.map Prod.fst → ∀ z, D.atKey l z = z
theorem mapC_new (w : World) : MapC (w.alloc (.map #[] 0)) w.heap.size 0 [] (.map []) :=
  ⟨World.ownsMap_made _ _ _ _, Go.Maps.isMap_empty, List.nodup_nil, by simp, by simp, fun c l _ _ z => rfl⟩
theorem MapC.kept {w w' : World} {b n : Nat} {E : List (Ck × Nat)} {D : DataW Unit} (h : MapC w b n E D) (hb : w'.heap[b]? = w.heap[b]?) : MapC w' b n E D := by
  obtain ⟨⟨es, c, h1, h2⟩, h3, h4, h5, h6, h7⟩ := h
  exact ⟨⟨es, c, hb.trans h1, h2⟩, h3, h4, h5, h6, h7⟩
theorem MapC.lt {w : World} {b n : Nat} {E : List (Ck × Nat)} {D : DataW Unit} (h : MapC w b n E D) : b < w.heap.size := h.o.lt
/-- What stands at a cut. -/
theorem MapC.find {w : World} {b n : Nat} {E : List (Ck × Nat)} {D : DataW Unit} (h : MapC w b n E D) (c : Ck) : (∃ v E1 E2, E = E1 ++ (c, v) :: E2) ∨ c ∉ E.map Prod.fst := by
  by_cases q : c ∈ E.map Prod.fst
  · obtain ⟨⟨c', v⟩, hm, e⟩ := List.mem_map.mp q
    simp only at e
    subst e
    obtain ⟨E1, E2, rfl⟩ := List.append_of_mem hm
    exact .inl ⟨v, E1, E2, rfl⟩
  · exact .inr q
/-- With a number added at a cut. -/
theorem MapC.put {w w' : World} {b n n' : Nat} {E : List (Ck × Nat)} {D : DataW Unit} (h : MapC w b n E D) (c : Ck) (hc : c.wf) (x v : Nat) {l : Lit} (hl : keyOf Try.prog 86 c.val = some l)
    (hx : (∃ e ∈ E, e.1 = c ∧ x = e.2) ∨ (c ∉ E.map Prod.fst ∧ x = 0)) (ho : w'.ownsMap Try.prog 86 (plainElem Try.prog 3) b n' (D.put l (.lit (.int .i64 ((x + v : Nat) : Int))))) :
    ∃ E', MapC w' b n' E' (D.put l (.lit (.int .i64 ((x + v : Nat) : Int)))) ∧ (∀ g, wsum g E' = wsum g E + v * g c) ∧ (∀ e ∈ E', e ∈ E ∨ e.2 = x + v) ∧ (∀ e ∈ E', e.1 = c ∨ ∃ e' ∈ E, e'.1 = e.1) := by
  have hne : ∀ c2 l2, keyOf Try.prog 86 c2.val = some l2 → c2 ≠ c → l2 ≠ l := fun c2 l2 h2 hn e => by
    subst e
    exact hn (val_injK (lawC.inj h2 hl))
  have hsame : ∀ z, (D.put l (.lit (.int .i64 ((x + v : Nat) : Int)))).atKey l z = .lit (.int .i64 ((x + v : Nat) : Int)) := fun z => Go.Maps.atKey_put_same h.m (lawC.key hl) _ _
  rcases hx with ⟨⟨c', x'⟩, hm, e1, e2⟩ | ⟨hno, rfl⟩
  · simp only at e1 e2
    subst e1 e2
    obtain ⟨E1, E2, rfl⟩ := List.append_of_mem hm
    have hk : (E1 ++ (c', x) :: E2).map Prod.fst = E1.map Prod.fst ++ c' :: E2.map Prod.fst := by rw [List.map_append]; rfl
    have hk2 : (E1 ++ (c', x + v) :: E2).map Prod.fst = E1.map Prod.fst ++ c' :: E2.map Prod.fst := by rw [List.map_append]; rfl
    have hnd := h.nd
    rw [hk] at hnd
    have hap : ∀ e ∈ E1 ++ E2, e.1 ≠ c' := fun e he e2 => by
      rw [List.nodup_append] at hnd
      rcases List.mem_append.mp he with q | q
      · exact hnd.2.2 e.1 (List.mem_map.mpr ⟨e, q, rfl⟩) c' (by simp) e2
      · exact (List.nodup_cons.mp hnd.2.1).1 (by rw [← e2]; exact List.mem_map.mpr ⟨e, q, rfl⟩)
    refine ⟨E1 ++ (c', x + v) :: E2, ⟨ho, h.m.put _ _, by rw [hk2]; exact hnd, fun e he => ?_, fun e he l2 h2 z => ?_, fun c2 l2 h2 hn z => ?_⟩, fun g => ?_, fun e he => (by rcases List.mem_append.mp he with q | q; (· exact .inl (by simp [q])); (· rcases List.mem_cons.mp q with rfl | q; (· exact .inr rfl); (· exact .inl (by simp [q])))), fun e he => ?_⟩
    · rcases List.mem_append.mp he with q | q
      · exact h.wf e (by simp [q])
      · rcases List.mem_cons.mp q with rfl | q
        · exact hc
        · exact h.wf e (by simp [q])
    · rcases List.mem_append.mp he with q | q
      · rw [Go.Maps.atKey_put_other (hne e.1 l2 h2 (hap e (by simp [q])))]
        exact h.at_ e (by simp [q]) l2 h2 z
      · rcases List.mem_cons.mp q with rfl | q
        · simp only at h2
          rw [hl] at h2
          cases h2
          exact hsame z
        · rw [Go.Maps.atKey_put_other (hne e.1 l2 h2 (hap e (by simp [q])))]
          exact h.at_ e (by simp [q]) l2 h2 z
    · rw [hk2] at hn
      rw [Go.Maps.atKey_put_other (hne c2 l2 h2 (fun e => hn (by rw [e]; simp)))]
      exact h.no c2 l2 h2 (by rw [hk]; exact hn) z
    · rw [wsum_app, wsum_app, wsum_cons, wsum_cons]
      simp only
      rw [Nat.add_mul]
      omega
    · rcases List.mem_append.mp he with q | q
      · exact .inr ⟨e, by simp [q], rfl⟩
      · rcases List.mem_cons.mp q with rfl | q
        · exact .inl rfl
        · exact .inr ⟨e, by simp [q], rfl⟩
  · rw [Nat.zero_add] at ho hsame ⊢
    refine ⟨E ++ [(c, v)], ⟨ho, h.m.put _ _, ?_, fun e he => ?_, fun e he l2 h2 z => ?_, fun c2 l2 h2 hn z => ?_⟩, fun g => ?_, fun e he => (by rcases List.mem_append.mp he with q | q; (· exact .inl q); (· simp at q; subst q; exact .inr rfl)), fun e he => ?_⟩
    · rw [List.map_append, List.nodup_append]
      exact ⟨h.nd, by simp, fun a ha b hb e => by simp at hb; subst hb; subst e; exact hno ha⟩
    · rcases List.mem_append.mp he with q | q
      · exact h.wf e q
      · simp at q; subst q; exact hc
    · rcases List.mem_append.mp he with q | q
      · rw [Go.Maps.atKey_put_other (hne e.1 l2 h2 (fun e2 => hno (by rw [← e2]; exact List.mem_map.mpr ⟨e, q, rfl⟩)))]
        exact h.at_ e q l2 h2 z
      · simp at q
        subst q
        simp only at h2
        rw [hl] at h2
        cases h2
        exact hsame z
    · rw [List.map_append] at hn
      rw [Go.Maps.atKey_put_other (hne c2 l2 h2 (fun e => hn (by rw [e]; simp)))]
      exact h.no c2 l2 h2 (fun q => hn (List.mem_append.mpr (.inl q))) z
    · rw [wsum_app]
      show _ + (v * g c + 0) = _
      omega
    · rcases List.mem_append.mp he with q | q
      · exact .inr ⟨e, q, rfl⟩
      · simp at q; subst q; exact .inl rfl
end Go.Proofs.Ytkadlopcomjonaa.pg
