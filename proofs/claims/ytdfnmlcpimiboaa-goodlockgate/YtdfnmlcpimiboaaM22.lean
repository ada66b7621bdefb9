/- The takings of a trace: how they lie, and what they are. -/
import Derived.Test.YtdfnmlcpimiboaaM21
import Derived.Maps.AppendAt
namespace Go.Proofs.Ytdfnmlcpimiboaa.pg
open Go.ChangeShapes Go.WideShapes Go.ChangeAt Go.RowKit
set_option linter.unusedVariables false
set_option linter.unusedSimpArgs false
set_option maxRecDepth 100000
abbrev TKS : TypeId := 94
/-- Where a list of takings lies: its address, the list, its room. -/
abbrev Slot := Option Addr × List Tk × Nat
def slV (s : Slot) : Value := .slice s.1 s.2.1.length s.2.2
def rowT (S : Nat → Slot) : Array Value := ((List.range 16).map fun k => slV (S k)).toArray
theorem rowT_at {S : Nat → Slot} {k : Nat} (h : k < 16) : (rowT S)[k]? = some (slV (S k)) := by simp [rowT, h]
theorem rowT_len (S : Nat → Slot) : (rowT S).size = 16 := by simp [rowT]
theorem rowT_set {S : Nat → Slot} {j : Nat} (s : Slot) : (rowT S).setIfInBounds j (slV s) = rowT (fun b => if b = j then s else S b) := by
  apply Array.ext'
  simp only [rowT, Array.toList_setIfInBounds, List.toList_toArray]
  apply List.ext_getElem?
  intro k
  rw [List.getElem?_set]
  simp only [List.length_map, List.length_range, List.getElem?_map]
  by_cases c : j = k
  · subst c
    by_cases h : j < 16
    · simp [h, List.getElem?_range]
    · simp [h, List.getElem?_range]
  · rw [if_neg c]
    by_cases h : k < 16
    · simp [List.getElem?_range, h, Ne.symm c]
    · simp [List.getElem?_range, h]
theorem tk_len (L : List Tk) : ∀ row ∈ L.map Tk.cells, row.length = 5 := fun row hr => by
  obtain ⟨z, _, rfl⟩ := List.mem_map.mp hr
  rfl
theorem tk_one (x : Tk) : x.cells.toArray.all (·.oneCell') = true := by simp [Value.oneCell']
section
variable {w X X' : World} {K : Nat} {S : Nat → Slot}
/-- How the takings lie. -/
structure TkS (w X : World) (K : Nat) (S : Nat → Slot) : Prop where
  k : X.heap[K]? = some (.cells (rowT S) TKS)
  o : ∀ j, j < 16 → OwnL X w.heap.size 97 5 (S j).1 (S j).2.2 ((S j).2.1.map Tk.cells)
  ap : ∀ i j, i < 16 → j < 16 → i ≠ j → ∀ g ∈ blk (S i).1, g ∉ blk (S j).1
  b : Below w.heap.size w X
  d : w.heap.size ≤ K
theorem TkS.later (h : TkS w X K S) (hb : Below X.heap.size X X') : TkS w X' K S :=
  ⟨blk_onG h.k hb, fun j hj => own_keep (h.o j hj) fun g hg => hb.block g (blk_lt (h.o j hj) g hg).2, h.ap, bthen h.b hb, h.d⟩
theorem TkS.cell (h : TkS w X K S) {j : Nat} (hj : j < 16) : X.cell? ⟨K, j, none⟩ = some (slV (S j)) := cell_lcG h.k (rowT_at hj)
theorem TkS.rows (h : TkS w X K S) {j : Nat} (hj : j < 16) : Rows X 5 (S j).1 (S j).2.2 ((S j).2.1.map Tk.cells) := own_rows (h.o j hj) (tk_len _)
/-- A block of another type is none of theirs. -/
theorem TkS.off (h : TkS w X K S) {j : Nat} (hj : j < 16) {C : Nat} {cs : Array Value} {t : TypeId} (hC : X.heap[C]? = some (.cells cs t (0, 0))) (ht : t ≠ 97) : C ∉ blk (S j).1 := fun q => by
  obtain ⟨cur, h1, _⟩ := own_tagG (h.o j hj) q
  rw [hC] at h1
  simp only [Option.some.injEq, Obj.cells.injEq] at h1
  exact ht h1.2.1
theorem TkS.grow {Z : World} {j : Nat} {x : Tk} {va : Option Addr} {vc : Nat} (h : TkS w X K S) (hj : j < 16) (hgr : Grown X w.heap.size 97 5 (S j).1 ((S j).2.1.map Tk.cells) x.cells va vc Z) :
    TkS w (Z.setCell ⟨K, j, none⟩ (slV (va, (S j).2.1 ++ [x], vc))) K (fun k => if k = j then (va, (S j).2.1 ++ [x], vc) else S k) := by
  have hKb : K ∉ blk (S j).1 := h.off hj h.k (by decide)
  have hKl : K < X.heap.size := (Array.getElem?_eq_some_iff.mp h.k).1
  have hKZ : Z.heap[K]? = some (.cells (rowT S) TKS) := (hgr.kp K hKl hKb).trans h.k
  have hva : K ∉ blk va := fun q => (hgr.bk K q).elim hKb fun q => by omega
  have hbe : Below w.heap.size w Z := by
    have := hgr.be
    rw [Nat.min_eq_left h.b.size] at this
    exact h.b.trans this
  refine ⟨?_, fun i hi => ?_, fun i k hi hk hne g hg => ?_, hbe.setCell (p := ⟨K, j, none⟩) h.d _, h.d⟩
  · rw [heap_setCell_same Z K j _ _ _ hKZ, rowT_set]
  · show OwnL _ _ _ _ (if i = j then (va, (S j).2.1 ++ [x], vc) else S i).1 (if i = j then (va, (S j).2.1 ++ [x], vc) else S i).2.2 ((if i = j then (va, (S j).2.1 ++ [x], vc) else S i).2.1.map Tk.cells)
    by_cases e : i = j
    · rw [if_pos e]
      rw [List.map_append]
      exact own_keep hgr.ow fun g hg => heap_setCell_other _ ⟨K, j, none⟩ g _ fun q => hva (by rw [← (show g = K from q)]; exact hg)
    · rw [if_neg e]
      refine own_keep (h.o i hi) fun g hg => ?_
      have hgK : g ≠ K := fun q => h.off hi h.k (by decide) (q ▸ hg)
      exact (heap_setCell_other _ ⟨K, j, none⟩ g _ hgK).trans (hgr.kp g (blk_lt (h.o i hi) g hg).2 (h.ap i j hi hj e g hg))
  · have hnew : ∀ i, i < 16 → i ≠ j → ∀ g ∈ blk (S i).1, g ∉ blk va := fun i hi e g hg q => by
      rcases hgr.bk g q with q | q
      · exact h.ap i j hi hj e g hg q
      · have := (blk_lt (h.o i hi) g hg).2; omega
    have hg' : g ∈ blk (if i = j then (va, (S j).2.1 ++ [x], vc) else S i).1 := hg
    show g ∉ blk (if k = j then (va, (S j).2.1 ++ [x], vc) else S k).1
    by_cases e : i = j
    · rw [if_pos e] at hg'
      rw [if_neg (by omega)]
      exact fun q => hnew k hk (by omega) g q hg'
    · rw [if_neg e] at hg'
      by_cases e2 : k = j
      · rw [if_pos e2]
        exact hnew i hi e g hg'
      · rw [if_neg e2]
        exact h.ap i k hi hk hne g hg'
end
/-- The taking of an edge. -/
def tkE (hf : Nat → Bool) (e : Ed) : Tk := ⟨e.go, hf (e.ev.toNat * 4), hf (e.ev.toNat * 4 + 1), hf (e.ev.toNat * 4 + 2), hf (e.ev.toNat * 4 + 3)⟩
def addT (x : Tk) (L : List Tk) : List Tk := if x ∈ L then L else L ++ [x]
def plE (e : Ed) : Nat := e.fr.toNat * 4 + e.tw.toNat
def stepT (hf : Nat → Bool) (F : Nat → List Tk) (e : Ed) : Nat → List Tk := fun k => if k = plE e then addT (tkE hf e) (F k) else F k
def tkF (hf : Nat → Bool) (E : List Ed) : Nat → List Tk := E.foldl (stepT hf) fun _ => []
theorem tkF_step {hf : Nat → Bool} {E : List Ed} {j : Nat} {e : Ed} (h : E[j]? = some e) : tkF hf (E.take (j + 1)) = stepT hf (tkF hf (E.take j)) e := by
  unfold tkF
  rw [take_one E j e h, List.foldl_append]
  rfl
theorem addT_len (x : Tk) (L : List Tk) : (addT x L).length ≤ L.length + 1 := by
  unfold addT
  split
  · omega
  · simp
theorem tkF_len (hf : Nat → Bool) (E : List Ed) (k : Nat) : ∀ j, (tkF hf (E.take j) k).length ≤ j
  | 0 => by simp [tkF]
  | j + 1 => by
    cases h : E[j]? with
    | none =>
      rw [List.take_of_length_le (by have := List.getElem?_eq_none_iff.mp h; omega)]
      have := tkF_len hf E k j
      rw [List.take_of_length_le (by have := List.getElem?_eq_none_iff.mp h; omega)] at this
      omega
    | some e =>
      rw [tkF_step h]
      have := tkF_len hf E k j
      unfold stepT
      split
      · have := addT_len (tkE hf e) (tkF hf (E.take j) k); omega
      · omega
/-- An edge of a trace, as it must be. -/
def EdR (n : Nat) (e : Ed) : Prop := (0 ≤ e.fr ∧ e.fr < 4) ∧ (0 ≤ e.tw ∧ e.tw < 4) ∧ (0 ≤ e.ev ∧ e.ev < n) ∧ 0 ≤ e.go ∧ e.go < 6
theorem edges_right {l : List Ev} (hr : ∀ x ∈ l, rightP x) : ∀ e ∈ edgesL l l.length, EdR l.length e := fun e he => by
  unfold edgesL at he
  obtain ⟨i, hi, he⟩ := List.mem_flatMap.mp he
  rw [List.mem_range] at hi
  obtain ⟨x, hx, hxm⟩ := get_lt l i hi
  unfold edgeAt at he
  rw [evA_at hx] at he
  split at he
  · rename_i hc
    obtain ⟨f, hf, rfl⟩ := List.mem_map.mp he
    have hf4 : f < 4 := by
      have := (List.mem_filter.mp hf).1
      unfold setL at this
      exact List.mem_range.mp (List.mem_filter.mp this).1
    have hk : lkN x < 4 := by
      rcases lk_right (hr x hxm) with q | q
      · omega
      · exact q.2
    refine ⟨⟨by show (0 : Int) ≤ (f : Int); omega, by show (f : Int) < 4; omega⟩, ⟨hc.2, hk⟩, ⟨by show (0 : Int) ≤ (i : Int); omega, by show (i : Int) < (l.length : Int); omega⟩, ?_⟩
    have := (hr x hxm).1
    exact ⟨this.1, this.2.1⟩
  · simp at he
end Go.Proofs.Ytdfnmlcpimiboaa.pg
/- takingsOf of package goodlock. -/

namespace Go.Proofs.Ytdfnmlcpimiboaa.pg
open Go.ChangeShapes Go.WideShapes Go.ChangeAt Go.RowKit
set_option linter.unusedVariables false
set_option linter.unusedSimpArgs false
set_option maxRecDepth 100000
attribute [local go_sem ↓] Go.wp_at_zero Go.wp_at_succ
abbrev objEd (e : Ed) : Obj := .cells #[.int .i64 e.fr, .int .i64 e.tw, .int .i64 e.go, .int .i64 e.ev] 71
theorem zeroTks : ∀ w, (zeroValue TKS).run Try.prog w = .ok (.agg (rowT fun _ => (none, [], 0))) w := fun w => by kernel_rfl
theorem zeroTk : ∀ w, (zeroValue 97).run Try.prog w = .ok (.agg #[.int .i64 0, .bool false, .bool false, .bool false, .bool false]) w := fun w => by kernel_rfl
theorem infoTkG : (Try.prog.info? 97).map (fun i => (i.zero, i.size, i.bytes)) = some (some (.agg #[.int .i64 0, .bool false, .bool false, .bool false, .bool false]), 5, 16) := by kernel_rfl
theorem infoEd4 : (Try.prog.info? 71).map (·.size) = some 4 := by kernel_rfl
theorem bld_tk (a : Int) (b c d e : Bool) : ∀ wx, (Instr.build 97 #[(0, .int .i64 a), (1, .agg #[.bool b, .bool c, .bool d, .bool e])]).run Try.prog wx = .ok (.agg #[.int .i64 a, .bool b, .bool c, .bool d, .bool e]) wx := fun wx => by kernel_rfl
theorem tk_oneX (a : Int) (b c d e : Bool) : (#[.int .i64 a, .bool b, .bool c, .bool d, .bool e] : Array Value).all (·.oneCell') = true := by simp [Value.oneCell']
theorem ix16A (B k : Nat) (hk : k < 4) : ∀ wx, (Instr.indexAt TKS (.pointer (some ⟨B, 0, none⟩)) (.int .i64 (k : Int))).run Try.prog wx = .ok (.pointer (some ⟨B, k * 4, none⟩)) wx := by
  match k, hk with
  | 0, _ => exact fun _ => by kernel_rfl
  | 1, _ => exact fun _ => by kernel_rfl
  | 2, _ => exact fun _ => by kernel_rfl
  | 3, _ => exact fun _ => by kernel_rfl
theorem ix16B (B o k : Nat) (hk : k < 4) : ∀ wx, (Instr.indexAt 92 (.pointer (some ⟨B, o, none⟩)) (.int .i64 (k : Int))).run Try.prog wx = .ok (.pointer (some ⟨B, o + k, none⟩)) wx := by
  match k, hk with
  | 0, _ => exact fun _ => by kernel_rfl
  | 1, _ => exact fun _ => by kernel_rfl
  | 2, _ => exact fun _ => by kernel_rfl
  | 3, _ => exact fun _ => by kernel_rfl
theorem ed_ixG {w : World} {a : Option Addr} {cap : Nat} {E : List Ed} (h : Rows w 4 a cap (E.map Ed.cells)) (i : Nat) (e : Ed) (hi : E[i]? = some e) :
    ∃ b o, (∀ wx, (Instr.indexAt 23 (.slice a E.length cap) (.int .i64 (i : Int))).run Try.prog wx = .ok (.pointer (some ⟨b, o, none⟩)) wx) ∧ b < w.heap.size ∧ w.rangeAt b o e.cells := by
  obtain ⟨b, o, hr, hlt, hc⟩ := h.ix 23 71 Try.underlying23 (by kernel_rfl) (fun wx => Try.sizeOf71 wx) i (row := e.cells) (by simp [hi])
  rw [List.length_map] at hr
  exact ⟨b, o, hr, hlt, fun j v hj => hc j v hj⟩
theorem tk_grow {w X Z : World} {K lo H j : Nat} {S : Nat → Slot} {s : Slot} {a va : Option Addr} {c vc : Nat} {E : List Ed} {cs : Array Value} {x : Tk} (hs : S j = s) (h : TkS w X K S) (ho : OwnL X lo 71 4 a c (E.map Ed.cells)) (hH : X.heap[H]? = some (.cells cs 67)) (hj : j < 16) (hgr : Grown X w.heap.size 97 5 s.1 (s.2.1.map Tk.cells) x.cells va vc Z) :
    TkS w (Z.setCell ⟨K, j, none⟩ (.slice va (s.2.1.length + 1) vc)) K (fun k => if k = j then (va, s.2.1 ++ [x], vc) else S k) ∧ OwnL (Z.setCell ⟨K, j, none⟩ (.slice va (s.2.1.length + 1) vc)) lo 71 4 a c (E.map Ed.cells) ∧ (Z.setCell ⟨K, j, none⟩ (.slice va (s.2.1.length + 1) vc)).heap[H]? = some (.cells cs 67) := by
  subst hs
  have e : slV (va, (S j).2.1 ++ [x], vc) = .slice va ((S j).2.1.length + 1) vc := by simp [slV]
  have h1 := h.grow hj hgr
  rw [e] at h1
  refine ⟨h1, own_keep ho fun g hg => ?_, ?_⟩
  · obtain ⟨cur, hc, _⟩ := own_tagG ho hg
    have hne : g ≠ K := fun q => by
      subst q
      rw [h.k] at hc
      simp only [Option.some.injEq, Obj.cells.injEq] at hc
      exact absurd hc.2.1 (by decide)
    exact (heap_setCell_other _ ⟨K, j, none⟩ g _ hne).trans (hgr.kp g (blk_lt ho g hg).2 (h.off hj hc (by decide)))
  · have hne : H ≠ K := fun q => by
      subst q
      rw [h.k] at hH
      simp only [Option.some.injEq, Obj.cells.injEq] at hH
      exact absurd hH.2.1 (by decide)
    exact (heap_setCell_other _ ⟨K, j, none⟩ H _ hne).trans ((hgr.kp H (Array.getElem?_eq_some_iff.mp hH).1 (h.off hj hH (by decide))).trans hH)
section
variable {w : World} {l : List Ev} {la : Option Addr} {lc : Nat}
/-- What holds around a round of takingsOf. -/
structure TkR (w X : World) (K lo H n c : Nat) (a : Option Addr) (hf : Nat → Bool) (E : List Ed) (S : Nat → Slot) : Prop where
  t : TkS w X K S
  o : OwnL X lo 71 4 a c (E.map Ed.cells)
  h : X.heap[H]? = some (.cells (boolRow (n * 4) hf) 67)
theorem TkR.later {X X' : World} {K lo H n c : Nat} {a : Option Addr} {hf : Nat → Bool} {E : List Ed} {S : Nat → Slot} (g : TkR w X K lo H n c a hf E S) (hb : Below X.heap.size X X') : TkR w X' K lo H n c a hf E S := ⟨g.t.later hb, own_keep g.o fun b hbb => hb.block b (blk_lt g.o b hbb).2, blk_onG g.h hb⟩
set_option maxHeartbeats 8000000 in
theorem takings_any (hl : Rows w 26 la lc (l.map Ev.cells)) (hn : l.length ≤ 256) (hr : ∀ x ∈ l, rightP x) : Calls Try.prog 31 #[.slice la l.length lc] w fun e w' => ∃ K S, e = .returned (.pointer (some ⟨K, 0, none⟩)) ∧ TkS w w' K S ∧ ∀ k, k < 16 → (S k).2.1 = tkF (heldF l l.length) (edgesL l l.length) k := by
  have hrE : Hid (∀ e ∈ edgesL l l.length, EdR l.length e) := edges_right hr
  have hEl : Hid ((edgesL l l.length).length ≤ 1024) := by
    have := edgesL_len l l.length
    show _ ≤ _
    omega
  obtain ⟨iT, hiT', hzT', hsT', hbT'⟩ := info_q infoTkG
  have hiT : Hid (Try.prog.info? 97 = some iT) := hiT'
  have hzT : Hid _ := hzT'
  have hsT : Hid _ := hsT'
  have hbT : Hid _ := hbT'
  have huE : Hid (Try.prog.underlying 71 = _) := Try.underlying71
  have cA : ∀ wx, Below w.heap.size w wx → Calls Try.prog 26 #[.slice la l.length lc] wx _ := fun wx q => ahead_any (hl.later q) hn hr
  have cE : ∀ (wx : World) (H : Nat), Below w.heap.size w wx → wx.heap[H]? = some (.cells (boolRow (l.length * 4) (heldF l l.length)) 67) → Calls Try.prog 25 #[.slice la l.length lc, .slice (some ⟨H, 0, none⟩) l.length l.length] wx _ := fun wx H q hH => edges_anyG (hl.later q) hn hr hH
  have hT0 : Hid (TkS w (w.alloc (.cells (rowT fun _ => (none, [], 0)) TKS)) w.heap.size fun _ => (none, [], 0)) := ⟨heap_alloc_new _ _, fun j hj => own_nil_q _ _ _ _, fun i j _ _ _ g hg => by simp [blk] at hg, boxed _ _, Nat.le_refl _⟩
  have hnI : (l.length : Int) ≤ 256 := by omega
  have hev : Hid (∀ (wx : World) (H ev : Nat) (hf : Nat → Bool), wx.heap[H]? = some (.cells (boolRow (l.length * 4) hf) 67) → ev < l.length → wx.rangeAt H (ev * 4) [.bool (hf (ev * 4)), .bool (hf (ev * 4 + 1)), .bool (hf (ev * 4 + 2)), .bool (hf (ev * 4 + 3))]) := fun wx H ev hf hH h => br_range hH (by omega)
  have hxh : Hid (∀ (H ev : Nat), ev < l.length → ∀ wx, (Instr.indexAt 63 (.slice (some ⟨H, 0, none⟩) l.length l.length) (.int .i64 (ev : Int))).run Try.prog wx = .ok (.pointer (some ⟨H, ev * 4, none⟩)) wx) := fun H ev h => rows_ix_g Try.underlying63 (fun wx => Try.sizeOf67 wx) H l.length l.length ev h
  have hb0 : Hid (Below w.heap.size w (w.alloc (.cells (rowT fun _ => (none, [], 0)) TKS))) := boxed _ _
  clear hl hr hiT' hzT' hsT' hbT'
  unfold AhP at cA
  generalize edgesL l l.length = E at *
  generalize heldF l l.length = hf at *
  generalize l.length = n at *
  go_enter Try.func31, Try.ntmps31
  go_upto_region 2 with (first
    | ((with_reducible refine at_allocG TKS rfl ?_); refine stopG_out ?_; refine wpList_alloc_big rfl TKS rfl zeroTks ?_))
  simp only [Act.put, List.getElem_toArray, List.getElem_cons_succ, List.getElem_cons_zero, List.setIfInBounds_toArray, List.set_cons_zero, List.set_cons_succ]
  obtain ⟨K, hK⟩ : ∃ K, w.heap.size = K := ⟨_, rfl⟩
  rw [hK] at hT0
  rw [hK]
  clear hK
  generalize w.alloc (.cells (rowT fun _ => (none, [], 0)) TKS) = X0 at *
  go_wp2_with (first
    | (go_at_call 26; (with_reducible refine (cA _ hb0.out).mono ?_); rintro e w1 ⟨H, rfl, hH, hb⟩; (have hB1 : Hid (TkS w w1 K (fun _ => (none, [], 0)) ∧ w1.heap[H]? = some (.cells (boolRow (n * 4) hf) 67)) := ⟨hT0.out.later hb, hH⟩); clear hb hH cA hT0)
    | (go_at_call 25; (with_reducible refine (cE _ _ hB1.out.1.b hB1.out.2).mono ?_); rintro e w2 ⟨a, c, rfl, hE⟩; (have hI : Hid (TkR w w2 K w1.heap.size H n c a hf E fun _ => (none, [], 0)) := ⟨hB1.out.1.later hE.b, hE.o, blk_onG hB1.out.2 hE.b⟩); clear hE cE hB1))
  obtain ⟨lo, hlo⟩ : ∃ lo, w1.heap.size = lo := ⟨_, rfl⟩
  rw [hlo] at hI
  clear hlo
  go_loopw [15] (fun u wr => ∃ (j : Nat) (S : Nat → Slot), j ≤ E.length ∧ u = .int .i64 (j : Int) ∧ Hid (TkR w wr K lo H n c a hf E S ∧ ∀ k, k < 16 → (S k).2.1 = tkF hf (E.take j) k)) (fun u _ => E.length - (intOf u).toNat)
  case atStart => exact ⟨0, _, Nat.zero_le _, rfl, hI.out, fun k _ => rfl⟩
  case round =>
    obtain ⟨j, S, hj, rfl, hst⟩ := hrel
    clear hI hb0
    by_cases hlt : j < E.length
    · have hjI : (j : Int) < E.length := by omega
      have hELI : (E.length : Int) ≤ 1024 := by have := hEl.out; omega
      obtain ⟨e, he⟩ : ∃ e, E[j]? = some e := ⟨_, List.getElem?_eq_getElem hlt⟩
      have heR := hrE.out e (List.mem_of_getElem? he)
      obtain ⟨fr, tw, go, ev⟩ := e
      obtain ⟨⟨q1, q2⟩, ⟨q3, q4⟩, ⟨q5, q6⟩, q7, q8⟩ := heR
      simp only at q1 q2 q3 q4 q5 q6 q7 q8
      obtain ⟨fr, rfl⟩ : ∃ k : Nat, fr = (k : Int) := ⟨fr.toNat, by omega⟩
      obtain ⟨tw, rfl⟩ : ∃ k : Nat, tw = (k : Int) := ⟨tw.toNat, by omega⟩
      obtain ⟨ev, rfl⟩ : ∃ k : Nat, ev = (k : Int) := ⟨ev.toNat, by omega⟩
      have hfr : fr < 4 := by omega
      have htw : tw < 4 := by omega
      have hevn : ev < n := by omega
      have hpl : fr * 4 + tw < 16 := by omega
      have hstp : Hid (tkF hf (E.take (j + 1)) = stepT hf (tkF hf (E.take j)) ⟨(fr : Int), (tw : Int), go, (ev : Int)⟩) := tkF_step he
      have hLl : Hid ((S (fr * 4 + tw)).2.1.length ≤ 1024) := by
        have h1 := tkF_len hf E (fr * 4 + tw) j
        have h2 := hEl.out
        show _ ≤ _
        rw [hst.out.2 _ hpl]
        omega
      obtain ⟨b1, o1, x1, l1, r1⟩ := ed_ixG (own_rows hst.out.1.o (ed_len E)) j _ he
      have hrg : Hid (wr.rangeAt b1 o1 [.int .i64 (fr : Int), .int .i64 (tw : Int), .int .i64 go, .int .i64 (ev : Int)]) := r1
      have hst1 : Hid (TkR w (wr.alloc (objEd ⟨fr, tw, go, ev⟩)) K lo H n c a hf E S ∧ (wr.alloc (objEd ⟨fr, tw, go, ev⟩)).heap[wr.heap.size]? = some (objEd ⟨fr, tw, go, ev⟩)) := ⟨hst.out.1.later (boxed _ _), heap_alloc_new _ _⟩
      have hpu : Hid (∀ k, k < 16 → (S k).2.1 = tkF hf (E.take j) k) := hst.out.2
      clear r1 l1 hst he q1 q2 q3 q4 q5 q6 q7 q8
      go_upto_region 6 with (first
        | (refine wpList_load_mid rfl 71 _ rfl b1 o1 rfl [.int .i64 (fr : Int), .int .i64 (tw : Int), .int .i64 go, .int .i64 (ev : Int)] _ hrg.out huE.out rfl infoEd4 ?_)
        | (refine wpList_store_new rfl 71 _ _ rfl rfl _ #[.int .i64 (fr : Int), .int .i64 (tw : Int), .int .i64 go, .int .i64 (ev : Int)] rfl (by kernel_rfl) rfl (ed_one ⟨fr, tw, go, ev⟩) ?_))
      change Code.wp _ _ _ _ (wr.alloc (objEd ⟨fr, tw, go, ev⟩))
      generalize wr.alloc (objEd ⟨fr, tw, go, ev⟩) = X1 at *
      generalize wr.heap.size = C at *
      clear hrg x1
      have hRd : Hid (∀ w', Below X1.heap.size X1 w' → w'.rangeAt C 0 [.int .i64 (fr : Int), .int .i64 (tw : Int), .int .i64 go, .int .i64 (ev : Int)]) := fun w' z => rng_blkG (blk_onG hst1.out.2 z)
      have hS : Hid (Below X1.heap.size X1 X1.drew) := bey_drew X1
      have xa := ix16A K fr hfr
      have xb := ix16B K (fr * 4) tw htw
      refine wp_region_noPanic ?_
      refine wp_region_held_drew (S := fun w' => Below X1.heap.size X1 w') (by kernel_rfl) hS.out (fun _ => ?_)
      refine reg_move (i := 0) rfl (by kernel_rfl) (by kernel_rfl) (by kernel_rfl) (fun _ _ _ _ h => h) rfl (.pointer (some ⟨C, 0, none⟩)) (fun _ => rfl) hS.out ?_
      simp only [Act.put, List.getElem_toArray, List.getElem_cons_succ, List.getElem_cons_zero, List.setIfInBounds_toArray, List.set_cons_zero, List.set_cons_succ]
      refine reg_load1 (i := 1) rfl (by kernel_rfl) (by kernel_rfl) (by kernel_rfl) (fun _ _ _ _ h => h) rfl 3 _ rfl ⟨C, 0, none⟩ rfl _ Try.underlying3 rfl (.int .i64 (fr : Int)) (fun w' z => hRd.out w' z 0 _ rfl) hS.out ?_
      simp only [Act.put, List.getElem_toArray, List.getElem_cons_succ, List.getElem_cons_zero, List.setIfInBounds_toArray, List.set_cons_zero, List.set_cons_succ]
      refine reg_move (i := 2) rfl (by kernel_rfl) (by kernel_rfl) (by kernel_rfl) (fun _ _ _ _ h => h) rfl (.pointer (some ⟨C, 1, none⟩)) (fun _ => rfl) hS.out ?_
      simp only [Act.put, List.getElem_toArray, List.getElem_cons_succ, List.getElem_cons_zero, List.setIfInBounds_toArray, List.set_cons_zero, List.set_cons_succ]
      refine reg_load1 (i := 3) rfl (by kernel_rfl) (by kernel_rfl) (by kernel_rfl) (fun _ _ _ _ h => h) rfl 3 _ rfl ⟨C, 1, none⟩ rfl _ Try.underlying3 rfl (.int .i64 (tw : Int)) (fun w' z => hRd.out w' z 1 _ rfl) hS.out ?_
      simp only [Act.put, List.getElem_toArray, List.getElem_cons_succ, List.getElem_cons_zero, List.setIfInBounds_toArray, List.set_cons_zero, List.set_cons_succ]
      refine reg_move (i := 4) rfl (by kernel_rfl) (by kernel_rfl) (by kernel_rfl) (fun _ _ _ _ h => h) rfl (.pointer (some ⟨K, fr * 4, none⟩)) (fun wx => by unfold execOp; exact run_value_of (xa wx)) hS.out ?_
      simp only [Act.put, List.getElem_toArray, List.getElem_cons_succ, List.getElem_cons_zero, List.setIfInBounds_toArray, List.set_cons_zero, List.set_cons_succ]
      refine reg_move (i := 5) rfl (by kernel_rfl) (by kernel_rfl) (by kernel_rfl) (fun _ _ _ _ h => h) rfl (.pointer (some ⟨K, (fr * 4 + tw), none⟩)) (fun wx => by unfold execOp; exact run_value_of (xb wx)) hS.out ?_
      simp only [Act.put, List.getElem_toArray, List.getElem_cons_succ, List.getElem_cons_zero, List.setIfInBounds_toArray, List.set_cons_zero, List.set_cons_succ]
      refine reg_move (i := 6) rfl (by kernel_rfl) (by kernel_rfl) (by kernel_rfl) (fun _ _ _ _ h => h) rfl (.pointer (some ⟨K, (fr * 4 + tw), none⟩)) (fun _ => rfl) hS.out ?_
      simp only [Act.put, List.getElem_toArray, List.getElem_cons_succ, List.getElem_cons_zero, List.setIfInBounds_toArray, List.set_cons_zero, List.set_cons_succ]
      refine wpAnyH_done (by kernel_rfl) (NoPanic.normal ?_) _
      have hst2 : Hid (TkR w X1.drew K lo H n c a hf E S ∧ X1.drew.heap[C]? = some (objEd ⟨fr, tw, go, ev⟩)) := ⟨hst1.out.1.later hS.out, blk_onG hst1.out.2 hS.out⟩
      generalize X1.drew = X2 at *
      clear hS hRd hst1 xa xb
      go_upto_region 7 with fail
      have hRd : Hid (∀ w', Below X2.heap.size X2 w' → w'.rangeAt C 0 [.int .i64 (fr : Int), .int .i64 (tw : Int), .int .i64 go, .int .i64 (ev : Int)] ∧ w'.rangeAt H (ev * 4) [.bool (hf (ev * 4)), .bool (hf (ev * 4 + 1)), .bool (hf (ev * 4 + 2)), .bool (hf (ev * 4 + 3))]) := fun w' z => ⟨rng_blkG (blk_onG hst2.out.2 z), hev.out _ _ _ _ (blk_onG hst2.out.1.h z) hevn⟩
      have hS : Hid (Below X2.heap.size X2 X2.drew) := bey_drew X2
      have xh := hxh.out H ev hevn
      refine wp_region_noPanic ?_
      refine wp_region_held_drew (S := fun w' => Below X2.heap.size X2 w') (by kernel_rfl) hS.out (fun _ => ?_)
      refine reg_move (i := 0) rfl (by kernel_rfl) (by kernel_rfl) (by kernel_rfl) (fun _ _ _ _ h => h) rfl (.pointer (some ⟨C, 2, none⟩)) (fun _ => rfl) hS.out ?_
      simp only [Act.put, List.getElem_toArray, List.getElem_cons_succ, List.getElem_cons_zero, List.setIfInBounds_toArray, List.set_cons_zero, List.set_cons_succ]
      refine reg_load1 (i := 1) rfl (by kernel_rfl) (by kernel_rfl) (by kernel_rfl) (fun _ _ _ _ h => h) rfl 3 _ rfl ⟨C, 2, none⟩ rfl _ Try.underlying3 rfl (.int .i64 go) (fun w' z => (hRd.out w' z).1 2 _ rfl) hS.out ?_
      simp only [Act.put, List.getElem_toArray, List.getElem_cons_succ, List.getElem_cons_zero, List.setIfInBounds_toArray, List.set_cons_zero, List.set_cons_succ]
      refine reg_move (i := 2) rfl (by kernel_rfl) (by kernel_rfl) (by kernel_rfl) (fun _ _ _ _ h => h) rfl (.slice (some ⟨H, 0, none⟩) n n) (fun _ => rfl) hS.out ?_
      simp only [Act.put, List.getElem_toArray, List.getElem_cons_succ, List.getElem_cons_zero, List.setIfInBounds_toArray, List.set_cons_zero, List.set_cons_succ]
      refine reg_move (i := 3) rfl (by kernel_rfl) (by kernel_rfl) (by kernel_rfl) (fun _ _ _ _ h => h) rfl (.pointer (some ⟨C, 3, none⟩)) (fun _ => rfl) hS.out ?_
      simp only [Act.put, List.getElem_toArray, List.getElem_cons_succ, List.getElem_cons_zero, List.setIfInBounds_toArray, List.set_cons_zero, List.set_cons_succ]
      refine reg_load1 (i := 4) rfl (by kernel_rfl) (by kernel_rfl) (by kernel_rfl) (fun _ _ _ _ h => h) rfl 3 _ rfl ⟨C, 3, none⟩ rfl _ Try.underlying3 rfl (.int .i64 (ev : Int)) (fun w' z => (hRd.out w' z).1 3 _ rfl) hS.out ?_
      simp only [Act.put, List.getElem_toArray, List.getElem_cons_succ, List.getElem_cons_zero, List.setIfInBounds_toArray, List.set_cons_zero, List.set_cons_succ]
      refine reg_move (i := 5) rfl (by kernel_rfl) (by kernel_rfl) (by kernel_rfl) (fun _ _ _ _ h => h) rfl (.pointer (some ⟨H, ev * 4, none⟩)) (fun wx => by unfold execOp; exact run_value_of (xh wx)) hS.out ?_
      simp only [Act.put, List.getElem_toArray, List.getElem_cons_succ, List.getElem_cons_zero, List.setIfInBounds_toArray, List.set_cons_zero, List.set_cons_succ]
      refine reg_load (i := 6) rfl (by kernel_rfl) (by kernel_rfl) (by kernel_rfl) (fun _ _ _ _ h => h) rfl 67 _ rfl H (ev * 4) rfl [.bool (hf (ev * 4)), .bool (hf (ev * 4 + 1)), .bool (hf (ev * 4 + 2)), .bool (hf (ev * 4 + 3))] _ (fun w' z => (hRd.out w' z).2) Try.underlying67 rfl infoS4s hS.out ?_
      simp only [Act.put, List.getElem_toArray, List.getElem_cons_succ, List.getElem_cons_zero, List.setIfInBounds_toArray, List.set_cons_zero, List.set_cons_succ]
      refine reg_move (i := 7) rfl (by kernel_rfl) (by kernel_rfl) (by kernel_rfl) (fun _ _ _ _ h => h) rfl (.agg #[.int .i64 go, .bool (hf (ev * 4)), .bool (hf (ev * 4 + 1)), .bool (hf (ev * 4 + 2)), .bool (hf (ev * 4 + 3))]) (fun wx => by unfold execOp; refine run_value_of (Eq.trans (congrArg (fun v => (Instr.build 97 v).run Try.prog wx) (?_ : _ = #[(0, .int .i64 go), (1, .agg #[.bool (hf (ev * 4)), .bool (hf (ev * 4 + 1)), .bool (hf (ev * 4 + 2)), .bool (hf (ev * 4 + 3))])])) (bld_tk go (hf (ev * 4)) (hf (ev * 4 + 1)) (hf (ev * 4 + 2)) (hf (ev * 4 + 3)) wx)); first | rfl | kernel_rfl | (simp; rfl)) hS.out ?_
      simp only [Act.put, List.getElem_toArray, List.getElem_cons_succ, List.getElem_cons_zero, List.setIfInBounds_toArray, List.set_cons_zero, List.set_cons_succ]
      refine reg_one (i := 8) (by kernel_rfl) rfl rfl (wpList_alloc_big rfl 97 rfl zeroTk (wpList_nil (And.intro (bthen hS.out (boxed _ _)) fun _ => ?_)))
      simp only [Act.put, List.getElem_toArray, List.getElem_cons_succ, List.getElem_cons_zero, List.setIfInBounds_toArray, List.set_cons_zero, List.set_cons_succ]
      refine reg_one (i := 9) (by kernel_rfl) rfl rfl (wpList_store_row rfl 97 _ _ rfl X2.drew.heap.size #[.int .i64 go, .bool (hf (ev * 4)), .bool (hf (ev * 4 + 1)), .bool (hf (ev * 4 + 2)), .bool (hf (ev * 4 + 3))] rfl rfl _ _ (heap_alloc_new _ _) infoTk5 rfl (tk_oneX _ _ _ _ _) (wpList_nil (And.intro (below_setRow (bthen hS.out (boxed _ _)) hS.out.size _) fun _ => ?_)))
      simp only [Act.put, List.getElem_toArray, List.getElem_cons_succ, List.getElem_cons_zero, List.setIfInBounds_toArray, List.set_cons_zero, List.set_cons_succ]
      refine wpAnyH_done (by kernel_rfl) (NoPanic.normal ?_) _
      have hb3 : Hid (Below X2.heap.size X2 ((X2.drew.alloc (.cells #[.int .i64 0, .bool false, .bool false, .bool false, .bool false] 97)).setRow X2.drew.heap.size #[.int .i64 go, .bool (hf (ev * 4)), .bool (hf (ev * 4 + 1)), .bool (hf (ev * 4 + 2)), .bool (hf (ev * 4 + 3))])) := below_setRow (bthen hS.out (boxed _ _)) hS.out.size _
      have hD3 : Hid (((X2.drew.alloc (.cells #[.int .i64 0, .bool false, .bool false, .bool false, .bool false] 97)).setRow X2.drew.heap.size #[.int .i64 go, .bool (hf (ev * 4)), .bool (hf (ev * 4 + 1)), .bool (hf (ev * 4 + 2)), .bool (hf (ev * 4 + 3))]).heap[X2.drew.heap.size]? = some (objTk ⟨go, hf (ev * 4), hf (ev * 4 + 1), hf (ev * 4 + 2), hf (ev * 4 + 3)⟩)) := setRow_heap _ _ _ _ _ _ (heap_alloc_new _ _)
      have hDf : Hid (∀ j, j < 16 → X2.drew.heap.size ∉ blk (S j).1) := fun j hj q => by
        have h1 := (blk_lt (hst2.out.1.t.o j hj) _ q).2
        have h2 := hS.out.size
        omega
      have hDK : Hid (X2.drew.heap.size ≠ K) := by
        have h1 := (Array.getElem?_eq_some_iff.mp hst2.out.1.t.k).1
        have h2 := hS.out.size
        show _ ≠ _
        omega
      generalize (X2.drew.alloc (.cells #[.int .i64 0, .bool false, .bool false, .bool false, .bool false] 97)).setRow X2.drew.heap.size #[.int .i64 go, .bool (hf (ev * 4)), .bool (hf (ev * 4 + 1)), .bool (hf (ev * 4 + 2)), .bool (hf (ev * 4 + 3))] = X3 at *
      generalize X2.drew.heap.size = D at *
      have hst3 : Hid (TkR w X3 K lo H n c a hf E S) := hst2.out.1.later hb3.out
      clear hb3 hS hRd hst2 xh
      obtain ⟨x, hx⟩ : ∃ x : Tk, (⟨go, hf (ev * 4), hf (ev * 4 + 1), hf (ev * 4 + 2), hf (ev * 4 + 3)⟩ : Tk) = x := ⟨_, rfl⟩
      have hstp2 : Hid (∀ k, tkF hf (E.take (j + 1)) k = if k = fr * 4 + tw then addT x (tkF hf (E.take j) k) else tkF hf (E.take j) k) := fun k => by
        rw [hstp.out, ← hx]
        rfl
      rw [hx] at hD3
      clear hx hstp
      obtain ⟨s, hs⟩ : ∃ s, S (fr * 4 + tw) = s := ⟨_, rfl⟩
      have hsH : Hid (S (fr * 4 + tw) = s) := hs
      have hpuS : Hid (s.2.1 = tkF hf (E.take j) (fr * 4 + tw)) := by (rw [← hs]; exact hpu.out _ hpl)
      obtain ⟨R, hR⟩ : ∃ R : Bool, decide (x ∈ s.2.1) = R := ⟨_, rfl⟩
      have hRH : Hid (R = true ↔ x ∈ s.2.1) := by (rw [← hR]; exact decide_eq_true_iff)
      rw [hs] at hLl
      clear hs hR
      go_upto_region 8 with fail
      have hRd : Hid (∀ w', Below X3.heap.size X3 w' → w'.cell? ⟨K, fr * 4 + tw, none⟩ = some (slV s) ∧ w'.rangeAt D 0 x.cells) := fun w' z => ⟨by (rw [← hsH.out]; exact (hst3.out.t.later z).cell hpl), rng_blkG (blk_onG hD3.out z)⟩
      have hS : Hid (Below X3.heap.size X3 X3.drew) := bey_drew X3
      have cC : Hid (Calls Try.prog 47 #[slV s, x.val] X3.drew fun e w' => e = .returned (.bool R) ∧ Below X3.drew.heap.size X3.drew w') := containsTk_any s.2.1 s.1 s.2.2 x X3.drew (by (rw [← hsH.out]; exact (hst3.out.t.later hS.out).rows hpl)) R hRH
      refine wp_region_noPanic ?_
      refine wp_region_held_drew (S := fun w' => Below X3.heap.size X3 w') (by kernel_rfl) hS.out (fun _ => ?_)
      refine reg_move (i := 0) rfl (by kernel_rfl) (by kernel_rfl) (by kernel_rfl) (fun _ _ _ _ h => h) rfl (.pointer (some ⟨K, (fr * 4 + tw), none⟩)) (fun _ => rfl) hS.out ?_
      simp only [Act.put, List.getElem_toArray, List.getElem_cons_succ, List.getElem_cons_zero, List.setIfInBounds_toArray, List.set_cons_zero, List.set_cons_succ]
      refine reg_move (i := 1) rfl (by kernel_rfl) (by kernel_rfl) (by kernel_rfl) (fun _ _ _ _ h => h) rfl (.pointer (some ⟨K, (fr * 4 + tw), none⟩)) (fun _ => rfl) hS.out ?_
      simp only [Act.put, List.getElem_toArray, List.getElem_cons_succ, List.getElem_cons_zero, List.setIfInBounds_toArray, List.set_cons_zero, List.set_cons_succ]
      refine reg_load1 (i := 2) rfl (by kernel_rfl) (by kernel_rfl) (by kernel_rfl) (fun _ _ _ _ h => h) rfl 91 _ rfl ⟨K, (fr * 4 + tw), none⟩ rfl _ Try.underlying91 rfl (slV s) (fun w' z => (hRd.out w' z).1) hS.out ?_
      simp only [Act.put, List.getElem_toArray, List.getElem_cons_succ, List.getElem_cons_zero, List.setIfInBounds_toArray, List.set_cons_zero, List.set_cons_succ]
      refine reg_load (i := 3) rfl (by kernel_rfl) (by kernel_rfl) (by kernel_rfl) (fun _ _ _ _ h => h) rfl 97 _ rfl D 0 rfl x.cells _ (fun w' z => (hRd.out w' z).2) Try.underlying97 rfl infoTk5 hS.out ?_
      simp only [Act.put, List.getElem_toArray, List.getElem_cons_succ, List.getElem_cons_zero, List.setIfInBounds_toArray, List.set_cons_zero, List.set_cons_succ]
      refine reg_call2 (i := 4) (by kernel_rfl) rfl rfl 47 _ _ _ _ rfl (slV s) x.val rfl rfl (cf_fn Try.func47 (by kernel_rfl) (by kernel_rfl) _ _) _ cC.out ?_
      rintro e X4 ⟨rfl, hb4⟩
      refine ⟨_, rfl, bthen hS.out hb4, fun _ => ?_⟩
      simp only [Act.put, List.getElem_toArray, List.getElem_cons_succ, List.getElem_cons_zero, List.setIfInBounds_toArray, List.set_cons_zero, List.set_cons_succ]
      refine reg_move (i := 5) rfl (by kernel_rfl) (by kernel_rfl) (by kernel_rfl) (fun _ _ _ _ h => h) rfl (.bool (!R)) (fun _ => rfl) (bthen hS.out hb4) ?_
      simp only [Act.put, List.getElem_toArray, List.getElem_cons_succ, List.getElem_cons_zero, List.setIfInBounds_toArray, List.set_cons_zero, List.set_cons_succ]
      refine wpAnyH_done (by kernel_rfl) (NoPanic.normal ?_) _
      have hb4' : Hid (Below X3.heap.size X3 X4) := bthen hS.out hb4
      have hst4 : Hid (TkR w X4 K lo H n c a hf E S ∧ X4.heap[D]? = some (objTk x)) := ⟨hst3.out.later hb4'.out, blk_onG hD3.out hb4'.out⟩
      clear hb4' hb4 hS hRd hst3 hD3 cC
      cases R with
      | true =>
        go_wp2
        go_roundw
        case rel => exact ⟨j + 1, S, by omega, by go_num, hst4.out.1, fun k hk => by
          rw [hstp2.out k]
          by_cases e : k = fr * 4 + tw
          · rw [if_pos e, e, ← hpuS.out, hsH.out]
            unfold addT
            rw [if_pos (hRH.out.mp rfl)]
          · rw [if_neg e]
            exact hpu.out k hk⟩
        case measure => simp [intOf]; omega
      | false =>
        go_upto_region 9 with fail
        have hQ0 : Hid (TkR w X4.drew K lo H n c a hf E S ∧ X4.drew.heap[D]? = some (objTk x)) := ⟨hst4.out.1.later (bey_drew X4), hst4.out.2⟩
        have hS : Hid (X4.drew.heap[D]? = some (objTk x)) := hQ0.out.2
        refine wp_region_noPanic ?_
        refine wp_region_held_drew (S := fun w' => w'.heap[D]? = some (objTk x)) (by kernel_rfl) hS.out (fun _ => ?_)
        generalize X4.drew = Q at *
        clear hst4
        refine reg_move (i := 0) rfl (by kernel_rfl) (by kernel_rfl) (by kernel_rfl) (fun _ _ _ _ h => h) rfl (.pointer (some ⟨K, (fr * 4 + tw), none⟩)) (fun _ => rfl) hS.out ?_
        simp only [Act.put, List.getElem_toArray, List.getElem_cons_succ, List.getElem_cons_zero, List.setIfInBounds_toArray, List.set_cons_zero, List.set_cons_succ]
        refine reg_move (i := 1) rfl (by kernel_rfl) (by kernel_rfl) (by kernel_rfl) (fun _ _ _ _ h => h) rfl (.pointer (some ⟨K, (fr * 4 + tw), none⟩)) (fun _ => rfl) hS.out ?_
        simp only [Act.put, List.getElem_toArray, List.getElem_cons_succ, List.getElem_cons_zero, List.setIfInBounds_toArray, List.set_cons_zero, List.set_cons_succ]
        refine reg_move (i := 2) rfl (by kernel_rfl) (by kernel_rfl) (by kernel_rfl) (fun _ _ _ _ h => h) rfl (.pointer (some ⟨K, (fr * 4 + tw), none⟩)) (fun _ => rfl) hS.out ?_
        simp only [Act.put, List.getElem_toArray, List.getElem_cons_succ, List.getElem_cons_zero, List.setIfInBounds_toArray, List.set_cons_zero, List.set_cons_succ]
        refine reg_load (i := 4) rfl (by kernel_rfl) (by kernel_rfl) (by kernel_rfl) (fun _ _ _ _ h => h) rfl 97 _ rfl D 0 rfl x.cells _ (fun w' z => rng_blkG z) Try.underlying97 rfl infoTk5 hS.out ?_
        simp only [Act.put, List.getElem_toArray, List.getElem_cons_succ, List.getElem_cons_zero, List.setIfInBounds_toArray, List.set_cons_zero, List.set_cons_succ]
        have hQ : Hid (TkR w Q K lo H n c a hf E S ∧ Q.heap[D]? = some (objTk x)) := hQ0
        clear hQ0
        have hos : Hid (OwnL Q w.heap.size 97 5 s.1 s.2.2 (s.2.1.map Tk.cells)) := by (rw [← hsH.out]; exact hQ.out.1.t.o _ hpl)
        have hcl : Hid (∀ w', Below Q.heap.size Q w' → w'.cell? ⟨K, fr * 4 + tw, none⟩ = some (slV s)) := fun w' z => by (rw [← hsH.out]; exact (hQ.out.1.t.later z).cell hpl)
        have hDl : Hid (D < Q.heap.size ∧ D ∉ blk s.1) := ⟨(Array.getElem?_eq_some_iff.mp hQ.out.2).1, by (rw [← hsH.out]; exact hDf.out _ hpl)⟩
        have hKl : Hid (K < Q.heap.size ∧ K ∉ blk s.1) := ⟨(Array.getElem?_eq_some_iff.mp hQ.out.1.t.k).1, by (rw [← hsH.out]; exact hQ.out.1.t.off hpl hQ.out.1.t.k (by decide))⟩
        refine reg_two (i := 3) (j := 5) (by kernel_rfl) rfl rfl rfl rfl (wpList_load1 rfl 91 _ rfl ⟨K, fr * 4 + tw, none⟩ rfl _ Try.underlying91 rfl (slV s) (hcl.out _ (Below.refl _ _)) (wpList_nil (And.intro hS.out fun _ => ?_))) (wpList_buildSlice rfl 91 97 1 _ rfl x.cells.toArray iT _ Try.underlying91 hiT.out hzT.out (by rw [hsT.out]; omega) (by rw [hsT.out]; omega) (by simp only [hsT.out]; kernel_rfl) (wpList_nil (And.intro (blk_onG hS.out (boxed _ _)) fun _ => ?_)))
        · simp only [Act.put, List.getElem_toArray, List.getElem_cons_succ, List.getElem_cons_zero, List.setIfInBounds_toArray, List.set_cons_zero, List.set_cons_succ]
          refine reg_one (i := 5) (by kernel_rfl) rfl rfl (wpList_buildSlice rfl 91 97 1 _ rfl x.cells.toArray iT _ Try.underlying91 hiT.out hzT.out (by rw [hsT.out]; omega) (by rw [hsT.out]; omega) (by simp only [hsT.out]; kernel_rfl) (wpList_nil (And.intro (blk_onG hS.out (boxed _ _)) fun _ => ?_)))
          simp only [Act.put, List.getElem_toArray, List.getElem_cons_succ, List.getElem_cons_zero, List.setIfInBounds_toArray, List.set_cons_zero, List.set_cons_succ]
          refine reg_one (i := 6) (by kernel_rfl) rfl rfl (wpList_app1 rfl _ _ 91 rfl w.heap.size 97 iT _ 5 16 Try.underlying91 hiT.out hzT.out hsT.out hbT.out rfl (by decide) s.1 s.2.2 (s.2.1.map Tk.cells) (by rw [List.length_map]; rfl) hos.out x.cells rfl rfl (by simp [Value.oneCell']) (by rw [List.length_map]; have := hLl.out; unfold maxLen; omega) (by rw [List.length_map]; have := hLl.out; omega) hQ.out.1.t.b.size fun va vc Z3 hgr => wpList_nil (And.intro ((hgr.kp _ hDl.out.1 hDl.out.2).trans hQ.out.2) fun _ => ?_))
          simp only [Act.put, List.getElem_toArray, List.getElem_cons_succ, List.getElem_cons_zero, List.setIfInBounds_toArray, List.set_cons_zero, List.set_cons_succ]
          rw [List.length_map]
          have hSA : Hid (Z3.heap[D]? = some (objTk x)) := (hgr.kp _ hDl.out.1 hDl.out.2).trans hQ.out.2
          have hK3 : Hid (Z3.heap[K]? = some (.cells (rowT S) TKS)) := (hgr.kp K hKl.out.1 hKl.out.2).trans hQ.out.1.t.k
          refine reg_move (i := 7) rfl (by kernel_rfl) (by kernel_rfl) (by kernel_rfl) (fun _ _ _ _ h => h) rfl (.pointer (some ⟨K, (fr * 4 + tw), none⟩)) (fun _ => rfl) hSA.out ?_
          simp only [Act.put, List.getElem_toArray, List.getElem_cons_succ, List.getElem_cons_zero, List.setIfInBounds_toArray, List.set_cons_zero, List.set_cons_succ]
          refine reg_one (i := 8) (by kernel_rfl) rfl rfl (wpList_store1 rfl 91 _ _ rfl ⟨K, fr * 4 + tw, none⟩ rfl va (s.2.1.length + 1) vc rfl (by kernel_rfl) _ (cell_lcG hK3.out (rowT_at hpl)) (frozen_of_row _ _ _ _ _ hK3.out) (wpList_nil (And.intro ((heap_setCell_other _ ⟨K, fr * 4 + tw, none⟩ _ _ hDK.out).trans hSA.out) fun _ => ?_)))
          simp only [Act.put, List.getElem_toArray, List.getElem_cons_succ, List.getElem_cons_zero, List.setIfInBounds_toArray, List.set_cons_zero, List.set_cons_succ]
          refine wpAnyH_done (by kernel_rfl) (NoPanic.normal ?_) _
          have hF : Hid (TkR w (Z3.setCell ⟨K, fr * 4 + tw, none⟩ (.slice va (s.2.1.length + 1) vc)) K lo H n c a hf E fun k => if k = fr * 4 + tw then (va, s.2.1 ++ [x], vc) else S k) := ⟨(tk_grow hsH.out hQ.out.1.t hQ.out.1.o hQ.out.1.h hpl hgr).1, (tk_grow hsH.out hQ.out.1.t hQ.out.1.o hQ.out.1.h hpl hgr).2.1, (tk_grow hsH.out hQ.out.1.t hQ.out.1.o hQ.out.1.h hpl hgr).2.2⟩
          generalize World.setCell _ _ _ = Z4 at *
          go_wp2
          go_roundw
          case rel => exact ⟨j + 1, _, by omega, by go_num, hF.out, fun k hk => by
            rw [hstp2.out k]
            by_cases e : k = fr * 4 + tw
            · rw [if_pos e, if_pos e, e, ← hpuS.out]
              unfold addT
              rw [if_neg (fun q => by cases hRH.out.mpr q)]
            · rw [if_neg e, if_neg e]
              exact hpu.out k hk⟩
          case measure => simp [intOf]; omega
        · simp only [Act.put, List.getElem_toArray, List.getElem_cons_succ, List.getElem_cons_zero, List.setIfInBounds_toArray, List.set_cons_zero, List.set_cons_succ]
          refine reg_one (i := 3) (by kernel_rfl) rfl rfl (wpList_load1 rfl 91 _ rfl ⟨K, fr * 4 + tw, none⟩ rfl _ Try.underlying91 rfl (slV s) (hcl.out _ (boxed _ _)) (wpList_nil (And.intro (blk_onG hS.out (boxed _ _)) fun _ => ?_)))
          simp only [Act.put, List.getElem_toArray, List.getElem_cons_succ, List.getElem_cons_zero, List.setIfInBounds_toArray, List.set_cons_zero, List.set_cons_succ]
          refine reg_one (i := 6) (by kernel_rfl) rfl rfl (wpList_app1 rfl _ _ 91 rfl w.heap.size 97 iT _ 5 16 Try.underlying91 hiT.out hzT.out hsT.out hbT.out rfl (by decide) s.1 s.2.2 (s.2.1.map Tk.cells) (by rw [List.length_map]; rfl) hos.out x.cells rfl rfl (by simp [Value.oneCell']) (by rw [List.length_map]; have := hLl.out; unfold maxLen; omega) (by rw [List.length_map]; have := hLl.out; omega) hQ.out.1.t.b.size fun va vc Z3 hgr => wpList_nil (And.intro ((hgr.kp _ hDl.out.1 hDl.out.2).trans hQ.out.2) fun _ => ?_))
          simp only [Act.put, List.getElem_toArray, List.getElem_cons_succ, List.getElem_cons_zero, List.setIfInBounds_toArray, List.set_cons_zero, List.set_cons_succ]
          rw [List.length_map]
          have hSA : Hid (Z3.heap[D]? = some (objTk x)) := (hgr.kp _ hDl.out.1 hDl.out.2).trans hQ.out.2
          have hK3 : Hid (Z3.heap[K]? = some (.cells (rowT S) TKS)) := (hgr.kp K hKl.out.1 hKl.out.2).trans hQ.out.1.t.k
          refine reg_move (i := 7) rfl (by kernel_rfl) (by kernel_rfl) (by kernel_rfl) (fun _ _ _ _ h => h) rfl (.pointer (some ⟨K, (fr * 4 + tw), none⟩)) (fun _ => rfl) hSA.out ?_
          simp only [Act.put, List.getElem_toArray, List.getElem_cons_succ, List.getElem_cons_zero, List.setIfInBounds_toArray, List.set_cons_zero, List.set_cons_succ]
          refine reg_one (i := 8) (by kernel_rfl) rfl rfl (wpList_store1 rfl 91 _ _ rfl ⟨K, fr * 4 + tw, none⟩ rfl va (s.2.1.length + 1) vc rfl (by kernel_rfl) _ (cell_lcG hK3.out (rowT_at hpl)) (frozen_of_row _ _ _ _ _ hK3.out) (wpList_nil (And.intro ((heap_setCell_other _ ⟨K, fr * 4 + tw, none⟩ _ _ hDK.out).trans hSA.out) fun _ => ?_)))
          simp only [Act.put, List.getElem_toArray, List.getElem_cons_succ, List.getElem_cons_zero, List.setIfInBounds_toArray, List.set_cons_zero, List.set_cons_succ]
          refine wpAnyH_done (by kernel_rfl) (NoPanic.normal ?_) _
          have hF : Hid (TkR w (Z3.setCell ⟨K, fr * 4 + tw, none⟩ (.slice va (s.2.1.length + 1) vc)) K lo H n c a hf E fun k => if k = fr * 4 + tw then (va, s.2.1 ++ [x], vc) else S k) := ⟨(tk_grow hsH.out hQ.out.1.t hQ.out.1.o hQ.out.1.h hpl hgr).1, (tk_grow hsH.out hQ.out.1.t hQ.out.1.o hQ.out.1.h hpl hgr).2.1, (tk_grow hsH.out hQ.out.1.t hQ.out.1.o hQ.out.1.h hpl hgr).2.2⟩
          generalize World.setCell _ _ _ = Z4 at *
          go_wp2
          go_roundw
          case rel => exact ⟨j + 1, _, by omega, by go_num, hF.out, fun k hk => by
            rw [hstp2.out k]
            by_cases e : k = fr * 4 + tw
            · rw [if_pos e, if_pos e, e, ← hpuS.out]
              unfold addT
              rw [if_neg (fun q => by cases hRH.out.mpr q)]
            · rw [if_neg e, if_neg e]
              exact hpu.out k hk⟩
          case measure => simp [intOf]; omega
    · have hje : j = E.length := by omega
      have hjI : ¬ (j : Int) < E.length := by omega
      have hELI : (E.length : Int) ≤ 1024 := by have := hEl.out; omega
      rw [hje, List.take_length] at hst
      go_wp2
      go_ret
      exact ⟨K, rfl, S, hst.out.1.t, hst.out.2⟩
end
end Go.Proofs.Ytdfnmlcpimiboaa.pg
/- An append keeps the list that it stands behind: also where it writes into its spare room. -/
namespace Go.Proofs.Ytdfnmlcpimiboaa.pg
open Go.ChangeShapes Go.WideShapes Go.ChangeAt Go.RowKit
set_option linter.unusedVariables false
set_option linter.unusedSimpArgs false
set_option maxRecDepth 100000
theorem app_keeps {P : Program} (w : World) (base : Nat) (t ty e : TypeId) (i : TypeInfo) (z : Value) (size bytes : Nat) (ht : P.underlying t = some (.slice e)) (hi : P.info? e = some i) (hz : i.zero = some z)
    (hsize : i.size = size) (hby : i.bytes = bytes) (hzs : z.cells.size = size) (hsz : 0 < size)
    (v : Value) (n : Nat) (xs : List Value) (hown : w.ownsRow base e size v n xs)
    (a : Addr) (m c : Nat) (news : List Value) (hl : news.length = m * size) (hnews : ∀ j u, news[j]? = some u → w.cell? (a.add j) = some u) (h1 : ∀ u ∈ news, u.oneCell' = true)
    (h63 : n + m ≤ maxLen) (hbytes : (n + m) * bytes ≤ 140737488355328) {v' : Value} {w' : World} (hr : (Builtin.append_ #[t, t] ty #[v, .slice (some a) m c]).run P w = .ok v' w') : w'.ownsRow base e size v n xs := by
  subst hsize
  subst hby
  have hsmall : n + m ≤ 9223372036854775807 := by simp only [maxLen] at h63; omega
  have hlen : (xs ++ news).length = (n + m) * i.size := by rw [List.length_append, hown.1, hl, Nat.add_mul]
  rcases hown.2 with ⟨rfl, rfl⟩ | ⟨g, cap, cur, rfl, hbg, hg, hnc, hcm, hcs, htake⟩
  · exact ⟨hown.1, .inl ⟨rfl, rfl⟩⟩
  · by_cases hroom : n + m ≤ cap
    · have hfit : n * i.size + news.length ≤ cur.size := by rw [hl, hcs, ← Nat.add_mul]; exact Nat.mul_le_mul_right _ hroom
      have hr2 := run_append_room (P := P) w t ty e i ht hi g n cap cur hg a m c news hl hnews h1 hroom hfit
      have e1 := hr.symm.trans hr2
      injection e1 with q1 q2
      subst q2
      refine ⟨hown.1, .inr ⟨g, cap, _, rfl, hbg, setRow_heap w g cur _ e _ hg, hnc, hcm, ?_, ?_⟩⟩
      · simp only [List.size_toArray, List.length_append, List.length_take, List.length_drop, Array.length_toList]
        omega
      · rw [htake, List.append_assoc, ← hown.1]
        exact List.take_left
    · have holds : ∀ j u, xs[j]? = some u → w.cell? ((⟨g, 0, none⟩ : Addr).add j) = some u := hown.cells (g := g) rfl
      have hr2 := run_append_grow (P := P) w t ty e i z ht hi hz ⟨g, 0, none⟩ n cap xs hown.1 holds a m c news hl hnews (by omega) (by omega) (growslice_fits (by omega) hbytes)
      have e1 := hr.symm.trans hr2
      injection e1 with q1 q2
      subst q2
      have hgl : g < w.heap.size := (Array.getElem?_eq_some_iff.mp hg).1
      exact ⟨hown.1, .inr ⟨g, cap, cur, rfl, hbg, (heap_alloc_old w.drew _ hgl).trans hg, hnc, hcm, hcs, htake⟩⟩
/-- An append of one element, and what the list behind which it stands is then. -/
theorem wpList_app1S {P : Program} {wr : World} {ops : Array Oper} {rest : List Oper} {o : Oper} {a : Act} {Q : Exit → Act → World → Prop} (hgd : o.guard = none) (s x : Operand) (t : TypeId)
    (ho : o.op = .call { callee := .builtin .append, args := #[s, x], argTypes := #[t, t] })
    (base : Nat) (e : TypeId) (i : TypeInfo) (z : Value) (k bytes : Nat) (ht : P.underlying t = some (.slice e)) (hi : P.info? e = some i) (hz : i.zero = some z)
    (hsize : i.size = k) (hby : i.bytes = bytes) (hzs : z.cells.size = k) (hsz : 0 < k)
    (va : Option Addr) (vc : Nat) (L : List (List Value)) (hs : a.eval s = .slice va L.length vc) (hown : OwnL wr base e k va vc L) (cs : List Value)
    (hx : a.eval x = .slice (some ⟨wr.heap.size, 0, none⟩) 1 1) (hk : cs.length = k) (h1 : ∀ u ∈ cs, u.oneCell' = true)
    (h63 : L.length + 1 ≤ maxLen) (hbytes : (L.length + 1) * bytes ≤ 140737488355328) (hbase : base ≤ wr.heap.size)
    (h : ∀ va' vc' w', Grown wr base e k va L cs va' vc' w' → OwnL w' base e k va vc L → wpList P ops Q rest (a.put o.dst (.slice va' (L.length + 1) vc')) w') :
    wpList P ops Q (o :: rest) a (wr.alloc (.cells cs.toArray e)) := by
  have hbx := boxed wr (.cells cs.toArray e)
  have hB : base ≤ (wr.alloc (.cells cs.toArray e)).heap.size := by have := hbx.size; omega
  have hown2 : OwnL (wr.alloc (.cells cs.toArray e)) base e k va vc L := own_keep hown fun b hb => hbx.block b (blk_lt hown b hb).2
  have hrow := rows_one_q (heap_new_q wr (.cells cs.toArray e)) hk
  have hnews : ∀ j u, cs[j]? = some u → (wr.alloc (.cells cs.toArray e)).cell? ((⟨wr.heap.size, 0, none⟩ : Addr).add j) = some u := fun j u hj => by
    rw [add_none]
    exact cell_lcG (heap_new_q wr _) (by simpa using hj)
  have hl : cs.length = 1 * k := by omega
  have keep := fun {v' w'} hr => app_keeps (P := P) (wr.alloc (.cells cs.toArray e)) base t o.type e i z k bytes ht hi hz hsize hby hzs hsz (.slice va L.length vc) L.length L.flatten hown2 ⟨wr.heap.size, 0, none⟩ 1 1 cs hl hnews h1 h63 hbytes (v' := v') (w' := w') hr
  refine wpList_plain hgd fun K hK => ?_
  obtain ⟨v', w', hr, hv, hg, _, hb⟩ := run_append_own_at (P := P) (wr.alloc (.cells cs.toArray e)) base t o.type e i z k bytes ht hi hz hsize hby hzs hsz (.slice va L.length vc) L.length L.flatten hown2 ⟨wr.heap.size, 0, none⟩ 1 1 cs hl hnews h1 h63 hbytes hB
  have hk3 := keep hr
  unfold Oper.wp execOp
  simp only [ho, resolve, invoke, builtin, Sem.run_bind, Sem.run_pure, Result.andThen_ok, List.map_toArray, List.map_cons, List.map_nil, hs, hx, hr]
  have hk0 : ∀ b, b < (wr.alloc (.cells cs.toArray e)).heap.size → b ∉ blk va → w'.heap[b]? = (wr.alloc (.cells cs.toArray e)).heap[b]? := fun b hb2 hm => hg.block b hb2 (fun q => hm ((ownBlock_blk va L.length vc b).mp q.symm))
  have hlow : ∀ b, b < min base (wr.alloc (.cells cs.toArray e)).heap.size → b ∉ blk va := fun b hb hm => by have := blk_lt hown b hm; omega
  have hBl : Below (min base (wr.alloc (.cells cs.toArray e)).heap.size) (wr.alloc (.cells cs.toArray e)) w' := ⟨hg.os, hg.tape, hg.output, hg.size, fun b hb2 => hk0 b (by omega) (hlow b hb2)⟩
  have hform : ∃ va' vc', v' = .slice va' (L.length + 1) vc' := by
    rcases hv.2 with ⟨q, q2⟩ | ⟨g, cap', cur, q, _⟩
    · omega
    · exact ⟨_, _, q⟩
  obtain ⟨va', vc', rfl⟩ := hform
  have hv2 : OwnL w' base e k va' vc' (L ++ [cs]) := by
    show w'.ownsRow base e k (.slice va' (L ++ [cs]).length vc') (L ++ [cs]).length (L ++ [cs]).flatten
    rw [List.length_append, List.flatten_append, List.length_singleton]
    simpa using hv
  have hcase : ∀ (p q : Option Addr) (np nq cp cq : Nat), (Value.slice p np cp).ownBlock = (Value.slice q nq cq).ownBlock → blk p = blk q := fun p q np nq cp cq h => by
    cases p <;> cases q <;> simp_all [Value.ownBlock, blk]
  refine hK _ _ (h va' vc' w' ⟨hv2, ?_, ?_, ?_⟩ hk3)
  · exact (hbx.mono (by omega)).trans (hBl.mono (by have := hbx.size; omega))
  · intro b hb2 hm
    rw [hk0 b (by have := hbx.size; omega) hm]
    exact hbx.block b hb2
  · intro b hb2
    rcases hb with hb | hb
    · rw [hcase _ _ _ _ _ _ hb] at hb2
      exact .inl hb2
    · right
      cases va' with
      | none => simp [blk] at hb2
      | some ad' =>
        simp only [Value.ownBlock, Option.some.injEq] at hb
        simp only [blk, List.mem_singleton] at hb2
        rw [hb2, hb]
        exact hbx.size
end Go.Proofs.Ytdfnmlcpimiboaa.pg
