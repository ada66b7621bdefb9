/- What the notes of a trace tell: package linear, how an operation begins and ends. -/
import Derived.Test.YtklpifammbnldaaM36
import Derived.Test.YtklpifammbnldaaM19
namespace Go.Proofs.Ytklpifammbnldaa.pg
open Go.ChangeShapes Go.WideShapes Go.ChangeAt Go.RowKit
set_option linter.unusedVariables false
set_option linter.unusedSimpArgs false
set_option maxRecDepth 100000
attribute [local go_sem ↓] Go.wp_at_zero Go.wp_at_succ
theorem flatten_setN {k : Nat} : ∀ (L : List (List Value)), (∀ row ∈ L, row.length = k) → ∀ (i : Nat) (row : List Value), L[i]? = some row → ∀ (j : Nat) (v : Value), j < k → (L.set i (row.set j v)).flatten = L.flatten.set (i * k + j) v
  | [], _, i, row, h, _, _, _ => by simp at h
  | r :: t, hk, 0, row, h, j, v, hj => by
    simp at h
    subst h
    have hr := hk r (by simp)
    simp only [List.set_cons_zero, List.flatten_cons, Nat.zero_mul, Nat.zero_add]
    rw [List.set_append_left _ _ (by omega)]
  | r :: t, hk, i + 1, row, h, j, v, hj => by
    simp at h
    have hr := hk r (by simp)
    have ih := flatten_setN t (fun q hq => hk q (by simp [hq])) i row h j v hj
    simp only [List.set_cons_succ, List.flatten_cons, ih]
    rw [List.set_append_right _ _ (by rw [hr, Nat.succ_mul]; omega), hr]
    congr 2
    rw [Nat.succ_mul]; omega
theorem own_cellN {w : World} {lo e k : Nat} {g cap : Nat} {L : List (List Value)} (h : OwnL w lo e k (some ⟨g, 0, none⟩) cap L) (hk : ∀ row ∈ L, row.length = k) (i : Nat) (row : List Value) (hi : L[i]? = some row) (j : Nat) (hj : j < k) (v : Value) :
    OwnL (w.setCell ⟨g, i * k + j, none⟩ v) lo e k (some ⟨g, 0, none⟩) cap (L.set i (row.set j v)) := by
  have hfl := flatten_setN L hk i row hi j v hj
  refine ⟨by rw [hfl, List.length_set, List.length_set]; exact h.1, ?_⟩
  rcases h.2 with ⟨q, _⟩ | ⟨g', cap', cur, q, hb, hg, h1, h2, h3, h4⟩
  · simp at q
  · simp only [Value.slice.injEq, Option.some.injEq, Addr.mk.injEq] at q
    obtain ⟨⟨rfl, _⟩, _, rfl⟩ := q
    refine .inr ⟨g, cap, cur.setIfInBounds (i * k + j) v, by rw [List.length_set], hb, heap_setCell_same w g _ cur e v hg, by rw [List.length_set]; exact h1, h2, by rw [Array.size_setIfInBounds]; exact h3, ?_⟩
    rw [hfl, ← h4, List.length_set, Array.toList_setIfInBounds, List.take_set]
theorem own_cellAt {w : World} {lo e k : Nat} {g cap : Nat} {L : List (List Value)} (h : OwnL w lo e k (some ⟨g, 0, none⟩) cap L) (hk : ∀ row ∈ L, row.length = k) (i : Nat) (row : List Value) (hi : L[i]? = some row) (j : Nat) (v : Value) (hj : row[j]? = some v) : w.cell? ⟨g, i * k + j, none⟩ = some v ∧ w.frozen? ⟨g, i * k + j, none⟩ = false := by
  have hrk := hk row (List.mem_of_getElem? hi)
  have hjk : j < k := by have := (List.getElem?_eq_some_iff.mp hj).1; omega
  have hil : i < L.length := (List.getElem?_eq_some_iff.mp hi).1
  have hlt : i * k + j < L.length * k := by
    have : (i + 1) * k ≤ L.length * k := Nat.mul_le_mul_right k hil
    rw [Nat.add_mul] at this
    omega
  refine ⟨by rw [World.ownsRow.cellAt h (i * k + j) hlt, flatten_at L hk i row hi j hjk, hj], ?_⟩
  rcases h.2 with ⟨h1, h2⟩ | ⟨g', cap', cur, h1, hb, hg, _⟩
  · simp at h1
  · simp only [Value.slice.injEq, Option.some.injEq, Addr.mk.injEq] at h1
    obtain ⟨⟨rfl, _⟩, _⟩ := h1
    exact frozen_of_row _ _ _ _ _ hg
theorem bld_cl (g d m : Int) : ∀ wx, (Instr.build 53 #[(0, .int .i64 g), (1, .int .i64 d), (5, .int .i64 m), (6, .int .i64 (-1))]).run Try.prog wx = .ok (.agg #[.int .i64 g, .int .i64 d, .int .i64 0, .int .i64 0, .bool false, .int .i64 m, .int .i64 (-1)]) wx := fun wx => by kernel_rfl
theorem zeroClN : ∀ w, (zeroValue 53).run Try.prog w = .ok (.agg #[.int .i64 0, .int .i64 0, .int .i64 0, .int .i64 0, .bool false, .int .i64 0, .int .i64 0]) w := fun w => by kernel_rfl
theorem infoClN : (Try.prog.info? 53).map (fun i => (i.zero, i.size, i.bytes)) = some (some (.agg #[.int .i64 0, .int .i64 0, .int .i64 0, .int .i64 0, .bool false, .int .i64 0, .int .i64 0]), 7, 56) := by kernel_rfl
theorem run_lenC {o : Oper} {ρ : Operand → Value} (x : Operand) (ho : o.op = .call { callee := .builtin .len, args := #[x], argTypes := #[22] }) (g : Option Addr) (n c : Nat) (hx : ρ x = .slice g n c) (w : World) : (execOp ρ o).run Try.prog w = .ok (.value (.int .i64 (n : Int))) w := by
  have u := Try.underlying22
  simp [execOp, ho, resolve, invoke, builtin, hx, Builtin.len_, run_underlying u, go_sem]
theorem nt_putL {X : World} {B : Nat} {a : Option Addr} {n c : Nat} {l : Nat → Int} (h : X.heap[B]? = some (.cells (ntA a n c l) TN)) {g : Nat} (hg : g < 6) (v : Int) : (X.setCell ⟨B, 1 + g, none⟩ (.int .i64 v)).heap[B]? = some (.cells (ntA a n c fun j => if j = g then v else l j) TN) := by
  rw [heap_setCell_same X B (1 + g) _ _ _ h]
  match g, hg with
  | 0, _ => rfl
  | 1, _ => rfl
  | 2, _ => rfl
  | 3, _ => rfl
  | 4, _ => rfl
  | 5, _ => rfl
theorem nt_putS {X : World} {B : Nat} {a : Option Addr} {n c : Nat} {l : Nat → Int} (h : X.heap[B]? = some (.cells (ntA a n c l) TN)) (a' : Option Addr) (n' c' : Nat) : (X.setCell ⟨B, 0, none⟩ (.slice a' n' c')).heap[B]? = some (.cells (ntA a' n' c' l) TN) := by
  rw [heap_setCell_same X B 0 _ _ _ h]
  rfl
theorem ntA_same {a : Option Addr} {n c : Nat} {l l' : Nat → Int} (h : ∀ g, g < 6 → l g = l' g) : ntA a n c l = ntA a n c l' := by
  rw [ntA, ntA, h 0 (by decide), h 1 (by decide), h 2 (by decide), h 3 (by decide), h 4 (by decide), h 5 (by decide)]
section
variable {w0 X : World} {B : Nat} {h : List Cl} {oa : Option Addr} {oc : Nat}
theorem NtS.lt (g : NtS w0 X B h oa oc) : B < X.heap.size := (Array.getElem?_eq_some_iff.mp g.s).1
/-- What begin and end leave. -/
def NtP (w0 X : World) (B : Nat) (oa : Option Addr) (h' : List Cl) (w' : World) : Prop := ∃ oa' oc', NtS w0 w' B h' oa' oc' ∧ Fr X w' B B oa oa'
set_option maxHeartbeats 4000000 in
theorem begin_no (v : NInv h) (S : NtS w0 X B h oa oc) {g : Nat} (hg : g < 6) (d val m : Int) (hop : 0 ≤ opnN h (g : Int)) : Calls Try.prog 55 #[.pointer (some ⟨B, 0, none⟩), .int .i64 (g : Int), .int .i64 d, .int .i64 val, .int .i64 m] X fun e w' => e = .returned (.bool false) ∧ Below X.heap.size X w' := by
  have cO : Calls Try.prog 71 #[.pointer (some ⟨B, 0, none⟩), .int .i64 (g : Int)] X fun e w' => ∃ G o, e = .returned (.pointer (some ⟨G, o, none⟩)) ∧ Below X.heap.size X w' := by
    refine (open_anyN v S hg).mono ?_
    rintro e w' ⟨v, rfl, ⟨q, _⟩ | ⟨k, G, _, _, _, rfl⟩, hb⟩
    · omega
    · exact ⟨G, _, rfl, hb⟩
  clear v S hg hop
  go_enter Try.func55, Try.ntmps55
  go_wp2_with (first
    | (go_at_call 71; (with_reducible refine cO.mono ?_); rintro e w1 ⟨G, o, rfl, hb⟩; (have hB : Hid (Below X.heap.size X w1) := hb); clear hb))
  go_ret
  exact ⟨rfl, hB.out⟩
set_option maxHeartbeats 4000000 in
theorem begin_full (v : NInv h) (S : NtS w0 X B h oa oc) {g : Nat} (hg : g < 6) (d val m : Int) (hop : opnN h (g : Int) < 0) (h8 : 8 ≤ h.length) : Calls Try.prog 55 #[.pointer (some ⟨B, 0, none⟩), .int .i64 (g : Int), .int .i64 d, .int .i64 val, .int .i64 m] X fun e w' => e = .returned (.bool false) ∧ Below X.heap.size X w' := by
  have cO : Calls Try.prog 71 #[.pointer (some ⟨B, 0, none⟩), .int .i64 (g : Int)] X fun e w' => e = .returned (.pointer none) ∧ Below X.heap.size X w' := by
    refine (open_anyN v S hg).mono ?_
    rintro e w' ⟨v, rfl, ⟨_, rfl⟩ | ⟨k, G, _, q, _, rfl⟩, hb⟩
    · exact ⟨rfl, hb⟩
    · omega
  have h88 : h.length = 8 := by have := v.n; omega
  have hc : Hid (∀ w', Below X.heap.size X w' → w'.cell? ⟨B, 0, none⟩ = some (.slice oa 8 oc)) := fun w' q => by
    have := (nt_cell (S.below q).s).1
    rwa [h88] at this
  clear v S hg hop h8 h88
  go_enter Try.func55, Try.ntmps55
  go_wp2_with (first
    | (go_at_call 71; (with_reducible refine cO.mono ?_); rintro e w1 ⟨rfl, hb⟩; (have hB : Hid (Below X.heap.size X w1) := hb); (have c0 := hc.out _ hb); clear hb))
  go_ret
  exact ⟨rfl, hB.out⟩
theorem nt_grow {Q Z3 : World} {C : Nat} {g : Nat} {x : Cl} {va : Option Addr} {vc : Nat} (S : NtS w0 X B h oa oc) (hb : Fr X Q B B oa oa) (hQ : Q.heap[B]? = some (.cells (ntA oa h.length oc fun j => if j = g then (h.length : Int) else lasF h j) TN) ∧ OwnL Q w0.heap.size 53 7 oa oc (h.map Cl.cells) ∧ Below w0.heap.size w0 Q ∧ Q.heap[C]? = some (oCl x)) (hgr : Grown Q w0.heap.size 53 7 oa (h.map Cl.cells) x.cells va vc Z3) (hx : x.go = (g : Int)) :
    NtP w0 X B oa (h ++ [x]) (Z3.setCell ⟨B, 0, none⟩ (.slice va (h.length + 1) vc)) := by
  obtain ⟨q1, q2, q3, q4⟩ := hQ
  have hlt := (Array.getElem?_eq_some_iff.mp q1).1
  have hsz := hgr.be.size
  have hnv : B ∉ blk va := fun q => by
    rcases hgr.bk B q with q | q
    · exact S.n q
    · omega
  have hbe : Below w0.heap.size Q Z3 := by
    have := hgr.be
    rwa [Nat.min_eq_left q3.size] at this
  refine ⟨va, vc, ⟨?_, ?_, (q3.trans hbe).setCell (p := ⟨B, 0, none⟩) S.d _, S.d, hnv⟩, ?_⟩
  · rw [nt_putS ((hgr.kp B hlt S.n).trans q1), List.length_append, List.length_singleton]
    rw [ntA_same (l' := lasF (h ++ [x])) fun j hj => ?_]
    show _ = lasN (h ++ [x]) (j : Int)
    rw [las_app, hx]
    by_cases e : j = g
    · rw [if_pos e, if_pos (by rw [e])]
    · rw [if_neg e, if_neg (by omega)]
  · rw [List.map_append]
    exact own_keep hgr.ow fun b hb => heap_setCell_other Z3 ⟨B, 0, none⟩ b _ (fun q => hnv (by rw [← (show b = B from q)]; exact hb))
  · exact hb.trans ⟨by rw [World.size_setCell]; exact hsz, fun b h1 h2 _ h4 => (heap_setCell_other Z3 ⟨B, 0, none⟩ b _ h2).trans (hgr.kp b h1 h4), hgr.bk⟩
set_option maxHeartbeats 8000000 in
theorem begin_ok (v : NInv h) (S : NtS w0 X B h oa oc) {g : Nat} (hg : g < 6) (d val m : Int) (hop : opnN h (g : Int) < 0) (h8 : h.length < 8) : Calls Try.prog 55 #[.pointer (some ⟨B, 0, none⟩), .int .i64 (g : Int), .int .i64 d, .int .i64 val, .int .i64 m] X fun e w' => e = .returned (.bool true) ∧ NtP w0 X B oa (h ++ [⟨(g : Int), d, if takesB d then val else 0, 0, false, m, -1⟩]) w' := by
  have cO : Calls Try.prog 71 #[.pointer (some ⟨B, 0, none⟩), .int .i64 (g : Int)] X fun e w' => e = .returned (.pointer none) ∧ Below X.heap.size X w' := by
    refine (open_anyN v S hg).mono ?_
    rintro e w' ⟨v, rfl, ⟨_, rfl⟩ | ⟨k, G, _, q, _, rfl⟩, hb⟩
    · exact ⟨rfl, hb⟩
    · omega
  have hc : Hid (∀ w', Below X.heap.size X w' → w'.cell? ⟨B, 0, none⟩ = some (.slice oa h.length oc)) := fun w' q => (nt_cell (S.below q).s).1
  have hgH : Hid (g < 6) := hg
  have h8H : Hid (h.length < 8) := h8
  have h8I : (h.length : Int) < 8 := by omega
  have hV : Hid (NtS w0 X B h oa oc) := S
  obtain ⟨iC, hiC', hzC', hsC', hbC'⟩ := info_q infoClN
  have hiC : Hid (Try.prog.info? 53 = some iC) := hiC'
  have hzC : Hid _ := hzC'
  have hsC : Hid _ := hsC'
  have hbC : Hid _ := hbC'
  clear v S hg hop h8 hiC' hzC' hsC' hbC'
  have cT := fun wx => takes_any d wx
  obtain ⟨t, ht⟩ : ∃ t, takesB d = t := ⟨_, rfl⟩
  rw [ht] at cT ⊢
  clear ht
  go_enter Try.func55, Try.ntmps55
  go_upto_region 3 with (first
    | (go_at_call 71; (with_reducible refine cO.mono ?_); rintro e w1 ⟨rfl, hb⟩; (have hB : Hid (Below X.heap.size X w1) := hb); (have c0 := hc.out _ hb); clear hb cO))
  clear c0 hc
  go_upto_region 4 with (first
    | ((with_reducible refine at_buildL 53 _ rfl ?_); refine stopL_out ?_; refine wpList_bldL rfl 53 _ rfl #[(0, .int .i64 (g : Int)), (1, .int .i64 d), (5, .int .i64 m), (6, .int .i64 (-1))] (by simp only [List.map_toArray, List.map_cons, List.map_nil]; rfl) _ (bld_cl _ _ _) ?_)
    | ((with_reducible refine at_allocL 53 rfl ?_); refine stopL_out ?_; refine wpList_alloc_big rfl 53 rfl zeroClN ?_)
    | ((with_reducible refine at_storeL 53 _ _ rfl ?_); refine stopL_out ?_; refine wpList_store_row rfl 53 _ _ rfl w1.heap.size #[.int .i64 (g : Int), .int .i64 d, .int .i64 0, .int .i64 0, .bool false, .int .i64 m, .int .i64 (-1)] rfl rfl _ _ (heap_alloc_new _ _) infoX rfl (by simp [Value.oneCell']) ?_))
  obtain ⟨Y, hY⟩ : ∃ Y, (w1.alloc (.cells #[.int .i64 0, .int .i64 0, .int .i64 0, .int .i64 0, .bool false, .int .i64 0, .int .i64 0] 53)).setRow w1.heap.size #[.int .i64 (g : Int), .int .i64 d, .int .i64 0, .int .i64 0, .bool false, .int .i64 m, .int .i64 (-1)] = Y := ⟨_, rfl⟩
  have hY1 : Hid (Y.heap[w1.heap.size]? = some (oCl ⟨(g : Int), d, 0, 0, false, m, -1⟩) ∧ Below X.heap.size X Y ∧ X.heap.size ≤ w1.heap.size) := by
    rw [← hY]
    exact ⟨new_row.1, bthen hB.out new_row.2, hB.out.size⟩
  rw [hY]
  clear hY hB
  generalize w1.heap.size = C at *
  cases t with
  | false =>
    go_upto_region 6 with (first
      | (go_at_call 72; (with_reducible refine (cT _).mono ?_); rintro e w2 ⟨rfl, hw⟩; replace hw := hw.symm; subst hw; clear cT))
    obtain ⟨x, hx⟩ : ∃ x : Cl, x = (⟨(g : Int), d, 0, 0, false, m, -1⟩ : Cl) := ⟨_, rfl⟩
    have hxD : Hid (x = (⟨(g : Int), d, 0, 0, false, m, -1⟩ : Cl)) := hx
    have hxg : Hid (x.go = (g : Int)) := by (show _ = _; rw [hx])
    rw [show ((⟨(g : Int), d, 0, 0, false, m, -1⟩ : Cl)) = x from hx.symm] at hY1
    have hNY : Hid (NtS w0 Y B h oa oc) := hV.out.below hY1.out.2.1
    clear hx
    have hS : Hid (Y.drew.cell? ⟨B, 0, none⟩ = some (.slice oa h.length oc)) := (nt_cell hNY.out.s).1
    refine wp_region_noPanic ?_
    refine wp_region_held_drew (S := fun w' => w'.cell? ⟨B, 0, none⟩ = some (.slice oa h.length oc)) (by kernel_rfl) hS.out (fun _ => ?_)
    refine reg_move (i := 0) rfl (by kernel_rfl) (by kernel_rfl) (by kernel_rfl) (fun _ _ _ _ h => h) rfl (.pointer (some ⟨B, 0, none⟩)) (fun _ => rfl) hS.out ?_
    simp only [Act.put, List.getElem_toArray, List.getElem_cons_succ, List.getElem_cons_zero, List.setIfInBounds_toArray, List.set_cons_zero, List.set_cons_succ]
    refine reg_move (i := 1) rfl (by kernel_rfl) (by kernel_rfl) (by kernel_rfl) (fun _ _ _ _ h => h) rfl (.int .i64 (g : Int)) (fun _ => rfl) hS.out ?_
    simp only [Act.put, List.getElem_toArray, List.getElem_cons_succ, List.getElem_cons_zero, List.setIfInBounds_toArray, List.set_cons_zero, List.set_cons_succ]
    refine reg_move (i := 2) rfl (by kernel_rfl) (by kernel_rfl) (by kernel_rfl) (fun _ _ _ _ h => h) rfl (.pointer (some ⟨B, 0, none⟩)) (fun _ => rfl) hS.out ?_
    simp only [Act.put, List.getElem_toArray, List.getElem_cons_succ, List.getElem_cons_zero, List.setIfInBounds_toArray, List.set_cons_zero, List.set_cons_succ]
    refine reg_move (i := 3) rfl (by kernel_rfl) (by kernel_rfl) (by kernel_rfl) (fun _ _ _ _ h => h) rfl (.pointer (some ⟨B, 0, none⟩)) (fun _ => rfl) hS.out ?_
    simp only [Act.put, List.getElem_toArray, List.getElem_cons_succ, List.getElem_cons_zero, List.setIfInBounds_toArray, List.set_cons_zero, List.set_cons_succ]
    refine reg_move (i := 4) rfl (by kernel_rfl) (by kernel_rfl) (by kernel_rfl) (fun _ _ _ _ h => h) rfl (.pointer (some ⟨B, 0, none⟩)) (fun _ => rfl) hS.out ?_
    simp only [Act.put, List.getElem_toArray, List.getElem_cons_succ, List.getElem_cons_zero, List.setIfInBounds_toArray, List.set_cons_zero, List.set_cons_succ]
    refine reg_load1 (i := 5) rfl (by kernel_rfl) (by kernel_rfl) (by kernel_rfl) (fun _ _ _ _ h => h) rfl 22 _ rfl ⟨B, 0, none⟩ rfl _ Try.underlying22 rfl (.slice oa h.length oc) (fun w' q => q) hS.out ?_
    simp only [Act.put, List.getElem_toArray, List.getElem_cons_succ, List.getElem_cons_zero, List.setIfInBounds_toArray, List.set_cons_zero, List.set_cons_succ]
    refine reg_move (i := 6) rfl (by kernel_rfl) (by kernel_rfl) (by kernel_rfl) (fun _ _ _ _ h => h) rfl (.int .i64 (h.length : Int)) (fun wx => run_lenC _ rfl oa h.length oc rfl wx) hS.out ?_
    simp only [Act.put, List.getElem_toArray, List.getElem_cons_succ, List.getElem_cons_zero, List.setIfInBounds_toArray, List.set_cons_zero, List.set_cons_succ]
    refine reg_move (i := 7) rfl (by kernel_rfl) (by kernel_rfl) (by kernel_rfl) (fun _ _ _ _ h => h) rfl (.pointer (some ⟨B, 0, none⟩)) (fun _ => rfl) hS.out ?_
    simp only [Act.put, List.getElem_toArray, List.getElem_cons_succ, List.getElem_cons_zero, List.setIfInBounds_toArray, List.set_cons_zero, List.set_cons_succ]
    refine reg_move (i := 8) rfl (by kernel_rfl) (by kernel_rfl) (by kernel_rfl) (fun _ _ _ _ h => h) rfl (.pointer (some ⟨B, 1, none⟩)) (fun _ => rfl) hS.out ?_
    simp only [Act.put, List.getElem_toArray, List.getElem_cons_succ, List.getElem_cons_zero, List.setIfInBounds_toArray, List.set_cons_zero, List.set_cons_succ]
    refine reg_move (i := 9) rfl (by kernel_rfl) (by kernel_rfl) (by kernel_rfl) (fun _ _ _ _ h => h) rfl (.pointer (some ⟨B, 1 + g, none⟩)) (fun wx => by unfold execOp; exact run_value_of (ix6N B g hgH.out wx)) hS.out ?_
    simp only [Act.put, List.getElem_toArray, List.getElem_cons_succ, List.getElem_cons_zero, List.setIfInBounds_toArray, List.set_cons_zero, List.set_cons_succ]
    have hne : Hid (¬ ((⟨B, 1 + g, none⟩ : Addr) = ⟨B, 0, none⟩)) := fun q => by simp at q
    refine reg_one (i := 10) (by kernel_rfl) rfl rfl (wpList_puti rfl 3 _ _ rfl ⟨B, 1 + g, none⟩ rfl (h.length : Int) rfl (by kernel_rfl) (.int .i64 (lasF h g)) ((nt_cell hNY.out.s).2 g hgH.out) (frozen_of_row _ _ _ _ _ hNY.out.s) fun Y4 hY4 => wpList_nil (And.intro (by rw [hY4]; exact (nt_cell (nt_putL hNY.out.s hgH.out _)).1) fun _ => ?_))
    simp only [Act.put, List.getElem_toArray, List.getElem_cons_succ, List.getElem_cons_zero, List.setIfInBounds_toArray, List.set_cons_zero, List.set_cons_succ]
    refine wpAnyH_done (by kernel_rfl) (NoPanic.normal ?_) _
    have hQ : Hid (Y4.heap[B]? = some (.cells (ntA oa h.length oc fun j => if j = g then (h.length : Int) else lasF h j) TN) ∧ OwnL Y4 w0.heap.size 53 7 oa oc (h.map Cl.cells) ∧ Below w0.heap.size w0 Y4 ∧ Y4.heap[C]? = some (oCl x)) := by
      rw [hY4]
      refine ⟨nt_putL hNY.out.s hgH.out _, own_keep hNY.out.o fun b hb => heap_setCell_other _ ⟨B, 1 + g, none⟩ b _ (fun q => hNY.out.n (by rw [← (show b = B from q)]; exact hb)), hNY.out.b.drew.setCell (p := ⟨B, 1 + g, none⟩) hNY.out.d _, ?_⟩
      exact (heap_setCell_other _ ⟨B, 1 + g, none⟩ C _ (by have := hV.out.lt; have := hY1.out.2.2; show C ≠ B; omega)).trans hY1.out.1
    have hbr : Hid (Fr X Y4 B B oa oa) := by
      rw [hY4]
      exact ⟨by rw [World.size_setCell]; exact hY1.out.2.1.size, fun b h1 h2 _ _ => (heap_setCell_other _ ⟨B, 1 + g, none⟩ b _ h2).trans (hY1.out.2.1.block b h1), fun b hb => .inl hb⟩
    have hCt : Hid (C < Y4.heap.size ∧ C ∉ blk oa ∧ C ≠ B) := ⟨(Array.getElem?_eq_some_iff.mp hQ.out.2.2.2).1, fun q => by have := (blk_lt hV.out.o C q).2; have := hY1.out.2.2; omega, by have := hV.out.lt; have := hY1.out.2.2; omega⟩
    have hBt : Hid (B < Y4.heap.size ∧ B ∉ blk oa) := ⟨(Array.getElem?_eq_some_iff.mp hQ.out.1).1, hV.out.n⟩
    clear hY1 hNY hS hne hY4
    go_upto_region 7 with fail
    have hQd : Hid (Y4.drew.heap[B]? = some (.cells (ntA oa h.length oc fun j => if j = g then (h.length : Int) else lasF h j) TN) ∧ OwnL Y4.drew w0.heap.size 53 7 oa oc (h.map Cl.cells) ∧ Below w0.heap.size w0 Y4.drew ∧ Y4.drew.heap[C]? = some (oCl x)) := ⟨hQ.out.1, own_keep hQ.out.2.1 fun _ _ => rfl, hQ.out.2.2.1.drew, hQ.out.2.2.2⟩
    have hbd : Hid (Fr X Y4.drew B B oa oa) := hbr.out.below (bey_drew Y4)
    have hCd : Hid (C < Y4.drew.heap.size ∧ C ∉ blk oa ∧ C ≠ B) := hCt.out
    have hBd : Hid (B < Y4.drew.heap.size ∧ B ∉ blk oa) := hBt.out
    clear hQ hbr hCt hBt
    have hS : Hid (Y4.drew.heap[C]? = some (oCl x)) := hQd.out.2.2.2
    refine wp_region_noPanic ?_
    refine wp_region_held_drew (S := fun w' => w'.heap[C]? = some (oCl x)) (by kernel_rfl) hS.out (fun _ => ?_)
    generalize Y4.drew = Q4 at *
    have hQ := hQd
    have hbr := hbd
    have hCt := hCd
    have hBt := hBd
    clear hQd hbd hCd hBd
    refine reg_move (i := 0) rfl (by kernel_rfl) (by kernel_rfl) (by kernel_rfl) (fun _ _ _ _ h => h) rfl (.pointer (some ⟨B, 0, none⟩)) (fun _ => rfl) hS.out ?_
    simp only [Act.put, List.getElem_toArray, List.getElem_cons_succ, List.getElem_cons_zero, List.setIfInBounds_toArray, List.set_cons_zero, List.set_cons_succ]
    refine reg_move (i := 1) rfl (by kernel_rfl) (by kernel_rfl) (by kernel_rfl) (fun _ _ _ _ h => h) rfl (.pointer (some ⟨B, 0, none⟩)) (fun _ => rfl) hS.out ?_
    simp only [Act.put, List.getElem_toArray, List.getElem_cons_succ, List.getElem_cons_zero, List.setIfInBounds_toArray, List.set_cons_zero, List.set_cons_succ]
    refine reg_move (i := 2) rfl (by kernel_rfl) (by kernel_rfl) (by kernel_rfl) (fun _ _ _ _ h => h) rfl (.pointer (some ⟨B, 0, none⟩)) (fun _ => rfl) hS.out ?_
    simp only [Act.put, List.getElem_toArray, List.getElem_cons_succ, List.getElem_cons_zero, List.setIfInBounds_toArray, List.set_cons_zero, List.set_cons_succ]
    refine reg_move (i := 3) rfl (by kernel_rfl) (by kernel_rfl) (by kernel_rfl) (fun _ _ _ _ h => h) rfl (.pointer (some ⟨B, 0, none⟩)) (fun _ => rfl) hS.out ?_
    simp only [Act.put, List.getElem_toArray, List.getElem_cons_succ, List.getElem_cons_zero, List.setIfInBounds_toArray, List.set_cons_zero, List.set_cons_succ]
    refine reg_load (i := 5) rfl (by kernel_rfl) (by kernel_rfl) (by kernel_rfl) (fun _ _ _ _ h => h) rfl 53 _ rfl C 0 rfl [.int .i64 x.go, .int .i64 x.d, .int .i64 x.inn, .int .i64 x.out, .bool x.em, .int .i64 x.bg, .int .i64 x.en] _ (fun w' z => rng_blk z) Try.underlying53 rfl infoX hS.out ?_
    simp only [Act.put, List.getElem_toArray, List.getElem_cons_succ, List.getElem_cons_zero, List.setIfInBounds_toArray, List.set_cons_zero, List.set_cons_succ]
    refine reg_two (i := 4) (j := 6) (by kernel_rfl) rfl rfl rfl rfl (wpList_load1 rfl 22 _ rfl ⟨B, 0, none⟩ rfl _ Try.underlying22 rfl (.slice oa h.length oc) (nt_cell hQ.out.1).1 (wpList_nil (And.intro hS.out fun _ => ?_))) (wpList_buildSlice rfl 22 53 1 _ rfl x.cells.toArray iC _ Try.underlying22 hiC.out hzC.out (by rw [hsC.out]; omega) (by rw [hsC.out]; omega) (by simp only [hsC.out]; kernel_rfl) (wpList_nil (And.intro (blk_on hS.out (boxed _ _)) fun _ => ?_)))
    · simp only [Act.put, List.getElem_toArray, List.getElem_cons_succ, List.getElem_cons_zero, List.setIfInBounds_toArray, List.set_cons_zero, List.set_cons_succ]
      refine reg_one (i := 6) (by kernel_rfl) rfl rfl (wpList_buildSlice rfl 22 53 1 _ rfl x.cells.toArray iC _ Try.underlying22 hiC.out hzC.out (by rw [hsC.out]; omega) (by rw [hsC.out]; omega) (by simp only [hsC.out]; kernel_rfl) (wpList_nil (And.intro (blk_on hS.out (boxed _ _)) fun _ => ?_)))
      simp only [Act.put, List.getElem_toArray, List.getElem_cons_succ, List.getElem_cons_zero, List.setIfInBounds_toArray, List.set_cons_zero, List.set_cons_succ]
      refine reg_one (i := 7) (by kernel_rfl) rfl rfl (wpList_app1 rfl _ _ 22 rfl w0.heap.size 53 iC _ 7 56 Try.underlying22 hiC.out hzC.out hsC.out hbC.out rfl (by decide) oa oc (h.map Cl.cells) (by rw [List.length_map]; rfl) hQ.out.2.1 x.cells rfl rfl (by simp [Cl.cells, Value.oneCell']) (by rw [List.length_map]; have := h8H.out; unfold maxLen; omega) (by rw [List.length_map]; have := h8H.out; omega) hQ.out.2.2.1.size fun va vc Z3 hgr => wpList_nil (And.intro ((hgr.kp _ hCt.out.1 hCt.out.2.1).trans hQ.out.2.2.2) fun _ => ?_))
      simp only [Act.put, List.getElem_toArray, List.getElem_cons_succ, List.getElem_cons_zero, List.setIfInBounds_toArray, List.set_cons_zero, List.set_cons_succ]
      rw [List.length_map]
      have hSA : Hid (Z3.heap[C]? = some (oCl x)) := (hgr.kp _ hCt.out.1 hCt.out.2.1).trans hQ.out.2.2.2
      have hs3 : Hid (Z3.heap[B]? = some (.cells (ntA oa h.length oc fun j => if j = g then (h.length : Int) else lasF h j) TN)) := (hgr.kp B hBt.out.1 hBt.out.2).trans hQ.out.1
      refine reg_move (i := 8) rfl (by kernel_rfl) (by kernel_rfl) (by kernel_rfl) (fun _ _ _ _ h => h) rfl (.pointer (some ⟨B, 0, none⟩)) (fun _ => rfl) hSA.out ?_
      simp only [Act.put, List.getElem_toArray, List.getElem_cons_succ, List.getElem_cons_zero, List.setIfInBounds_toArray, List.set_cons_zero, List.set_cons_succ]
      refine reg_move (i := 9) rfl (by kernel_rfl) (by kernel_rfl) (by kernel_rfl) (fun _ _ _ _ h => h) rfl (.pointer (some ⟨B, 0, none⟩)) (fun _ => rfl) hSA.out ?_
      simp only [Act.put, List.getElem_toArray, List.getElem_cons_succ, List.getElem_cons_zero, List.setIfInBounds_toArray, List.set_cons_zero, List.set_cons_succ]
      refine reg_one (i := 10) (by kernel_rfl) rfl rfl (wpList_store1 rfl 22 _ _ rfl ⟨B, 0, none⟩ rfl va (h.length + 1) vc rfl (by kernel_rfl) _ (nt_cell hs3.out).1 (frozen_of_row _ _ _ _ _ hs3.out) (wpList_nil (And.intro ((heap_setCell_other _ ⟨B, 0, none⟩ _ _ hCt.out.2.2).trans hSA.out) fun _ => ?_)))
      simp only [Act.put, List.getElem_toArray, List.getElem_cons_succ, List.getElem_cons_zero, List.setIfInBounds_toArray, List.set_cons_zero, List.set_cons_succ]
      refine wpAnyH_done (by kernel_rfl) (NoPanic.normal ?_) _
      have hF : Hid (NtP w0 X B oa (h ++ [x]) (Z3.setCell ⟨B, 0, none⟩ (.slice va (h.length + 1) vc))) := nt_grow hV.out hbr.out hQ.out hgr hxg.out
      generalize World.setCell _ _ _ = Z4 at *
      go_wp2
      go_ret
      exact ⟨rfl, by (rw [← hxD.out]; exact hF.out)⟩
    · simp only [Act.put, List.getElem_toArray, List.getElem_cons_succ, List.getElem_cons_zero, List.setIfInBounds_toArray, List.set_cons_zero, List.set_cons_succ]
      refine reg_one (i := 4) (by kernel_rfl) rfl rfl (wpList_load1 rfl 22 _ rfl ⟨B, 0, none⟩ rfl _ Try.underlying22 rfl (.slice oa h.length oc) (nt_cell (blk_on hQ.out.1 (boxed _ _))).1 (wpList_nil (And.intro (blk_on hS.out (boxed _ _)) fun _ => ?_)))
      simp only [Act.put, List.getElem_toArray, List.getElem_cons_succ, List.getElem_cons_zero, List.setIfInBounds_toArray, List.set_cons_zero, List.set_cons_succ]
      refine reg_one (i := 7) (by kernel_rfl) rfl rfl (wpList_app1 rfl _ _ 22 rfl w0.heap.size 53 iC _ 7 56 Try.underlying22 hiC.out hzC.out hsC.out hbC.out rfl (by decide) oa oc (h.map Cl.cells) (by rw [List.length_map]; rfl) hQ.out.2.1 x.cells rfl rfl (by simp [Cl.cells, Value.oneCell']) (by rw [List.length_map]; have := h8H.out; unfold maxLen; omega) (by rw [List.length_map]; have := h8H.out; omega) hQ.out.2.2.1.size fun va vc Z3 hgr => wpList_nil (And.intro ((hgr.kp _ hCt.out.1 hCt.out.2.1).trans hQ.out.2.2.2) fun _ => ?_))
      simp only [Act.put, List.getElem_toArray, List.getElem_cons_succ, List.getElem_cons_zero, List.setIfInBounds_toArray, List.set_cons_zero, List.set_cons_succ]
      rw [List.length_map]
      have hSA : Hid (Z3.heap[C]? = some (oCl x)) := (hgr.kp _ hCt.out.1 hCt.out.2.1).trans hQ.out.2.2.2
      have hs3 : Hid (Z3.heap[B]? = some (.cells (ntA oa h.length oc fun j => if j = g then (h.length : Int) else lasF h j) TN)) := (hgr.kp B hBt.out.1 hBt.out.2).trans hQ.out.1
      refine reg_move (i := 8) rfl (by kernel_rfl) (by kernel_rfl) (by kernel_rfl) (fun _ _ _ _ h => h) rfl (.pointer (some ⟨B, 0, none⟩)) (fun _ => rfl) hSA.out ?_
      simp only [Act.put, List.getElem_toArray, List.getElem_cons_succ, List.getElem_cons_zero, List.setIfInBounds_toArray, List.set_cons_zero, List.set_cons_succ]
      refine reg_move (i := 9) rfl (by kernel_rfl) (by kernel_rfl) (by kernel_rfl) (fun _ _ _ _ h => h) rfl (.pointer (some ⟨B, 0, none⟩)) (fun _ => rfl) hSA.out ?_
      simp only [Act.put, List.getElem_toArray, List.getElem_cons_succ, List.getElem_cons_zero, List.setIfInBounds_toArray, List.set_cons_zero, List.set_cons_succ]
      refine reg_one (i := 10) (by kernel_rfl) rfl rfl (wpList_store1 rfl 22 _ _ rfl ⟨B, 0, none⟩ rfl va (h.length + 1) vc rfl (by kernel_rfl) _ (nt_cell hs3.out).1 (frozen_of_row _ _ _ _ _ hs3.out) (wpList_nil (And.intro ((heap_setCell_other _ ⟨B, 0, none⟩ _ _ hCt.out.2.2).trans hSA.out) fun _ => ?_)))
      simp only [Act.put, List.getElem_toArray, List.getElem_cons_succ, List.getElem_cons_zero, List.setIfInBounds_toArray, List.set_cons_zero, List.set_cons_succ]
      refine wpAnyH_done (by kernel_rfl) (NoPanic.normal ?_) _
      have hF : Hid (NtP w0 X B oa (h ++ [x]) (Z3.setCell ⟨B, 0, none⟩ (.slice va (h.length + 1) vc))) := nt_grow hV.out hbr.out hQ.out hgr hxg.out
      generalize World.setCell _ _ _ = Z4 at *
      go_wp2
      go_ret
      exact ⟨rfl, by (rw [← hxD.out]; exact hF.out)⟩
  | true =>
    have k2 : Y.cell? ⟨C, 2, none⟩ = some (.int .i64 0) := (cl7 hY1.out.1).2.2.1
    go_upto_region 6 with (first
      | (go_at_call 72; (with_reducible refine (cT _).mono ?_); rintro e w2 ⟨rfl, hw⟩; replace hw := hw.symm; subst hw; clear cT)
      | ((with_reducible refine at_storeL 2 _ _ rfl ?_); refine stopL_out ?_; refine wpList_puti rfl 2 _ _ rfl ⟨C, 2, none⟩ rfl val rfl (by kernel_rfl) _ k2 (frozen_of_row _ _ _ _ _ hY1.out.1) fun Y2 hY2 => ?_))
    have hY3 : Hid (Y2.heap[C]? = some (oCl ⟨(g : Int), d, val, 0, false, m, -1⟩) ∧ Below X.heap.size X Y2 ∧ X.heap.size ≤ C) := by
      rw [hY2]
      exact ⟨heap_setCell_same Y C 2 _ _ _ hY1.out.1, hY1.out.2.1.setCell (p := ⟨C, 2, none⟩) hY1.out.2.2 _, hY1.out.2.2⟩
    clear hY1 hY2 k2
    generalize Y2 = Y at *
    have hY1 := hY3
    clear hY3
    obtain ⟨x, hx⟩ : ∃ x : Cl, x = (⟨(g : Int), d, val, 0, false, m, -1⟩ : Cl) := ⟨_, rfl⟩
    have hxD : Hid (x = (⟨(g : Int), d, val, 0, false, m, -1⟩ : Cl)) := hx
    have hxg : Hid (x.go = (g : Int)) := by (show _ = _; rw [hx])
    rw [show ((⟨(g : Int), d, val, 0, false, m, -1⟩ : Cl)) = x from hx.symm] at hY1
    have hNY : Hid (NtS w0 Y B h oa oc) := hV.out.below hY1.out.2.1
    clear hx
    have hS : Hid (Y.drew.cell? ⟨B, 0, none⟩ = some (.slice oa h.length oc)) := (nt_cell hNY.out.s).1
    refine wp_region_noPanic ?_
    refine wp_region_held_drew (S := fun w' => w'.cell? ⟨B, 0, none⟩ = some (.slice oa h.length oc)) (by kernel_rfl) hS.out (fun _ => ?_)
    refine reg_move (i := 0) rfl (by kernel_rfl) (by kernel_rfl) (by kernel_rfl) (fun _ _ _ _ h => h) rfl (.pointer (some ⟨B, 0, none⟩)) (fun _ => rfl) hS.out ?_
    simp only [Act.put, List.getElem_toArray, List.getElem_cons_succ, List.getElem_cons_zero, List.setIfInBounds_toArray, List.set_cons_zero, List.set_cons_succ]
    refine reg_move (i := 1) rfl (by kernel_rfl) (by kernel_rfl) (by kernel_rfl) (fun _ _ _ _ h => h) rfl (.int .i64 (g : Int)) (fun _ => rfl) hS.out ?_
    simp only [Act.put, List.getElem_toArray, List.getElem_cons_succ, List.getElem_cons_zero, List.setIfInBounds_toArray, List.set_cons_zero, List.set_cons_succ]
    refine reg_move (i := 2) rfl (by kernel_rfl) (by kernel_rfl) (by kernel_rfl) (fun _ _ _ _ h => h) rfl (.pointer (some ⟨B, 0, none⟩)) (fun _ => rfl) hS.out ?_
    simp only [Act.put, List.getElem_toArray, List.getElem_cons_succ, List.getElem_cons_zero, List.setIfInBounds_toArray, List.set_cons_zero, List.set_cons_succ]
    refine reg_move (i := 3) rfl (by kernel_rfl) (by kernel_rfl) (by kernel_rfl) (fun _ _ _ _ h => h) rfl (.pointer (some ⟨B, 0, none⟩)) (fun _ => rfl) hS.out ?_
    simp only [Act.put, List.getElem_toArray, List.getElem_cons_succ, List.getElem_cons_zero, List.setIfInBounds_toArray, List.set_cons_zero, List.set_cons_succ]
    refine reg_move (i := 4) rfl (by kernel_rfl) (by kernel_rfl) (by kernel_rfl) (fun _ _ _ _ h => h) rfl (.pointer (some ⟨B, 0, none⟩)) (fun _ => rfl) hS.out ?_
    simp only [Act.put, List.getElem_toArray, List.getElem_cons_succ, List.getElem_cons_zero, List.setIfInBounds_toArray, List.set_cons_zero, List.set_cons_succ]
    refine reg_load1 (i := 5) rfl (by kernel_rfl) (by kernel_rfl) (by kernel_rfl) (fun _ _ _ _ h => h) rfl 22 _ rfl ⟨B, 0, none⟩ rfl _ Try.underlying22 rfl (.slice oa h.length oc) (fun w' q => q) hS.out ?_
    simp only [Act.put, List.getElem_toArray, List.getElem_cons_succ, List.getElem_cons_zero, List.setIfInBounds_toArray, List.set_cons_zero, List.set_cons_succ]
    refine reg_move (i := 6) rfl (by kernel_rfl) (by kernel_rfl) (by kernel_rfl) (fun _ _ _ _ h => h) rfl (.int .i64 (h.length : Int)) (fun wx => run_lenC _ rfl oa h.length oc rfl wx) hS.out ?_
    simp only [Act.put, List.getElem_toArray, List.getElem_cons_succ, List.getElem_cons_zero, List.setIfInBounds_toArray, List.set_cons_zero, List.set_cons_succ]
    refine reg_move (i := 7) rfl (by kernel_rfl) (by kernel_rfl) (by kernel_rfl) (fun _ _ _ _ h => h) rfl (.pointer (some ⟨B, 0, none⟩)) (fun _ => rfl) hS.out ?_
    simp only [Act.put, List.getElem_toArray, List.getElem_cons_succ, List.getElem_cons_zero, List.setIfInBounds_toArray, List.set_cons_zero, List.set_cons_succ]
    refine reg_move (i := 8) rfl (by kernel_rfl) (by kernel_rfl) (by kernel_rfl) (fun _ _ _ _ h => h) rfl (.pointer (some ⟨B, 1, none⟩)) (fun _ => rfl) hS.out ?_
    simp only [Act.put, List.getElem_toArray, List.getElem_cons_succ, List.getElem_cons_zero, List.setIfInBounds_toArray, List.set_cons_zero, List.set_cons_succ]
    refine reg_move (i := 9) rfl (by kernel_rfl) (by kernel_rfl) (by kernel_rfl) (fun _ _ _ _ h => h) rfl (.pointer (some ⟨B, 1 + g, none⟩)) (fun wx => by unfold execOp; exact run_value_of (ix6N B g hgH.out wx)) hS.out ?_
    simp only [Act.put, List.getElem_toArray, List.getElem_cons_succ, List.getElem_cons_zero, List.setIfInBounds_toArray, List.set_cons_zero, List.set_cons_succ]
    have hne : Hid (¬ ((⟨B, 1 + g, none⟩ : Addr) = ⟨B, 0, none⟩)) := fun q => by simp at q
    refine reg_one (i := 10) (by kernel_rfl) rfl rfl (wpList_puti rfl 3 _ _ rfl ⟨B, 1 + g, none⟩ rfl (h.length : Int) rfl (by kernel_rfl) (.int .i64 (lasF h g)) ((nt_cell hNY.out.s).2 g hgH.out) (frozen_of_row _ _ _ _ _ hNY.out.s) fun Y4 hY4 => wpList_nil (And.intro (by rw [hY4]; exact (nt_cell (nt_putL hNY.out.s hgH.out _)).1) fun _ => ?_))
    simp only [Act.put, List.getElem_toArray, List.getElem_cons_succ, List.getElem_cons_zero, List.setIfInBounds_toArray, List.set_cons_zero, List.set_cons_succ]
    refine wpAnyH_done (by kernel_rfl) (NoPanic.normal ?_) _
    have hQ : Hid (Y4.heap[B]? = some (.cells (ntA oa h.length oc fun j => if j = g then (h.length : Int) else lasF h j) TN) ∧ OwnL Y4 w0.heap.size 53 7 oa oc (h.map Cl.cells) ∧ Below w0.heap.size w0 Y4 ∧ Y4.heap[C]? = some (oCl x)) := by
      rw [hY4]
      refine ⟨nt_putL hNY.out.s hgH.out _, own_keep hNY.out.o fun b hb => heap_setCell_other _ ⟨B, 1 + g, none⟩ b _ (fun q => hNY.out.n (by rw [← (show b = B from q)]; exact hb)), hNY.out.b.drew.setCell (p := ⟨B, 1 + g, none⟩) hNY.out.d _, ?_⟩
      exact (heap_setCell_other _ ⟨B, 1 + g, none⟩ C _ (by have := hV.out.lt; have := hY1.out.2.2; show C ≠ B; omega)).trans hY1.out.1
    have hbr : Hid (Fr X Y4 B B oa oa) := by
      rw [hY4]
      exact ⟨by rw [World.size_setCell]; exact hY1.out.2.1.size, fun b h1 h2 _ _ => (heap_setCell_other _ ⟨B, 1 + g, none⟩ b _ h2).trans (hY1.out.2.1.block b h1), fun b hb => .inl hb⟩
    have hCt : Hid (C < Y4.heap.size ∧ C ∉ blk oa ∧ C ≠ B) := ⟨(Array.getElem?_eq_some_iff.mp hQ.out.2.2.2).1, fun q => by have := (blk_lt hV.out.o C q).2; have := hY1.out.2.2; omega, by have := hV.out.lt; have := hY1.out.2.2; omega⟩
    have hBt : Hid (B < Y4.heap.size ∧ B ∉ blk oa) := ⟨(Array.getElem?_eq_some_iff.mp hQ.out.1).1, hV.out.n⟩
    clear hY1 hNY hS hne hY4
    go_upto_region 7 with fail
    have hQd : Hid (Y4.drew.heap[B]? = some (.cells (ntA oa h.length oc fun j => if j = g then (h.length : Int) else lasF h j) TN) ∧ OwnL Y4.drew w0.heap.size 53 7 oa oc (h.map Cl.cells) ∧ Below w0.heap.size w0 Y4.drew ∧ Y4.drew.heap[C]? = some (oCl x)) := ⟨hQ.out.1, own_keep hQ.out.2.1 fun _ _ => rfl, hQ.out.2.2.1.drew, hQ.out.2.2.2⟩
    have hbd : Hid (Fr X Y4.drew B B oa oa) := hbr.out.below (bey_drew Y4)
    have hCd : Hid (C < Y4.drew.heap.size ∧ C ∉ blk oa ∧ C ≠ B) := hCt.out
    have hBd : Hid (B < Y4.drew.heap.size ∧ B ∉ blk oa) := hBt.out
    clear hQ hbr hCt hBt
    have hS : Hid (Y4.drew.heap[C]? = some (oCl x)) := hQd.out.2.2.2
    refine wp_region_noPanic ?_
    refine wp_region_held_drew (S := fun w' => w'.heap[C]? = some (oCl x)) (by kernel_rfl) hS.out (fun _ => ?_)
    generalize Y4.drew = Q4 at *
    have hQ := hQd
    have hbr := hbd
    have hCt := hCd
    have hBt := hBd
    clear hQd hbd hCd hBd
    refine reg_move (i := 0) rfl (by kernel_rfl) (by kernel_rfl) (by kernel_rfl) (fun _ _ _ _ h => h) rfl (.pointer (some ⟨B, 0, none⟩)) (fun _ => rfl) hS.out ?_
    simp only [Act.put, List.getElem_toArray, List.getElem_cons_succ, List.getElem_cons_zero, List.setIfInBounds_toArray, List.set_cons_zero, List.set_cons_succ]
    refine reg_move (i := 1) rfl (by kernel_rfl) (by kernel_rfl) (by kernel_rfl) (fun _ _ _ _ h => h) rfl (.pointer (some ⟨B, 0, none⟩)) (fun _ => rfl) hS.out ?_
    simp only [Act.put, List.getElem_toArray, List.getElem_cons_succ, List.getElem_cons_zero, List.setIfInBounds_toArray, List.set_cons_zero, List.set_cons_succ]
    refine reg_move (i := 2) rfl (by kernel_rfl) (by kernel_rfl) (by kernel_rfl) (fun _ _ _ _ h => h) rfl (.pointer (some ⟨B, 0, none⟩)) (fun _ => rfl) hS.out ?_
    simp only [Act.put, List.getElem_toArray, List.getElem_cons_succ, List.getElem_cons_zero, List.setIfInBounds_toArray, List.set_cons_zero, List.set_cons_succ]
    refine reg_move (i := 3) rfl (by kernel_rfl) (by kernel_rfl) (by kernel_rfl) (fun _ _ _ _ h => h) rfl (.pointer (some ⟨B, 0, none⟩)) (fun _ => rfl) hS.out ?_
    simp only [Act.put, List.getElem_toArray, List.getElem_cons_succ, List.getElem_cons_zero, List.setIfInBounds_toArray, List.set_cons_zero, List.set_cons_succ]
    refine reg_load (i := 5) rfl (by kernel_rfl) (by kernel_rfl) (by kernel_rfl) (fun _ _ _ _ h => h) rfl 53 _ rfl C 0 rfl [.int .i64 x.go, .int .i64 x.d, .int .i64 x.inn, .int .i64 x.out, .bool x.em, .int .i64 x.bg, .int .i64 x.en] _ (fun w' z => rng_blk z) Try.underlying53 rfl infoX hS.out ?_
    simp only [Act.put, List.getElem_toArray, List.getElem_cons_succ, List.getElem_cons_zero, List.setIfInBounds_toArray, List.set_cons_zero, List.set_cons_succ]
    refine reg_two (i := 4) (j := 6) (by kernel_rfl) rfl rfl rfl rfl (wpList_load1 rfl 22 _ rfl ⟨B, 0, none⟩ rfl _ Try.underlying22 rfl (.slice oa h.length oc) (nt_cell hQ.out.1).1 (wpList_nil (And.intro hS.out fun _ => ?_))) (wpList_buildSlice rfl 22 53 1 _ rfl x.cells.toArray iC _ Try.underlying22 hiC.out hzC.out (by rw [hsC.out]; omega) (by rw [hsC.out]; omega) (by simp only [hsC.out]; kernel_rfl) (wpList_nil (And.intro (blk_on hS.out (boxed _ _)) fun _ => ?_)))
    · simp only [Act.put, List.getElem_toArray, List.getElem_cons_succ, List.getElem_cons_zero, List.setIfInBounds_toArray, List.set_cons_zero, List.set_cons_succ]
      refine reg_one (i := 6) (by kernel_rfl) rfl rfl (wpList_buildSlice rfl 22 53 1 _ rfl x.cells.toArray iC _ Try.underlying22 hiC.out hzC.out (by rw [hsC.out]; omega) (by rw [hsC.out]; omega) (by simp only [hsC.out]; kernel_rfl) (wpList_nil (And.intro (blk_on hS.out (boxed _ _)) fun _ => ?_)))
      simp only [Act.put, List.getElem_toArray, List.getElem_cons_succ, List.getElem_cons_zero, List.setIfInBounds_toArray, List.set_cons_zero, List.set_cons_succ]
      refine reg_one (i := 7) (by kernel_rfl) rfl rfl (wpList_app1 rfl _ _ 22 rfl w0.heap.size 53 iC _ 7 56 Try.underlying22 hiC.out hzC.out hsC.out hbC.out rfl (by decide) oa oc (h.map Cl.cells) (by rw [List.length_map]; rfl) hQ.out.2.1 x.cells rfl rfl (by simp [Cl.cells, Value.oneCell']) (by rw [List.length_map]; have := h8H.out; unfold maxLen; omega) (by rw [List.length_map]; have := h8H.out; omega) hQ.out.2.2.1.size fun va vc Z3 hgr => wpList_nil (And.intro ((hgr.kp _ hCt.out.1 hCt.out.2.1).trans hQ.out.2.2.2) fun _ => ?_))
      simp only [Act.put, List.getElem_toArray, List.getElem_cons_succ, List.getElem_cons_zero, List.setIfInBounds_toArray, List.set_cons_zero, List.set_cons_succ]
      rw [List.length_map]
      have hSA : Hid (Z3.heap[C]? = some (oCl x)) := (hgr.kp _ hCt.out.1 hCt.out.2.1).trans hQ.out.2.2.2
      have hs3 : Hid (Z3.heap[B]? = some (.cells (ntA oa h.length oc fun j => if j = g then (h.length : Int) else lasF h j) TN)) := (hgr.kp B hBt.out.1 hBt.out.2).trans hQ.out.1
      refine reg_move (i := 8) rfl (by kernel_rfl) (by kernel_rfl) (by kernel_rfl) (fun _ _ _ _ h => h) rfl (.pointer (some ⟨B, 0, none⟩)) (fun _ => rfl) hSA.out ?_
      simp only [Act.put, List.getElem_toArray, List.getElem_cons_succ, List.getElem_cons_zero, List.setIfInBounds_toArray, List.set_cons_zero, List.set_cons_succ]
      refine reg_move (i := 9) rfl (by kernel_rfl) (by kernel_rfl) (by kernel_rfl) (fun _ _ _ _ h => h) rfl (.pointer (some ⟨B, 0, none⟩)) (fun _ => rfl) hSA.out ?_
      simp only [Act.put, List.getElem_toArray, List.getElem_cons_succ, List.getElem_cons_zero, List.setIfInBounds_toArray, List.set_cons_zero, List.set_cons_succ]
      refine reg_one (i := 10) (by kernel_rfl) rfl rfl (wpList_store1 rfl 22 _ _ rfl ⟨B, 0, none⟩ rfl va (h.length + 1) vc rfl (by kernel_rfl) _ (nt_cell hs3.out).1 (frozen_of_row _ _ _ _ _ hs3.out) (wpList_nil (And.intro ((heap_setCell_other _ ⟨B, 0, none⟩ _ _ hCt.out.2.2).trans hSA.out) fun _ => ?_)))
      simp only [Act.put, List.getElem_toArray, List.getElem_cons_succ, List.getElem_cons_zero, List.setIfInBounds_toArray, List.set_cons_zero, List.set_cons_succ]
      refine wpAnyH_done (by kernel_rfl) (NoPanic.normal ?_) _
      have hF : Hid (NtP w0 X B oa (h ++ [x]) (Z3.setCell ⟨B, 0, none⟩ (.slice va (h.length + 1) vc))) := nt_grow hV.out hbr.out hQ.out hgr hxg.out
      generalize World.setCell _ _ _ = Z4 at *
      go_wp2
      go_ret
      exact ⟨rfl, by (rw [← hxD.out]; exact hF.out)⟩
    · simp only [Act.put, List.getElem_toArray, List.getElem_cons_succ, List.getElem_cons_zero, List.setIfInBounds_toArray, List.set_cons_zero, List.set_cons_succ]
      refine reg_one (i := 4) (by kernel_rfl) rfl rfl (wpList_load1 rfl 22 _ rfl ⟨B, 0, none⟩ rfl _ Try.underlying22 rfl (.slice oa h.length oc) (nt_cell (blk_on hQ.out.1 (boxed _ _))).1 (wpList_nil (And.intro (blk_on hS.out (boxed _ _)) fun _ => ?_)))
      simp only [Act.put, List.getElem_toArray, List.getElem_cons_succ, List.getElem_cons_zero, List.setIfInBounds_toArray, List.set_cons_zero, List.set_cons_succ]
      refine reg_one (i := 7) (by kernel_rfl) rfl rfl (wpList_app1 rfl _ _ 22 rfl w0.heap.size 53 iC _ 7 56 Try.underlying22 hiC.out hzC.out hsC.out hbC.out rfl (by decide) oa oc (h.map Cl.cells) (by rw [List.length_map]; rfl) hQ.out.2.1 x.cells rfl rfl (by simp [Cl.cells, Value.oneCell']) (by rw [List.length_map]; have := h8H.out; unfold maxLen; omega) (by rw [List.length_map]; have := h8H.out; omega) hQ.out.2.2.1.size fun va vc Z3 hgr => wpList_nil (And.intro ((hgr.kp _ hCt.out.1 hCt.out.2.1).trans hQ.out.2.2.2) fun _ => ?_))
      simp only [Act.put, List.getElem_toArray, List.getElem_cons_succ, List.getElem_cons_zero, List.setIfInBounds_toArray, List.set_cons_zero, List.set_cons_succ]
      rw [List.length_map]
      have hSA : Hid (Z3.heap[C]? = some (oCl x)) := (hgr.kp _ hCt.out.1 hCt.out.2.1).trans hQ.out.2.2.2
      have hs3 : Hid (Z3.heap[B]? = some (.cells (ntA oa h.length oc fun j => if j = g then (h.length : Int) else lasF h j) TN)) := (hgr.kp B hBt.out.1 hBt.out.2).trans hQ.out.1
      refine reg_move (i := 8) rfl (by kernel_rfl) (by kernel_rfl) (by kernel_rfl) (fun _ _ _ _ h => h) rfl (.pointer (some ⟨B, 0, none⟩)) (fun _ => rfl) hSA.out ?_
      simp only [Act.put, List.getElem_toArray, List.getElem_cons_succ, List.getElem_cons_zero, List.setIfInBounds_toArray, List.set_cons_zero, List.set_cons_succ]
      refine reg_move (i := 9) rfl (by kernel_rfl) (by kernel_rfl) (by kernel_rfl) (fun _ _ _ _ h => h) rfl (.pointer (some ⟨B, 0, none⟩)) (fun _ => rfl) hSA.out ?_
      simp only [Act.put, List.getElem_toArray, List.getElem_cons_succ, List.getElem_cons_zero, List.setIfInBounds_toArray, List.set_cons_zero, List.set_cons_succ]
      refine reg_one (i := 10) (by kernel_rfl) rfl rfl (wpList_store1 rfl 22 _ _ rfl ⟨B, 0, none⟩ rfl va (h.length + 1) vc rfl (by kernel_rfl) _ (nt_cell hs3.out).1 (frozen_of_row _ _ _ _ _ hs3.out) (wpList_nil (And.intro ((heap_setCell_other _ ⟨B, 0, none⟩ _ _ hCt.out.2.2).trans hSA.out) fun _ => ?_)))
      simp only [Act.put, List.getElem_toArray, List.getElem_cons_succ, List.getElem_cons_zero, List.setIfInBounds_toArray, List.set_cons_zero, List.set_cons_succ]
      refine wpAnyH_done (by kernel_rfl) (NoPanic.normal ?_) _
      have hF : Hid (NtP w0 X B oa (h ++ [x]) (Z3.setCell ⟨B, 0, none⟩ (.slice va (h.length + 1) vc))) := nt_grow hV.out hbr.out hQ.out hgr hxg.out
      generalize World.setCell _ _ _ = Z4 at *
      go_wp2
      go_ret
      exact ⟨rfl, by (rw [← hxD.out]; exact hF.out)⟩
end
end Go.Proofs.Ytklpifammbnldaa.pg
/- What the notes of a trace tell: package linear, how an operation ends, and what one event does. -/
namespace Go.Proofs.Ytklpifammbnldaa.pg
open Go.ChangeShapes Go.WideShapes Go.ChangeAt Go.RowKit
set_option linter.unusedVariables false
set_option linter.unusedSimpArgs false
set_option maxRecDepth 100000
attribute [local go_sem ↓] Go.wp_at_zero Go.wp_at_succ
section
variable {w0 X : World} {B : Nat} {h : List Cl} {oa : Option Addr} {oc : Nat}
theorem nt_clset {G k j : Nat} {v : Value} {c' : Cl} (S : NtS w0 X B h (some ⟨G, 0, none⟩) oc) (hk : k < h.length) (hj : j < 7) (hc : (hf h k).cells.set j v = c'.cells) (hg : c'.go = (hf h k).go) : NtS w0 (X.setCell ⟨G, k * 7 + j, none⟩ v) B (h.set k c') (some ⟨G, 0, none⟩) oc ∧ Fr X (X.setCell ⟨G, k * 7 + j, none⟩ v) B B (some ⟨G, 0, none⟩) (some ⟨G, 0, none⟩) := by
  have hne : B ≠ G := fun q => S.n (by simp [blk, q])
  have hG := blk_lt S.o G (by simp [blk])
  have ho := own_cellN S.o (cl_len h) k (hf h k).cells (by rw [List.getElem?_map, hf_at hk]; rfl) j hj v
  rw [hc, ← List.map_set] at ho
  refine ⟨⟨?_, ho, S.b.setCell (p := ⟨G, k * 7 + j, none⟩) hG.1 _, S.d, S.n⟩, by rw [World.size_setCell]; exact Nat.le_refl _, fun b h1 h2 _ h4 => heap_setCell_other X ⟨G, k * 7 + j, none⟩ b _ (fun q => h4 (by simp only [blk, List.mem_singleton]; exact q)), fun b hb => .inl hb⟩
  rw [heap_setCell_other X ⟨G, k * 7 + j, none⟩ B _ hne, S.s, List.length_set]
  rw [ntA_same (l' := lasF (h.set k c')) fun i hi => (las_set hk hg (i : Int)).symm]
theorem hf_set_same {c : Cl} {k : Nat} (hk : k < h.length) : hf (h.set k c) k = c := by rw [hf_set hk, if_pos rfl]
theorem nt_cells {G k : Nat} (S : NtS w0 X B h (some ⟨G, 0, none⟩) oc) (hk : k < h.length) : X.rangeAt G (k * 7) (hf h k).cells ∧ ∀ j v, (hf h k).cells[j]? = some v → X.frozen? ⟨G, k * 7 + j, none⟩ = false := by
  obtain ⟨G', hG, _, _, r1, _⟩ := cl_own S.o hk
  simp only [Option.some.injEq, Addr.mk.injEq, and_true] at hG
  subst hG
  exact ⟨r1, fun j v hj => (own_cellAt S.o (cl_len h) k (hf h k).cells (by rw [List.getElem?_map, hf_at hk]; rfl) j v hj).2⟩
set_option maxHeartbeats 4000000 in
theorem end_no (v : NInv h) (S : NtS w0 X B h oa oc) {g : Nat} (hg : g < 6) (d val m : Int) (bare : Bool) (hop : opnN h (g : Int) < 0) : Calls Try.prog 56 #[.pointer (some ⟨B, 0, none⟩), .int .i64 (g : Int), .int .i64 d, .int .i64 val, .bool bare, .int .i64 m] X fun e w' => e = .returned (.bool false) ∧ Below X.heap.size X w' := by
  have cO : Calls Try.prog 71 #[.pointer (some ⟨B, 0, none⟩), .int .i64 (g : Int)] X fun e w' => e = .returned (.pointer none) ∧ Below X.heap.size X w' := by
    refine (open_anyN v S hg).mono ?_
    rintro e w' ⟨v, rfl, ⟨_, rfl⟩ | ⟨k, G, _, q, _, rfl⟩, hb⟩
    · exact ⟨rfl, hb⟩
    · omega
  clear v S hg hop
  go_enter Try.func56, Try.ntmps56
  go_wp2_with (first
    | (go_at_call 71; (with_reducible refine cO.mono ?_); rintro e w1 ⟨rfl, hb⟩; (have hB : Hid (Below X.heap.size X w1) := hb); clear hb))
  go_ret
  exact ⟨rfl, hB.out⟩
theorem open_at (v : NInv h) (S : NtS w0 X B h oa oc) {g k : Nat} (hg : g < 6) (hk : opnN h (g : Int) = (k : Int)) : ∃ G, k < h.length ∧ oa = some ⟨G, 0, none⟩ ∧ (hf h k).go = (g : Int) ∧ Calls Try.prog 71 #[.pointer (some ⟨B, 0, none⟩), .int .i64 (g : Int)] X fun e w' => e = .returned (.pointer (some ⟨G, k * 7, none⟩)) ∧ Below X.heap.size X w' := by
  rcases opn_spec (h := h) (g : Int) with ⟨q, _⟩ | ⟨j, q1, q2, q3, q4⟩
  · omega
  · have e : j = k := by omega
    subst e
    obtain ⟨G, hG, _⟩ := cl_own S.o q1
    refine ⟨G, q1, hG, q3, (open_anyN v S hg).mono ?_⟩
    rintro e w' ⟨v, rfl, ⟨q, _⟩ | ⟨k', G', _, q, hG', rfl⟩, hb⟩
    · omega
    · have e1 : k' = j := by omega
      rw [hG] at hG'
      simp only [Option.some.injEq, Addr.mk.injEq, and_true] at hG'
      rw [e1, hG']
      exact ⟨rfl, hb⟩
set_option maxHeartbeats 4000000 in
theorem end_bad (v : NInv h) (S : NtS w0 X B h oa oc) {g k : Nat} (hg : g < 6) (d val m : Int) (bare : Bool) (hop : opnN h (g : Int) = (k : Int)) (hd : (hf h k).d ≠ d) : Calls Try.prog 56 #[.pointer (some ⟨B, 0, none⟩), .int .i64 (g : Int), .int .i64 d, .int .i64 val, .bool bare, .int .i64 m] X fun e w' => e = .returned (.bool false) ∧ Below X.heap.size X w' := by
  obtain ⟨G, hk, rfl, _, cO⟩ := open_at v S hg hop
  have hc : Hid (∀ w', Below X.heap.size X w' → w'.cell? ⟨G, k * 7 + 1, none⟩ = some (.int .i64 (hf h k).d)) := fun w' q => (nt_cells (S.below q) hk).1 1 _ rfl
  have hdd : ((hf h k).d != d) = true := by rw [bne_iff_ne]; exact hd
  clear v S hg hop hd
  generalize (hf h k).d = dd at *
  go_enter Try.func56, Try.ntmps56
  go_wp2_with (first
    | (go_at_call 71; (with_reducible refine cO.mono ?_); rintro e w1 ⟨rfl, hb⟩; (have hB : Hid (Below X.heap.size X w1) := hb); (have c0 := hc.out _ hb); clear hb))
  go_ret
  exact ⟨rfl, hB.out⟩
set_option maxHeartbeats 8000000 in
theorem end_ok (v : NInv h) (S : NtS w0 X B h oa oc) {g k : Nat} (hg : g < 6) (d val m : Int) (bare : Bool) (hop : opnN h (g : Int) = (k : Int)) (hd : (hf h k).d = d) : Calls Try.prog 56 #[.pointer (some ⟨B, 0, none⟩), .int .i64 (g : Int), .int .i64 d, .int .i64 val, .bool bare, .int .i64 m] X fun e w' => e = .returned (.bool true) ∧ NtP w0 X B oa (h.set k ⟨(hf h k).go, (hf h k).d, (hf h k).inn, if tellsB d && !bare then val else (hf h k).out, bare, (hf h k).bg, m⟩) w' := by
  obtain ⟨G, hk, rfl, _, cO⟩ := open_at v S hg hop
  have hkH : Hid (k < h.length) := hk
  have hV : Hid (NtS w0 X B h (some ⟨G, 0, none⟩) oc) := S
  obtain ⟨c, hc⟩ : ∃ c, hf h k = c := ⟨_, rfl⟩
  have hcH : Hid (hf h k = c) := hc
  have cT := fun wx => tells_any d wx
  obtain ⟨t, ht⟩ : ∃ t, tellsB d = t := ⟨_, rfl⟩
  rw [hc] at hd ⊢
  rw [ht] at cT ⊢
  have hdd : (c.d != d) = false := by rw [hd]; simp
  obtain ⟨o9, ho9⟩ : ∃ o9, (if t && !bare then val else c.out) = o9 := ⟨_, rfl⟩
  have hoH : Hid ((if t && !bare then val else c.out) = o9) := ho9
  rw [ho9]
  clear v S hg hop hd hk hc ht ho9
  go_enter Try.func56, Try.ntmps56
  go_upto_region 2 with (first
    | (go_at_call 71; (with_reducible refine cO.mono ?_); rintro e w1 ⟨rfl, hb⟩; (have hB : Hid (Below X.heap.size X w1) := hb); clear hb cO))
  have hN1 : Hid (NtS w0 w1 B h (some ⟨G, 0, none⟩) oc) := hV.out.below hB.out
  have hF1 : Hid (Fr X w1 B B (some ⟨G, 0, none⟩) (some ⟨G, 0, none⟩)) := Fr.refl.below hB.out
  have c1 : w1.cell? ⟨G, k * 7 + 1, none⟩ = some (.int .i64 c.d) := by
    have := (nt_cells hN1.out hkH.out).1 1 _ rfl
    rw [hcH.out] at this
    exact this
  have c6 : w1.cell? ⟨G, k * 7 + 6, none⟩ = some (.int .i64 c.en) := by
    have := (nt_cells hN1.out hkH.out).1 6 _ rfl
    rw [hcH.out] at this
    exact this
  have f6 := (nt_cells hN1.out hkH.out).2 6 _ rfl
  clear hV hB
  go_upto_region 5 with (first
    | ((with_reducible refine at_storeL 3 _ _ rfl ?_); refine stopL_out ?_; refine wpList_puti rfl 3 _ _ rfl ⟨G, k * 7 + 6, none⟩ rfl m rfl (by kernel_rfl) _ c6 f6 fun W2 hW2 => ?_; (have hN2 : Hid (NtS w0 W2 B (h.set k ⟨c.go, c.d, c.inn, c.out, c.em, c.bg, m⟩) (some ⟨G, 0, none⟩) oc ∧ Fr w1 W2 B B (some ⟨G, 0, none⟩) (some ⟨G, 0, none⟩)) := by (rw [hW2]; exact nt_clset hN1.out hkH.out (by decide) (by rw [hcH.out]; rfl) (by rw [hcH.out]))); (have k4 : W2.cell? ⟨G, k * 7 + 4, none⟩ = some (.bool c.em) := by (have := (nt_cells hN2.out.1 (by rw [List.length_set]; exact hkH.out)).1 4 _ rfl; rw [hf_set_same hkH.out] at this; exact this)); (have f4 := (nt_cells hN2.out.1 (by rw [List.length_set]; exact hkH.out)).2 4 _ rfl); clear hW2 c6 c1 f6)
    | ((with_reducible refine at_storeL 4 _ _ rfl ?_); refine stopL_out ?_; refine wpList_putb rfl 4 _ _ rfl ⟨G, k * 7 + 4, none⟩ rfl bare rfl (by kernel_rfl) _ k4 f4 fun W3 hW3 => ?_; (have hN3 : Hid (NtS w0 W3 B (h.set k ⟨c.go, c.d, c.inn, c.out, bare, c.bg, m⟩) (some ⟨G, 0, none⟩) oc ∧ Fr W2 W3 B B (some ⟨G, 0, none⟩) (some ⟨G, 0, none⟩)) := by (rw [hW3, show h.set k ⟨c.go, c.d, c.inn, c.out, bare, c.bg, m⟩ = (h.set k ⟨c.go, c.d, c.inn, c.out, c.em, c.bg, m⟩).set k ⟨c.go, c.d, c.inn, c.out, bare, c.bg, m⟩ by rw [List.set_set]]; exact nt_clset hN2.out.1 (by rw [List.length_set]; exact hkH.out) (by decide) (by rw [hf_set_same hkH.out]; rfl) (by rw [hf_set_same hkH.out]))); clear hW3 k4 f4))
  have hN4 : Hid (NtS w0 W3 B (h.set k ⟨c.go, c.d, c.inn, c.out, bare, c.bg, m⟩) (some ⟨G, 0, none⟩) oc ∧ Fr X W3 B B (some ⟨G, 0, none⟩) (some ⟨G, 0, none⟩)) := ⟨hN3.out.1, (hF1.out.trans hN2.out.2).trans hN3.out.2⟩
  have k3 : W3.cell? ⟨G, k * 7 + 3, none⟩ = some (.int .i64 c.out) := by
    have := (nt_cells hN4.out.1 (by rw [List.length_set]; exact hkH.out)).1 3 _ rfl
    rw [hf_set_same hkH.out] at this
    exact this
  have f3 := (nt_cells hN4.out.1 (by rw [List.length_set]; exact hkH.out)).2 3 _ rfl
  clear hN1 hN2 hN3 hF1
  cases t with
  | false =>
    go_wp2_with (first
      | (go_at_call 73; (with_reducible refine (cT _).mono ?_); rintro e w2 ⟨rfl, hw⟩; replace hw := hw.symm; subst hw; clear cT))
    go_ret
    rw [show o9 = c.out by rw [← hoH.out]; simp]
    exact ⟨rfl, _, _, hN4.out⟩
  | true =>
    cases bare with
    | true =>
      go_wp2_with (first
        | (go_at_call 73; (with_reducible refine (cT _).mono ?_); rintro e w2 ⟨rfl, hw⟩; replace hw := hw.symm; subst hw; clear cT))
      go_ret
      rw [show o9 = c.out by rw [← hoH.out]; simp]
      exact ⟨rfl, _, _, hN4.out⟩
    | false =>
      go_wp2_with (first
        | (go_at_call 73; (with_reducible refine (cT _).mono ?_); rintro e w2 ⟨rfl, hw⟩; replace hw := hw.symm; subst hw; clear cT)
        | ((with_reducible refine at_storeL 2 _ _ rfl ?_); refine stopL_out ?_; refine wpList_puti rfl 2 _ _ rfl ⟨G, k * 7 + 3, none⟩ rfl val rfl (by kernel_rfl) _ k3 f3 fun W5 hW5 => ?_; (have hN5 : Hid (NtS w0 W5 B (h.set k ⟨c.go, c.d, c.inn, val, false, c.bg, m⟩) (some ⟨G, 0, none⟩) oc ∧ Fr W3 W5 B B (some ⟨G, 0, none⟩) (some ⟨G, 0, none⟩)) := by (rw [hW5, show h.set k ⟨c.go, c.d, c.inn, val, false, c.bg, m⟩ = (h.set k ⟨c.go, c.d, c.inn, c.out, false, c.bg, m⟩).set k ⟨c.go, c.d, c.inn, val, false, c.bg, m⟩ by rw [List.set_set]]; exact nt_clset hN4.out.1 (by rw [List.length_set]; exact hkH.out) (by decide) (by rw [hf_set_same hkH.out]; rfl) (by rw [hf_set_same hkH.out]))); clear hW5 k3 f3))
      go_ret
      rw [show o9 = val by rw [← hoH.out]; simp]
      exact ⟨rfl, _, _, hN5.out.1, hN4.out.2.trans hN5.out.2⟩
/-- What one event leaves. -/
def NotP (w0 X : World) (B : Nat) (oa : Option Addr) (r : Option (List Cl)) (e : Ending) (w' : World) : Prop := match r with
  | none => e = .returned (.bool false) ∧ Below w0.heap.size w0 w'
  | some h' => e = .returned (.bool true) ∧ NtP w0 X B oa h' w'
theorem NtP.of {X' : World} (S : NtS w0 X B h oa oc) (hb : Below X.heap.size X X') : NtP w0 X B oa h X' := ⟨oa, oc, S.below hb, Fr.refl.below hb⟩
theorem NtP.from {X X' W : World} {h' : List Cl} (hb : Below X.heap.size X X') (hB : B < X.heap.size) (ho : ∀ b ∈ blk oa, b < X.heap.size) (p : NtP w0 X' B oa h' W) : NtP w0 X B oa h' W := by
  obtain ⟨a, c, p1, p2⟩ := p
  exact ⟨a, c, p1, (Fr.refl.below hb).trans p2⟩
end
end Go.Proofs.Ytklpifammbnldaa.pg
/- What the notes of a trace tell: package linear. -/
namespace Go.Proofs.Ytklpifammbnldaa.pg
open Go.ChangeShapes Go.WideShapes Go.ChangeAt Go.RowKit
set_option linter.unusedVariables false
set_option linter.unusedSimpArgs false
set_option maxRecDepth 100000
attribute [local go_sem ↓] Go.wp_at_zero Go.wp_at_succ
theorem note_skip {i : Nat} {h : List Cl} {x : Ev} (q : spkN x = false) : noteP i h x = some h := by unfold noteP; rw [if_pos q]
section
variable {w0 X : World} {B : Nat} {h : List Cl} {oa : Option Addr} {oc : Nat}
theorem end_same {c : Cl} {x : Ev} {i : Nat} (hd : c.d = tagD x.tag) (hw : tagW x.tag = 2 ∨ tagW x.tag = 3) : (⟨c.go, c.d, c.inn, if tellsB (tagD x.tag) && !(tagW x.tag == 3) then x.vl else c.out, tagW x.tag == 3, c.bg, 2 * (i : Int)⟩ : Cl) = enC c x i := by
  unfold enC
  rw [hd]
  rcases hw with q | q <;> rw [q]
  · rw [show ((2 : Int) == 3) = false from rfl, show ((2 : Int) == 2) = true from rfl, Bool.not_false, Bool.and_true, Bool.true_and]
  · rw [show ((3 : Int) == 3) = true from rfl, show ((3 : Int) == 2) = false from rfl, Bool.not_true, Bool.and_false, Bool.false_and]
/-- A note that begins an operation. -/
theorem note_begin (v : NInv h) (S : NtS w0 X B h oa oc) (x : Ev) {g : Nat} (hg : g < 6) (hx : x.go = (g : Int)) (i : Nat) (hs : spkN x = true) (hw : tagW x.tag = 1) : ∀ wx, Below X.heap.size X wx → Calls Try.prog 55 #[.pointer (some ⟨B, 0, none⟩), .int .i64 (g : Int), .int .i64 (tagD x.tag), .int .i64 x.vl, .int .i64 (2 * (i : Int))] wx fun e w' => NotP w0 X B oa (noteP i h x) e w' := fun wx q => by
  have hB := S.lt
  have hbl := fun b hb => (blk_lt S.o b hb).2
  have hS := S.below q
  unfold noteP
  rw [if_neg (by rw [hs]; simp), if_pos hw, hx]
  by_cases ho : 0 ≤ opnN h (g : Int)
  · rw [if_pos (.inl ho)]
    refine (begin_no v hS hg _ _ _ ho).mono ?_
    rintro e w' ⟨rfl, hb⟩
    exact ⟨rfl, (hS.below hb).b⟩
  · by_cases h8 : 8 ≤ h.length
    · rw [if_pos (.inr h8)]
      refine (begin_full v hS hg _ _ _ (by omega) h8).mono ?_
      rintro e w' ⟨rfl, hb⟩
      exact ⟨rfl, (hS.below hb).b⟩
    · rw [if_neg (by omega)]
      refine (begin_ok v hS hg _ _ _ (by omega) (by omega)).mono ?_
      rintro e w' ⟨rfl, p⟩
      refine ⟨rfl, NtP.from q hB hbl ?_⟩
      have e1 : bgC x i = ⟨(g : Int), tagD x.tag, if takesB (tagD x.tag) then x.vl else 0, 0, false, 2 * (i : Int), -1⟩ := by
        unfold bgC; rw [hx]
      rw [e1]
      exact p
/-- A note that ends one. -/
theorem note_end (v : NInv h) (S : NtS w0 X B h oa oc) (x : Ev) {g : Nat} (hg : g < 6) (hx : x.go = (g : Int)) (i : Nat) (hs : spkN x = true) (hw : tagW x.tag ≠ 1) : ∀ wx, Below X.heap.size X wx → Calls Try.prog 56 #[.pointer (some ⟨B, 0, none⟩), .int .i64 (g : Int), .int .i64 (tagD x.tag), .int .i64 x.vl, .bool (tagW x.tag == 3), .int .i64 (2 * (i : Int))] wx fun e w' => NotP w0 X B oa (noteP i h x) e w' := fun wx q => by
  have hB := S.lt
  have hbl := fun b hb => (blk_lt S.o b hb).2
  have hS := S.below q
  have hw23 : tagW x.tag = 2 ∨ tagW x.tag = 3 := by
    unfold spkN at hs
    simp only [Bool.and_eq_true, Bool.or_eq_true, beq_iff_eq] at hs
    rcases hs.2.2.2 with q | q | q
    · exact absurd q hw
    · exact .inl q
    · exact .inr q.1
  unfold noteP
  rw [if_neg (by rw [hs]; simp), if_neg hw, hx]
  rcases opn_spec (h := h) (g : Int) with ⟨ho, _⟩ | ⟨k, hk, ho, _, _⟩
  · rw [if_pos (.inl (by omega))]
    refine (end_no v hS hg _ _ _ _ (by omega)).mono ?_
    rintro e w' ⟨rfl, hb⟩
    exact ⟨rfl, (hS.below hb).b⟩
  · rw [ho, Int.toNat_natCast]
    by_cases hd : (hf h k).d = tagD x.tag
    · rw [if_neg (fun z => z.elim (fun z => by omega) fun z => z hd)]
      refine (end_ok v hS hg _ x.vl (2 * (i : Int)) (tagW x.tag == 3) ho hd).mono ?_
      rintro e w' ⟨rfl, p⟩
      refine ⟨rfl, NtP.from q hB hbl ?_⟩
      rw [← end_same hd hw23]
      exact p
    · rw [if_pos (.inr hd)]
      refine (end_bad v hS hg _ _ _ _ ho hd).mono ?_
      rintro e w' ⟨rfl, hb⟩
      exact ⟨rfl, (hS.below hb).b⟩
set_option maxHeartbeats 4000000 in
theorem note_any_skip (S : NtS w0 X B h oa oc) (x : Ev) (i : Nat) (hs : spkN x = false) : Calls Try.prog 38 #[.pointer (some ⟨B, 0, none⟩), .agg x.cells.toArray, .int .i64 (i : Int)] X fun e w' => NotP w0 X B oa (noteP i h x) e w' := by
  rw [note_skip hs]
  have hSH : Hid (NtS w0 X B h oa oc) := S
  have hbx : Hid (BoxE (X.alloc (objE x)) X.heap.size x ∧ Below X.heap.size X (X.alloc (objE x))) := ⟨boxE_new X x, boxed _ _⟩
  have c6 := hbx.out.1.at 6 _ rfl
  have c3 := hbx.out.1.at 3 _ rfl
  have c0 := hbx.out.1.at 0 _ rfl
  have c5 := hbx.out.1.at 5 _ rfl
  clear S
  by_cases hr : 10 ≤ x.tag ∧ x.tag ≤ 53
  · have cP : ∀ wx, Calls Try.prog 54 #[.int .i64 x.tag] wx _ := fun wx => parts_in x.tag wx hr.1 hr.2
    obtain ⟨ok, hok⟩ : ∃ ok, (tagW x.tag == 1 || (tagW x.tag == 2 || (tagW x.tag == 3 && tagD x.tag == 5))) = ok := ⟨_, rfl⟩
    unfold spkN at hs
    rw [decide_eq_true hr.1, decide_eq_true hr.2, hok] at hs
    rw [hok] at cP
    clear hok hr
    generalize tagD x.tag = d at *
    generalize tagW x.tag = ww at *
    cases ok with
    | false =>
      clear hs
      go_enter Try.func38, Try.ntmps38
      go_upto_region 1 with fail
      change Code.wp _ _ _ _ (X.alloc (objE x))
      go_wp2_with (first
        | (go_at_call 54; (with_reducible refine (cP _).mono ?_); rintro e w1 ⟨rfl, hw⟩; replace hw := hw.symm; subst hw; clear cP))
      go_ret
      exact ⟨rfl, NtP.of hSH.out hbx.out.2⟩
    | true =>
      have hop : (x.op != 65) = true := by
        have : (x.op == 65) = false := by simpa using hs
        rw [bne, this]; rfl
      clear hs
      go_enter Try.func38, Try.ntmps38
      go_upto_region 1 with fail
      change Code.wp _ _ _ _ (X.alloc (objE x))
      go_wp2_with (first
        | (go_at_call 54; (with_reducible refine (cP _).mono ?_); rintro e w1 ⟨rfl, hw⟩; replace hw := hw.symm; subst hw; clear cP))
      go_ret
      exact ⟨rfl, NtP.of hSH.out hbx.out.2⟩
  · have cP : ∀ wx, Calls Try.prog 54 #[.int .i64 x.tag] wx _ := fun wx => parts_out x.tag wx (by omega)
    clear hs hr
    go_enter Try.func38, Try.ntmps38
    go_upto_region 1 with fail
    change Code.wp _ _ _ _ (X.alloc (objE x))
    go_wp2_with (first
      | (go_at_call 54; (with_reducible refine (cP _).mono ?_); rintro e w1 ⟨rfl, hw⟩; replace hw := hw.symm; subst hw; clear cP))
    go_ret
    exact ⟨rfl, NtP.of hSH.out hbx.out.2⟩
set_option maxHeartbeats 4000000 in
theorem note_any_do (v : NInv h) (S : NtS w0 X B h oa oc) (x : Ev) {g : Nat} (hg : g < 6) (hx : x.go = (g : Int)) (i : Nat) (hi : i ≤ 256) (hs : spkN x = true) : Calls Try.prog 38 #[.pointer (some ⟨B, 0, none⟩), .agg x.cells.toArray, .int .i64 (i : Int)] X fun e w' => NotP w0 X B oa (noteP i h x) e w' := by
  have hSH : Hid (NtS w0 X B h oa oc) := S
  have hbx : Hid (BoxE (X.alloc (objE x)) X.heap.size x ∧ Below X.heap.size X (X.alloc (objE x))) := ⟨boxE_new X x, boxed _ _⟩
  have c6 := hbx.out.1.at 6 _ rfl
  have c3 := hbx.out.1.at 3 _ rfl
  have c0 := hbx.out.1.at 0 _ rfl
  have c5 := hbx.out.1.at 5 _ rfl
  have hiI : (i : Int) ≤ 256 := by omega
  have hr : (10 ≤ x.tag ∧ x.tag ≤ 53) ∧ (tagW x.tag == 1 || (tagW x.tag == 2 || (tagW x.tag == 3 && tagD x.tag == 5))) = true ∧ (x.op == 65) = true := by
    have hs' := hs
    unfold spkN at hs'
    simp only [Bool.and_eq_true, decide_eq_true_eq] at hs'
    exact ⟨⟨hs'.2.1, hs'.2.2.1⟩, hs'.2.2.2, hs'.1⟩
  have cP : ∀ wx, Calls Try.prog 54 #[.int .i64 x.tag] wx _ := fun wx => parts_in x.tag wx hr.1.1 hr.1.2
  rw [hr.2.1] at cP
  have hop : (x.op != 65) = false := by rw [bne, hr.2.2]; rfl
  rw [hx] at c0
  by_cases hw : tagW x.tag = 1
  · have cB := note_begin v S x hg hx i hs hw _ hbx.out.2
    have hw1 : (tagW x.tag == 1) = true := by rw [hw]; rfl
    clear v S hg hx hs hr hw hi
    generalize tagD x.tag = d at *
    generalize tagW x.tag = ww at *
    go_enter Try.func38, Try.ntmps38
    go_upto_region 1 with fail
    change Code.wp _ _ _ _ (X.alloc (objE x))
    go_wp2_with (first
      | (go_at_call 54; (with_reducible refine (cP _).mono ?_); rintro e w1 ⟨rfl, hw⟩; replace hw := hw.symm; subst hw; clear cP)
      | (go_at_call 55; (with_reducible refine cB.mono ?_); intro e w2 hq; (obtain ⟨bb, rfl⟩ : ∃ bb, e = .returned (.bool bb) := by (unfold NotP at hq; split at hq <;> exact ⟨_, hq.1⟩)); (have hqH : Hid (NotP w0 X B oa (noteP i h x) (.returned (.bool bb)) w2) := hq); clear hq cB))
    go_ret
    exact hqH.out
  · have cE := note_end v S x hg hx i hs hw _ hbx.out.2
    have hw1 : (tagW x.tag == 1) = false := by rw [beq_eq_false_iff_ne]; exact hw
    clear v S hg hx hs hr hw hi
    generalize tagD x.tag = d at *
    generalize tagW x.tag = ww at *
    go_enter Try.func38, Try.ntmps38
    go_upto_region 1 with fail
    change Code.wp _ _ _ _ (X.alloc (objE x))
    go_wp2_with (first
      | (go_at_call 54; (with_reducible refine (cP _).mono ?_); rintro e w1 ⟨rfl, hw⟩; replace hw := hw.symm; subst hw; clear cP)
      | (go_at_call 56; (with_reducible refine cE.mono ?_); intro e w2 hq; (obtain ⟨bb, rfl⟩ : ∃ bb, e = .returned (.bool bb) := by (unfold NotP at hq; split at hq <;> exact ⟨_, hq.1⟩)); (have hqH : Hid (NotP w0 X B oa (noteP i h x) (.returned (.bool bb)) w2) := hq); clear hq cE))
    go_ret
    exact hqH.out
theorem note_anyN (v : NInv h) (S : NtS w0 X B h oa oc) (x : Ev) {g : Nat} (hg : g < 6) (hx : x.go = (g : Int)) (i : Nat) (hi : i ≤ 256) : Calls Try.prog 38 #[.pointer (some ⟨B, 0, none⟩), .agg x.cells.toArray, .int .i64 (i : Int)] X fun e w' => NotP w0 X B oa (noteP i h x) e w' := by
  cases hs : spkN x with
  | false => exact note_any_skip S x i hs
  | true => exact note_any_do v S x hg hx i hi hs
end
end Go.Proofs.Ytklpifammbnldaa.pg
