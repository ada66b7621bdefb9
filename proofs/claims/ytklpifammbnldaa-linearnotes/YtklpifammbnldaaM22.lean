/- Sets of places: whether one has all of another; the places of operations that are not pending. -/
import Derived.Test.YtklpifammbnldaaM10
import Derived.Test.YtklpifammbnldaaM21
import Derived.Test.YtklpifammbnldaaM2
import Derived.Test.YtklpifammbnldaaM1
namespace Go.Proofs.Ytklpifammbnldaa.pg
open Go.ChangeShapes Go.WideShapes Go.ChangeAt Go.RowKit
set_option linter.unusedVariables false
set_option linter.unusedSimpArgs false
set_option maxRecDepth 100000
attribute [local go_sem ↓] Go.wp_at_zero Go.wp_at_succ
abbrev TP : TypeId := 101
abbrev oPl (f : Nat → Bool) : Obj := .cells (boolRow 8 f) TP
theorem row8_size (f : Nat → Bool) : (boolRow 8 f).size = 8 := by simp [boolRow]
theorem row8_one (f : Nat → Bool) : (boolRow 8 f).all (·.oneCell') = true := by
  rw [Array.all_eq_true]
  intro i hi
  simp [boolRow, Value.oneCell']
theorem infoP8 (f : Nat → Bool) : (Try.prog.info? 101).map (·.size) = some (boolRow 8 f).size := by rw [row8_size]; kernel_rfl
theorem zeroP8 : ∀ w, (zeroValue 101).run Try.prog w = .ok (.agg (boolRow 8 fun _ => false)) w := fun w => by kernel_rfl
theorem ixp8 (B k : Nat) (hk : k < 8) : ∀ wx, (Instr.indexAt 101 (.pointer (some ⟨B, 0, none⟩)) (.int .i64 (k : Int))).run Try.prog wx = .ok (.pointer (some ⟨B, k, none⟩)) wx := fun wx => by
  have u := Try.underlying101
  have z := Try.sizeOf4
  have h8 : k = 0 ∨ k = 1 ∨ k = 2 ∨ k = 3 ∨ k = 4 ∨ k = 5 ∨ k = 6 ∨ k = 7 := by omega
  rcases h8 with rfl | rfl | rfl | rfl | rfl | rfl | rfl | rfl
  all_goals simp [Instr.indexAt, run_underlying u, asIntOf, go_sem, z]
theorem ixv8 (f : Nat → Bool) (k : Nat) (hk : k < 8) : ∀ wx, (Instr.index 101 (.agg (boolRow 8 f)) (.int .i64 (k : Int))).run Try.prog wx = .ok (.bool (f k)) wx := fun wx => by
  have u := Try.underlying101
  have z := Try.sizeOf4
  have h8 : k = 0 ∨ k = 1 ∨ k = 2 ∨ k = 3 ∨ k = 4 ∨ k = 5 ∨ k = 6 ∨ k = 7 := by omega
  rcases h8 with rfl | rfl | rfl | rfl | rfl | rfl | rfl | rfl
  all_goals first | rfl | simp [Instr.index, run_underlying u, asIntOf, go_sem, z, boolRow] | (simp only []; kernel_rfl)
/-- Has the first set all of the second one? -/
def hasB (s o : Nat → Bool) : Bool := (List.range 8).all fun i => !o i || s i
theorem hasB_no {s o : Nat → Bool} {i : Nat} (hi : i < 8) (h1 : o i = true) (h2 : s i = false) : hasB s o = false := by
  rw [Bool.eq_false_iff]
  intro q
  have := List.all_eq_true.mp q i (List.mem_range.mpr hi)
  rw [h1, h2] at this
  simp at this
theorem hasB_yes {s o : Nat → Bool} (h : ∀ i, i < 8 → o i = true → s i = true) : hasB s o = true := by
  unfold hasB
  rw [List.all_eq_true]
  intro i hi
  cases ho : o i with
  | false => rfl
  | true => rw [h i (List.mem_range.mp hi) ho]; rfl
set_option maxHeartbeats 2000000 in
theorem has_any8 (s t : Nat → Bool) (w : World) : Calls Try.prog 66 #[.agg (boolRow 8 s), .agg (boolRow 8 t)] w fun e w' => e = .returned (.bool (hasB s t)) ∧ Below w.heap.size w w' := by
  have huP : Hid (Try.prog.underlying 101 = _) := Try.underlying101
  have n2 := heap_alloc_new (w.alloc (oPl s)) (oPl t)
  rw [World.size_alloc] at n2
  have s0 : Hid (((w.alloc (oPl s)).alloc (oPl t)).heap[w.heap.size]? = some (oPl s) ∧ ((w.alloc (oPl s)).alloc (oPl t)).heap[w.heap.size + 1]? = some (oPl t) ∧ Below w.heap.size w ((w.alloc (oPl s)).alloc (oPl t))) := ⟨blk_on (heap_alloc_new _ _) (boxed _ _), n2, bthen (boxed _ _) (boxed _ _)⟩
  clear n2
  go_enter Try.func66, Try.ntmps66
  go_upto_region 1 with fail
  generalize (w.alloc (oPl s)).alloc (oPl t) = W at *
  go_wp2_with ((with_reducible refine at_loadL 101 (.tmp 3) rfl ?_); refine stopL_out ?_; refine wpList_load_row rfl 101 _ rfl (w.heap.size + 1) rfl _ _ _ _ s0.out.2.1 huP.out rfl (infoP8 t) ?_)
  go_loopw [8] (fun u wr => ∃ i : Nat, i ≤ 8 ∧ u = .int .i64 (i : Int) ∧ Hid (wr = W ∧ ∀ j, j < i → t j = true → s j = true)) (fun u _ => 8 - (intOf u).toNat)
  case atStart => exact ⟨0, by omega, rfl, rfl, fun j h => by omega⟩
  case round =>
    obtain ⟨i, hi, rfl, hs⟩ := hrel
    obtain ⟨hw, hall⟩ := hs.out
    subst hw
    clear hs
    have hallH : Hid (∀ j, j < i → t j = true → s j = true) := hall
    clear hall
    by_cases hlt : i < 8
    · have hiI : (i : Int) < 8 := by omega
      have xv := ixv8 t i hlt
      have xs := ixp8 w.heap.size i hlt
      have cs : wr.cell? ⟨w.heap.size, i, none⟩ = some (.bool (s i)) := cell_lc s0.out.1 (boolRow_at hlt)
      have hnx : Hid ((t i = true → s i = true) → ∀ j, j < i + 1 → t j = true → s j = true) := fun q j hj => by
        by_cases e : j = i
        · subst e; exact q
        · exact hallH.out j (by omega)
      have hno : Hid (t i = true → s i = false → hasB s t = false) := hasB_no hlt
      obtain ⟨a, ha⟩ : ∃ a, t i = a := ⟨_, rfl⟩
      obtain ⟨b, hb⟩ : ∃ b, s i = b := ⟨_, rfl⟩
      rw [ha] at xv hnx hno
      rw [hb] at cs hnx hno
      clear ha hb hallH
      cases a with
      | false =>
        have hn2 : Hid _ := hnx.out (by simp)
        clear hnx hno cs xs
        go_wp2
        go_roundw
        case rel => first | exact ⟨i + 1, by omega, by go_num, rfl, hn2.out⟩ | exact ⟨i + 1, by omega, by go_num, trivial, hn2.out⟩ | exact ⟨i + 1, by omega, by go_num, by simp, hn2.out⟩
        case measure => simp [intOf]; omega
      | true =>
        cases b with
        | true =>
          have hn2 : Hid _ := hnx.out (by simp)
          clear hnx hno
          go_wp2
          go_roundw
          case rel => first | exact ⟨i + 1, by omega, by go_num, rfl, hn2.out⟩ | exact ⟨i + 1, by omega, by go_num, trivial, hn2.out⟩ | exact ⟨i + 1, by omega, by go_num, by simp, hn2.out⟩
          case measure => simp [intOf]; omega
        | false =>
          have hR : Hid (hasB s t = false) := hno.out rfl rfl
          clear hnx hno
          go_wp2
          go_ret
          exact ⟨by rw [hR.out]; rfl, s0.out.2.2⟩
    · have hie : i = 8 := by omega
      subst hie
      have hR : Hid (hasB s t = true) := hasB_yes hallH.out
      clear hallH
      go_wp2
      go_ret
      exact ⟨by rw [hR.out]; rfl, s0.out.2.2⟩
/-- The places of the first k operations that are not pending. -/
def lastK (h : List Cl) (k : Nat) (b : Nat) : Bool := decide (b < k) && (decide (b < h.length) && !(hf h b).pend)
/-- How lasting stands. -/
structure LaS (w W : World) (f : Nat → Bool) : Prop where
  r : W.heap[w.heap.size]? = some (oPl fun _ => false)
  s : W.heap[w.heap.size + 1]? = some (oPl f)
  b : Below w.heap.size w W
theorem LaS.later {w W W' : World} {f : Nat → Bool} (h : LaS w W f) (hb : Below W.heap.size W W') : LaS w W' f := ⟨blk_on h.r hb, blk_on h.s hb, bthen h.b hb⟩
theorem LaS.congr {w W : World} {f g : Nat → Bool} (h : LaS w W f) (e : f = g) : LaS w W g := e ▸ h
set_option maxHeartbeats 2000000 in
theorem lasting_any (h : List Cl) (ha : Option Addr) (hc : Nat) (w : World) (hh : Rows w 7 ha hc (h.map Cl.cells)) (hn : h.length ≤ 8) : Calls Try.prog 45 #[.slice ha h.length hc] w fun e w' => e = .returned (.agg (boolRow 8 (lastK h h.length))) ∧ Below w.heap.size w w' := by
  have huP : Hid (Try.prog.underlying 101 = _) := Try.underlying101
  have huX : Hid (Try.prog.underlying 53 = _) := Try.underlying53
  have hhH : Hid (Rows w 7 ha hc (h.map Cl.cells)) := hh
  have hnI : (h.length : Int) ≤ 8 := by omega
  have n2 := heap_alloc_new (w.alloc (oPl fun _ => false)) (oPl fun _ => false)
  rw [World.size_alloc] at n2
  have e0 : (fun _ => false) = lastK h 0 := by funext b; unfold lastK; simp
  have s0 : Hid (LaS w ((w.alloc (oPl fun _ => false)).alloc (oPl fun _ => false)) (lastK h 0)) := by (rw [← e0]; exact ⟨blk_on (heap_alloc_new _ _) (boxed _ _), n2, bthen (boxed _ _) (boxed _ _)⟩)
  clear hh n2 e0
  go_enter Try.func45, Try.ntmps45
  go_wp2_with (refine wpList_alloc_big rfl 101 rfl zeroP8 ?_)
  generalize (w.alloc (oPl fun _ => false)).alloc (oPl fun _ => false) = W at *
  go_loopw [8] (fun u wr => ∃ i : Nat, i ≤ h.length ∧ u = .int .i64 (i : Int) ∧ Hid (LaS w wr (lastK h i))) (fun u _ => h.length - (intOf u).toNat)
  case atStart => exact ⟨0, Nat.zero_le _, rfl, s0⟩
  case round =>
    obtain ⟨i, hi, rfl, st⟩ := hrel
    clear s0
    by_cases hlt : i < h.length
    · have hiI : (i : Int) < h.length := by omega
      obtain ⟨b1, o1, x1, _, r1⟩ := cl_ix (hhH.out.later st.out.b) hlt
      have hstep : Hid ((fun b => if b = i then !(hf h i).pend else lastK h i b) = lastK h (i + 1)) := by
        show _ = _
        funext b
        unfold lastK
        by_cases e : b = i
        · subst e; rw [if_pos rfl]; simp [hlt]
        · rw [if_neg e]
          have : decide (b < i + 1) = decide (b < i) := by (by_cases q : b < i <;> simp [q] <;> omega)
          rw [this]
      have cP : ∀ wx, Calls Try.prog 47 #[(hf h i).val] wx _ := fun wx => pend_any (hf h i) wx
      generalize hf h i = x at *
      have r1H : Hid (wr.rangeAt b1 o1 [.int .i64 x.go, .int .i64 x.d, .int .i64 x.inn, .int .i64 x.out, .bool x.em, .int .i64 x.bg, .int .i64 x.en]) := r1
      have xs := ixp8 (w.heap.size + 1) i (by omega)
      have st1 : Hid (LaS w (wr.alloc (oCl x)) (lastK h i)) := st.out.later (boxed _ _)
      obtain ⟨k0, k1, k2, k3, k4, k5, k6⟩ := cl7 (heap_alloc_new wr (oCl x))
      clear r1 st
      generalize x.pend = p at *
      go_wp2_with (first
        | ((with_reducible refine at_loadL 53 (.tmp 11) rfl ?_); refine stopL_out ?_; refine wpList_load_mid rfl 53 _ rfl b1 o1 rfl [.int .i64 x.go, .int .i64 x.d, .int .i64 x.inn, .int .i64 x.out, .bool x.em, .int .i64 x.bg, .int .i64 x.en] _ r1H.out huX.out rfl infoX ?_)
        | (go_at_call 47; (with_reducible refine (cP _).mono ?_); rintro e w1 ⟨rfl, hb1⟩; (have st2 : Hid (LaS w w1 (lastK h i)) := st1.out.later hb1); clear hb1 k0 k1 k2 k3 k4 k5 k6)
        | (refine wpList_putb rfl 4 _ _ rfl ⟨w.heap.size + 1, i, none⟩ rfl (!p) rfl (by kernel_rfl) _ (cell_lc st2.out.s (boolRow_at (by omega))) (frozen_of_row _ _ _ _ _ st2.out.s) fun W' hW' => ?_; (have st3 : Hid (LaS w W' (lastK h (i + 1))) := by (rw [hW', ← hstep.out, setCell_eq_setRow w1 (w.heap.size + 1) i _ _ _ _ st2.out.s, boolRow_set]; exact ⟨(setRow_other _ _ _ _ (by omega)).trans st2.out.r, setRow_heap _ _ _ _ _ _ st2.out.s, below_setRow st2.out.b (by omega) _⟩)); clear hW'))
      go_roundw
      case rel => exact ⟨i + 1, by omega, by go_num, st3⟩
      case measure => simp [intOf]; omega
    · have hie : i = h.length := by omega
      subst hie
      have hiI : ¬ (h.length : Int) < h.length := by omega
      go_wp2_with (first
        | ((with_reducible refine at_loadL 101 (.tmp 3) rfl ?_); refine stopL_out ?_; refine wpList_load_row rfl 101 _ rfl (w.heap.size + 1) rfl _ _ _ _ st.out.s huP.out rfl (infoP8 _) ?_)
        | ((with_reducible refine at_storeL 101 (.tmp 2) _ rfl ?_); refine stopL_out ?_; refine wpList_store_row rfl 101 _ _ rfl w.heap.size (boolRow 8 (lastK h h.length)) rfl rfl _ _ st.out.r (infoP8 _) (by rw [row8_size, row8_size]) (row8_one _) ?_))
      exact bodyPost_ret (results_cell_row Try.results45 _ _ w.heap.size 101 _ (0, 0) _ rfl (setRow_heap _ _ _ _ _ _ st.out.r) huP.out rfl (infoP8 _)) rfl ⟨rfl, below_setRow st.out.b (Nat.le_refl _) _⟩
end Go.Proofs.Ytklpifammbnldaa.pg
/- Whether a list is an order of a history. -/
namespace Go.Proofs.Ytklpifammbnldaa.pg
open Go.ChangeShapes Go.WideShapes Go.ChangeAt Go.RowKit
set_option linter.unusedVariables false
set_option linter.unusedSimpArgs false
set_option maxRecDepth 100000
attribute [local go_sem ↓] Go.wp_at_zero Go.wp_at_succ
/-- The places that a list has. -/
def inL (o : List Int) (b : Nat) : Bool := decide ((b : Int) ∈ o)
/-- The list has places of the first n alone, no place twice. -/
def OrdP (n : Nat) (o : List Int) : Prop := o.Nodup ∧ ∀ x ∈ o, 0 ≤ x ∧ x < n
instance (n : Nat) (o : List Int) : Decidable (OrdP n o) := by unfold OrdP; infer_instance
/-- Is the list an order of the history? -/
def isOrdB (h : List Cl) (o : List Int) : Bool := decide (OrdP h.length o) && hasB (inL o) (lastK h h.length)
theorem ordP_take_succ {n : Nat} {o : List Int} {k : Nat} {x : Int} (hx : o[k]? = some x) (h : OrdP n (o.take k)) (h0 : 0 ≤ x) (h1 : x < n) (h2 : x ∉ o.take k) : OrdP n (o.take (k + 1)) := by
  have e : o.take (k + 1) = o.take k ++ [x] := by rw [List.take_add_one, hx]; rfl
  rw [e]
  refine ⟨List.nodup_append.mpr ⟨h.1, by simp, ?_⟩, ?_⟩
  · intro a ha b hb
    simp at hb
    subst hb
    intro q
    subst q
    exact h2 ha
  · intro y hy
    rcases List.mem_append.mp hy with q | q
    · exact h.2 y q
    · simp at q
      subst q
      exact ⟨h0, h1⟩
theorem ordP_no {n : Nat} {o : List Int} {k : Nat} {x : Int} (hx : o[k]? = some x) (h : x < 0 ∨ (n : Int) ≤ x ∨ x ∈ o.take k) : ¬ OrdP n o := by
  intro q
  have hm : x ∈ o := List.mem_of_getElem? hx
  have := q.2 x hm
  rcases h with h | h | h
  · omega
  · omega
  · have e : o.take (k + 1) = o.take k ++ [x] := by rw [List.take_add_one, hx]; rfl
    have hs : (o.take (k + 1)).Nodup := q.1.sublist (List.take_sublist _ _)
    rw [e] at hs
    exact (List.nodup_append.mp hs).2.2 x h x (by simp) rfl
theorem inL_step {o : List Int} {k p : Nat} (hx : o[k]? = some (p : Int)) : (fun b => if b = p then true else inL (o.take k) b) = inL (o.take (k + 1)) := by
  have e : o.take (k + 1) = o.take k ++ [(p : Int)] := by rw [List.take_add_one, hx]; rfl
  funext b
  unfold inL
  rw [e]
  by_cases q : b = p
  · subst q; simp
  · rw [if_neg q]
    have : ((b : Int) ∈ o.take k ++ [(p : Int)]) ↔ (b : Int) ∈ o.take k := by
      simp
      omega
    simp only [this]
/-- How isOrder stands. -/
structure IoS (w W : World) (f : Nat → Bool) : Prop where
  s : W.heap[w.heap.size]? = some (oPl f)
  b : Below w.heap.size w W
theorem IoS.later {w W W' : World} {f : Nat → Bool} (h : IoS w W f) (hb : Below W.heap.size W W') : IoS w W' f := ⟨blk_on h.s hb, bthen h.b hb⟩
theorem io_cells {W : World} {B : Nat} {f : Nat → Bool} (h : W.heap[B]? = some (oPl f)) : W.cell? ⟨B, 0, none⟩ = some (.bool (f 0)) ∧ W.cell? ⟨B, 1, none⟩ = some (.bool (f 1)) ∧ W.cell? ⟨B, 2, none⟩ = some (.bool (f 2)) ∧ W.cell? ⟨B, 3, none⟩ = some (.bool (f 3)) ∧ W.cell? ⟨B, 4, none⟩ = some (.bool (f 4)) ∧ W.cell? ⟨B, 5, none⟩ = some (.bool (f 5)) ∧ W.cell? ⟨B, 6, none⟩ = some (.bool (f 6)) ∧ W.cell? ⟨B, 7, none⟩ = some (.bool (f 7)) :=
  ⟨cell_lc h (boolRow_at (by decide)), cell_lc h (boolRow_at (by decide)), cell_lc h (boolRow_at (by decide)), cell_lc h (boolRow_at (by decide)), cell_lc h (boolRow_at (by decide)), cell_lc h (boolRow_at (by decide)), cell_lc h (boolRow_at (by decide)), cell_lc h (boolRow_at (by decide))⟩
set_option maxHeartbeats 2000000 in
theorem isOrder_any (h : List Cl) (ha : Option Addr) (hc : Nat) (o : List Int) (oa : Option Addr) (oc : Nat) (w : World) (hh : Rows w 7 ha hc (h.map Cl.cells)) (ho : Rows w 1 oa oc (o.map chCells)) (hn : h.length ≤ 8) (hol : o.length < 2 ^ 62) : Calls Try.prog 51 #[.slice ha h.length hc, .slice oa o.length oc] w fun e w' => e = .returned (.bool (isOrdB h o)) ∧ Below w.heap.size w w' := by
  have huP : Hid (Try.prog.underlying 101 = _) := Try.underlying101
  have hhH : Hid (Rows w 7 ha hc (h.map Cl.cells)) := hh
  have hoH : Hid (Rows w 1 oa oc (o.map chCells)) := ho
  have hnI : (h.length : Int) ≤ 8 := by omega
  have e0 : (fun _ => false) = inL (o.take 0) := by funext b; unfold inL; simp
  have s0 : Hid (IoS w (w.alloc (oPl fun _ => false)) (inL (o.take 0))) := by (rw [← e0]; exact ⟨heap_alloc_new _ _, boxed _ _⟩)
  clear hh ho e0
  go_enter Try.func51, Try.ntmps51
  go_wp2_with (refine wpList_alloc_big rfl 101 rfl zeroP8 ?_)
  generalize w.alloc (oPl fun _ => false) = W at *
  go_loopw [10] (fun u wr => ∃ i : Nat, i ≤ o.length ∧ u = .int .i64 (i : Int) ∧ Hid (IoS w wr (inL (o.take i)) ∧ OrdP h.length (o.take i))) (fun u _ => o.length - (intOf u).toNat)
  case atStart => exact ⟨0, Nat.zero_le _, rfl, s0.out, by simp [OrdP]⟩
  case round =>
    obtain ⟨i, hi, rfl, st⟩ := hrel
    clear s0
    by_cases hlt : i < o.length
    · have hiI : (i : Int) < o.length := by omega
      obtain ⟨x, hx⟩ : ∃ x, o[i]? = some x := ⟨_, List.getElem?_eq_getElem hlt⟩
      obtain ⟨b1, o1, x1, _, c1⟩ := ch_ix (hoH.out.later st.out.1.b) i x hx
      by_cases h0 : x < 0
      · have hR : Hid (isOrdB h o = false) := by (show _ = _; unfold isOrdB; rw [decide_eq_false (ordP_no hx (.inl h0))]; rfl)
        have hb : Hid (Below w.heap.size w wr) := st.out.1.b
        clear st hx
        go_wp2
        go_ret
        exact ⟨by rw [hR.out]; rfl, hb.out⟩
      · by_cases h1 : (h.length : Int) ≤ x
        · have hR : Hid (isOrdB h o = false) := by (show _ = _; unfold isOrdB; rw [decide_eq_false (ordP_no hx (.inr (.inl h1)))]; rfl)
          have hb : Hid (Below w.heap.size w wr) := st.out.1.b
          clear st hx
          go_wp2
          go_ret
          exact ⟨by rw [hR.out]; rfl, hb.out⟩
        · obtain ⟨p, rfl⟩ : ∃ p : Nat, x = (p : Int) := ⟨x.toNat, by omega⟩
          have hp : p < 8 := by omega
          have xs := ixp8 w.heap.size p hp
          have cs : wr.cell? ⟨w.heap.size, p, none⟩ = some (.bool (inL (o.take i) p)) := cell_lc st.out.1.s (boolRow_at hp)
          by_cases h2 : (p : Int) ∈ o.take i
          · have hR : Hid (isOrdB h o = false) := by (show _ = _; unfold isOrdB; rw [decide_eq_false (ordP_no hx (.inr (.inr h2)))]; rfl)
            have hb : Hid (Below w.heap.size w wr) := st.out.1.b
            have hi2 : inL (o.take i) p = true := by (unfold inL; exact decide_eq_true h2)
            rw [hi2] at cs
            clear st hx hi2 h2
            go_wp2
            go_ret
            exact ⟨by rw [hR.out]; rfl, hb.out⟩
          · have hi2 : inL (o.take i) p = false := by (unfold inL; exact decide_eq_false h2)
            rw [hi2] at cs
            have hO : Hid (OrdP h.length (o.take (i + 1))) := ordP_take_succ hx st.out.2 (by omega) (by omega) h2
            have hE : Hid (_ = inL (o.take (i + 1))) := inL_step hx
            have sH : Hid (IoS w wr (inL (o.take i))) := st.out.1
            clear st hx hi2 h2
            go_wp2_with (refine wpList_putb rfl 4 _ _ rfl ⟨w.heap.size, p, none⟩ rfl true rfl (by kernel_rfl) _ cs (frozen_of_row _ _ _ _ _ sH.out.s) fun W' hW' => ?_; (have st3 : Hid (IoS w W' (inL (o.take (i + 1)))) := by (rw [hW', ← hE.out, setCell_eq_setRow wr w.heap.size p _ _ _ _ sH.out.s, boolRow_set]; exact ⟨setRow_heap _ _ _ _ _ _ sH.out.s, below_setRow sH.out.b (Nat.le_refl _) _⟩)); clear hW' cs)
            go_roundw
            case rel => exact ⟨i + 1, by omega, by go_num, st3.out, hO.out⟩
            case measure => simp [intOf]; omega
    · have hie : i = o.length := by omega
      subst hie
      have hiI : ¬ (o.length : Int) < o.length := by omega
      have hR : Hid (isOrdB h o = hasB (inL o) (lastK h h.length)) := by
        have q := st.out.2
        rw [List.take_length] at q
        show _ = _
        unfold isOrdB
        rw [decide_eq_true q]; rfl
      have sH : Hid (IoS w wr (inL o)) := by
        have q := st.out.1
        rw [List.take_length] at q
        exact q
      have cL : ∀ wx, Below wr.heap.size wr wx → Calls Try.prog 45 #[.slice ha h.length hc] wx _ := fun wx hb => lasting_any h ha hc wx (hhH.out.later (bthen sH.out.b hb)) hn
      have cH : ∀ wx, Calls Try.prog 66 #[.agg #[.bool (inL o 0), .bool (inL o 1), .bool (inL o 2), .bool (inL o 3), .bool (inL o 4), .bool (inL o 5), .bool (inL o 6), .bool (inL o 7)], .agg (boolRow 8 (lastK h h.length))] wx _ := fun wx => has_any8 (inL o) _ wx
      have b0 : Hid (Below wr.heap.size wr wr) := Below.refl _ _
      clear st
      obtain ⟨c0, c1, c2, c3, c4, c5, c6, c7⟩ := io_cells sH.out.s
      go_wp2
      go_region_with (first
        | (go_at_call 45; (with_reducible refine (cL _ (by repeat (first | exact b0.out | refine Below.drew ?_))).mono ?_); rintro e w1 ⟨rfl, hb1'⟩; (have hb1 : Hid (Below wr.heap.size wr w1) := bthen (by repeat (first | exact b0.out | refine Below.drew ?_)) hb1'); obtain ⟨d0, d1, d2, d3, d4, d5, d6, d7⟩ := io_cells (blk_on sH.out.s hb1.out); clear hb1')
        | (go_at_call 66; (with_reducible refine (cH _).mono ?_); rintro e w2 ⟨rfl, hb2'⟩; (have hb2 : Hid (Below w1.heap.size w1 w2) := bthen (by repeat (first | exact Below.refl _ _ | refine Below.drew ?_)) hb2'); clear hb2'))
      all_goals (go_wp2; go_ret; exact ⟨by rw [hR.out]; rfl, bthen (bthen sH.out.b hb1.out) hb2.out⟩)
end Go.Proofs.Ytklpifammbnldaa.pg
/- What the first order is: it fits, it keeps the relation, and where there is none, no order does both. Plain mathematics. -/
namespace Go.Proofs.Ytklpifammbnldaa.pg
open Go.RowKit
set_option linter.unusedVariables false
/-- A list of places that can be done one behind the other, and behind which all that are not pending are done. -/
def walkP (k : Int) (rel : Cl → Cl → Bool) (h : List Cl) : (Nat → Bool) → List Int → List Nat → Prop
  | f, _, [] => wholeB h f = true
  | f, c, i :: r => i < h.length ∧ mayB rel h f i = true ∧ fitC k c (hf h i) = true ∧ walkP k rel h (setD f i) (nxtC k c (hf h i)) r
theorem firstOf_some {g : Nat → Option (List Nat)} {n : Nat} : ∀ {m : Nat} {o : List Nat}, m ≤ n → firstOf g n m = some o → ∃ i r, o = i :: r ∧ i < n ∧ g i = some r
  | 0, o, _, h => by simp [firstOf] at h
  | m + 1, o, hm, h => by
    unfold firstOf at h
    cases hg : g (n - (m + 1)) with
    | some r => rw [hg] at h; exact ⟨_, r, (Option.some.inj h).symm, by omega, hg⟩
    | none => rw [hg] at h; exact firstOf_some (by omega) h
theorem firstOf_none {g : Nat → Option (List Nat)} {n : Nat} : ∀ {m : Nat}, m ≤ n → firstOf g n m = none → ∀ i, n - m ≤ i → i < n → g i = none
  | 0, _, _, i, h1, h2 => absurd h2 (by omega)
  | m + 1, hm, h, i, h1, h2 => by
    unfold firstOf at h
    cases hg : g (n - (m + 1)) with
    | some r => rw [hg] at h; simp at h
    | none =>
      rw [hg] at h
      by_cases e : i = n - (m + 1)
      · rw [e]; exact hg
      · exact firstOf_none (by omega) h i (by omega) h2
theorem fst0_sound {k : Int} {rel : Cl → Cl → Bool} {h : List Cl} : ∀ {m : Nat} {f : Nat → Bool} {c : List Int} {o : List Nat}, fst0 k rel h m f c = some o → walkP k rel h f c o
  | 0, f, c, o, q => by
    unfold fst0 at q
    split at q
    · rename_i hw
      cases Option.some.inj q
      exact hw
    · cases q
  | m + 1, f, c, o, q => by
    unfold fst0 at q
    split at q
    · rename_i hw
      cases Option.some.inj q
      exact hw
    · obtain ⟨i, r, rfl, hi, hg⟩ := firstOf_some (Nat.le_refl _) q
      split at hg
      · rename_i hc
        rw [Bool.and_eq_true] at hc
        exact ⟨hi, hc.1, hc.2, fst0_sound hg⟩
      · cases hg
theorem fst0_none {k : Int} {rel : Cl → Cl → Bool} {h : List Cl} : ∀ {m : Nat} {f : Nat → Bool} {c : List Int}, fst0 k rel h m f c = none → ∀ o : List Nat, o.length ≤ m → ¬ walkP k rel h f c o
  | 0, f, c, q, o, ho => by
    have : o = [] := List.length_eq_zero_iff.mp (by omega)
    subst this
    intro hw
    rw [fst0_whole hw] at q
    cases q
  | m + 1, f, c, q, [], ho => by
    intro hw
    rw [fst0_whole hw] at q
    cases q
  | m + 1, f, c, q, i :: r, ho => by
    rintro ⟨hi, h1, h2, h3⟩
    unfold fst0 at q
    split at q
    · cases q
    · have hg := firstOf_none (Nat.le_refl _) q i (by omega) hi
      rw [if_pos (by rw [h1, h2]; rfl)] at hg
      exact fst0_none hg r (by simp at ho; omega) h3
theorem mayB_at {rel : Cl → Cl → Bool} {h : List Cl} {f : Nat → Bool} {i : Nat} (q : mayB rel h f i = true) : f i = false ∧ ∀ j, j < h.length → rel (hf h j) (hf h i) = true → f j = true := by
  unfold mayB at q
  rw [Bool.and_eq_true, List.all_eq_true] at q
  refine ⟨by simpa using q.1, fun j hj hr => ?_⟩
  have := q.2 j (List.mem_range.mpr hj)
  rw [hr] at this
  simpa using this
theorem mayB_of {rel : Cl → Cl → Bool} {h : List Cl} {f : Nat → Bool} {i : Nat} (h1 : f i = false) (h2 : ∀ j, j < h.length → rel (hf h j) (hf h i) = true → f j = true) : mayB rel h f i = true := by
  unfold mayB
  rw [h1, Bool.and_eq_true, List.all_eq_true]
  refine ⟨rfl, fun j hj => ?_⟩
  cases hr : rel (hf h j) (hf h i) with
  | false => rfl
  | true => rw [h2 j (List.mem_range.mp hj) hr]; rfl
theorem setD_no {f : Nat → Bool} {i x : Nat} (q : setD f i x = false) : f x = false ∧ x ≠ i := by
  unfold setD at q
  split at q
  · cases q
  · rename_i e
    exact ⟨q, e⟩
/-- Its places are places of the history, none done ahead of it. -/
theorem walkP_mem {k : Int} {rel : Cl → Cl → Bool} {h : List Cl} : ∀ {o : List Nat} {f : Nat → Bool} {c : List Int}, walkP k rel h f c o → ∀ x ∈ o, x < h.length ∧ f x = false
  | [], f, c, q, x, hx => by cases hx
  | i :: r, f, c, q, x, hx => by
    obtain ⟨h1, h2, h3, h4⟩ := q
    rcases List.mem_cons.mp hx with rfl | hx
    · exact ⟨h1, (mayB_at h2).1⟩
    · have := walkP_mem h4 x hx
      exact ⟨this.1, (setD_no this.2).1⟩
/-- No place is in it twice. -/
theorem walkP_nodup {k : Int} {rel : Cl → Cl → Bool} {h : List Cl} : ∀ {o : List Nat} {f : Nat → Bool} {c : List Int}, walkP k rel h f c o → o.Nodup
  | [], f, c, q => List.nodup_nil
  | i :: r, f, c, q => by
    obtain ⟨h1, h2, h3, h4⟩ := q
    exact List.nodup_cons.mpr ⟨fun hm => (setD_no (walkP_mem h4 i hm).2).2 rfl, walkP_nodup h4⟩
/-- No two of it stand the other way round than the relation asks. -/
theorem walkP_keeps {k : Int} {rel : Cl → Cl → Bool} {h : List Cl} : ∀ {o : List Nat} {f : Nat → Bool} {c : List Int}, walkP k rel h f c o → o.Pairwise fun a b => rel (hf h b) (hf h a) = false
  | [], f, c, q => List.Pairwise.nil
  | i :: r, f, c, q => by
    obtain ⟨h1, h2, h3, h4⟩ := q
    refine List.pairwise_cons.mpr ⟨fun b hb => ?_, walkP_keeps h4⟩
    have hm := walkP_mem h4 b hb
    cases hr : rel (hf h b) (hf h i) with
    | false => rfl
    | true => have q := (setD_no hm.2).1; rw [(mayB_at h2).2 b hm.1 hr] at q; cases q
/-- All that are not pending are in it, or were done ahead of it. -/
theorem walkP_all {k : Int} {rel : Cl → Cl → Bool} {h : List Cl} : ∀ {o : List Nat} {f : Nat → Bool} {c : List Int}, walkP k rel h f c o → ∀ x, x < h.length → (hf h x).pend = false → f x = true ∨ x ∈ o
  | [], f, c, q, x, hx, hp => by
    have := List.all_eq_true.mp q x (List.mem_range.mpr hx)
    rw [hp] at this
    exact .inl (by simpa using this)
  | i :: r, f, c, q, x, hx, hp => by
    obtain ⟨h1, h2, h3, h4⟩ := q
    rcases walkP_all h4 x hx hp with e | e
    · by_cases ei : x = i
      · exact .inr (by rw [ei]; exact List.mem_cons_self)
      · unfold setD at e
        rw [if_neg ei] at e
        exact .inl e
    · exact .inr (List.mem_cons_of_mem _ e)
/-- What is in the thing behind some operations, and whether they all fit. -/
def runC (k : Int) (h : List Cl) : List Int → List Nat → List Int × Bool
  | c, [] => (c, true)
  | c, i :: r => let q := runC k h (nxtC k c (hf h i)) r; (q.1, fitC k c (hf h i) && q.2)
theorem walkP_fits {k : Int} {rel : Cl → Cl → Bool} {h : List Cl} : ∀ {o : List Nat} {f : Nat → Bool} {c : List Int}, walkP k rel h f c o → (runC k h c o).2 = true
  | [], f, c, q => rfl
  | i :: r, f, c, q => by
    obtain ⟨h1, h2, h3, h4⟩ := q
    show (fitC k c (hf h i) && (runC k h (nxtC k c (hf h i)) r).2) = true
    rw [h3, walkP_fits h4]; rfl
/-- An order that fits and keeps the relation can be done one behind the other. -/
theorem walkP_of {k : Int} {rel : Cl → Cl → Bool} {h : List Cl} (hrel : ∀ i j, i < h.length → j < h.length → rel (hf h i) (hf h j) = true → (hf h i).pend = false) (hirr : ∀ i, i < h.length → rel (hf h i) (hf h i) = false) : ∀ {o : List Nat} {f : Nat → Bool} {c : List Int}, (∀ x ∈ o, x < h.length ∧ f x = false) → o.Nodup → (o.Pairwise fun a b => rel (hf h b) (hf h a) = false) → (∀ x, x < h.length → (hf h x).pend = false → f x = true ∨ x ∈ o) → (runC k h c o).2 = true → walkP k rel h f c o
  | [], f, c, h1, h2, h3, h4, h5 => by
    show wholeB h f = true
    unfold wholeB
    rw [List.all_eq_true]
    intro x hx
    cases hp : (hf h x).pend with
    | true => rfl
    | false =>
      rcases h4 x (List.mem_range.mp hx) hp with e | e
      · rw [e]; rfl
      · cases e
  | i :: r, f, c, h1, h2, h3, h4, h5 => by
    have hi := h1 i List.mem_cons_self
    obtain ⟨n1, n2⟩ := List.nodup_cons.mp h2
    obtain ⟨p1, p2⟩ := List.pairwise_cons.mp h3
    have h5' : (fitC k c (hf h i) && (runC k h (nxtC k c (hf h i)) r).2) = true := h5
    rw [Bool.and_eq_true] at h5'
    refine ⟨hi.1, mayB_of hi.2 fun j hj hr => ?_, h5'.1, walkP_of hrel hirr (fun x hx => ?_) n2 p2 (fun x hx hp => ?_) h5'.2⟩
    · rcases h4 j hj (hrel _ _ hj hi.1 hr) with e | e
      · exact e
      · rcases List.mem_cons.mp e with rfl | e
        · rw [hirr _ hj] at hr; cases hr
        · rw [p1 j e] at hr; cases hr
    · have := h1 x (List.mem_cons_of_mem _ hx)
      refine ⟨this.1, ?_⟩
      unfold setD
      rw [if_neg (fun e : x = i => n1 (e ▸ hx))]
      exact this.2
    · rcases h4 x hx hp with e | e
      · left
        unfold setD
        split
        · rfl
        · exact e
      · rcases List.mem_cons.mp e with rfl | e
        · left; unfold setD; rw [if_pos rfl]
        · exact .inr e
theorem RightH.time {k : Int} {h : List Cl} (r : RightH k h) {i : Nat} (hi : i < h.length) : (hf h i).pend = true ∨ (hf h i).bg < (hf h i).en := by
  have q := (r.c _ (hf_mem hi)).2
  unfold rcB rtB at q
  simp only [Bool.and_eq_true, Bool.or_eq_true, decide_eq_true_eq] at q
  rcases q.1.2.2 with e | e
  · exact .inl e
  · exact .inr e.1
theorem end_pend {x y : Cl} (q : endB x y = true) : x.pend = false := by
  unfold endB at q
  rw [Bool.and_eq_true] at q
  simpa using q.1
theorem RightH.end_irr {k : Int} {h : List Cl} (r : RightH k h) {i : Nat} (hi : i < h.length) : endB (hf h i) (hf h i) = false := by
  unfold endB
  rcases r.time hi with e | e
  · rw [e]; rfl
  · rw [decide_eq_false (by omega)]; simp
theorem turn_irr (x : Cl) : turnB x x = false := by
  unfold turnB
  rw [decide_eq_false (by omega)]; simp
/-- What began earlier in the same goroutine ended ahead. -/
theorem RightH.turn_end {k : Int} {h : List Cl} (r : RightH k h) {i j : Nat} (hi : i < h.length) (hj : j < h.length) (q : turnB (hf h i) (hf h j) = true) : endB (hf h i) (hf h j) = true := by
  have hne : i ≠ j := fun e => by rw [e, turn_irr] at q; cases q
  have p := r.pair2 hne hi hj
  unfold turnB at q
  rw [Bool.and_eq_true, decide_eq_true_eq] at q
  unfold pairB at p
  rw [Bool.or_eq_false_iff, q.1, Bool.true_and, Bool.and_eq_false_iff] at p
  rcases p.2 with e | e
  · simpa using e
  · exfalso
    have e2 : endB (hf h j) (hf h i) = true := by simpa using e
    have e3 := end_pend e2
    unfold endB at e2
    rw [Bool.and_eq_true, decide_eq_true_eq] at e2
    rcases r.time hj with t | t
    · rw [t] at e3; cases e3
    · omega
/-- What keeps time keeps turns. -/
theorem RightH.keeps_turns {k : Int} {h : List Cl} (r : RightH k h) {o : List Nat} (hm : ∀ x ∈ o, x < h.length) (q : o.Pairwise fun a b => endB (hf h b) (hf h a) = false) : o.Pairwise fun a b => turnB (hf h b) (hf h a) = false := by
  refine List.Pairwise.imp_of_mem (fun {a b} ha hb e => ?_) q
  cases ht : turnB (hf h b) (hf h a) with
  | false => rfl
  | true => rw [r.turn_end (hm b hb) (hm a ha) ht] at e; cases e
theorem len_nodup : ∀ (n : Nat) (o : List Nat), o.Nodup → (∀ x ∈ o, x < n) → o.length ≤ n
  | 0, [], _, _ => Nat.le_refl _
  | 0, x :: r, _, h => absurd (h x List.mem_cons_self) (by omega)
  | n + 1, o, h1, h2 => by
    have q := len_nodup n (o.erase n) (h1.erase n) fun x hx => by
      have a := (List.Nodup.mem_erase_iff h1).mp hx
      have b := h2 x a.2
      have c := a.1
      omega
    rw [List.length_erase] at q
    split at q <;> omega
/-- None is told only where no order fits and keeps the relation. -/
theorem fsB_none {k : Int} {rel : Cl → Cl → Bool} {h : List Cl} (hrel : ∀ i j, i < h.length → j < h.length → rel (hf h i) (hf h j) = true → (hf h i).pend = false) (hirr : ∀ i, i < h.length → rel (hf h i) (hf h i) = false) {c : List Int} (q : fsB k rel h (fun _ => false) c = none) (o : List Nat) (h1 : ∀ x ∈ o, x < h.length) (h2 : o.Nodup) (h3 : o.Pairwise fun a b => rel (hf h b) (hf h a) = false) (h4 : ∀ x, x < h.length → (hf h x).pend = false → x ∈ o) : (runC k h c o).2 = false := by
  cases e : (runC k h c o).2 with
  | false => rfl
  | true =>
    have hl : o.length ≤ h.length := len_nodup _ _ h2 h1
    exact absurd (walkP_of hrel hirr (fun x hx => ⟨h1 x hx, rfl⟩) h2 h3 (fun x hx hp => .inr (h4 x hx hp)) e) (fst0_none q o hl)
/-- What is linearisable is sequentially consistent. -/
theorem fsB_both {k : Int} {h : List Cl} (r : RightH k h) {c : List Int} {o : List Nat} (q : fsB k endB h (fun _ => false) c = some o) : ∃ o', fsB k turnB h (fun _ => false) c = some o' := by
  cases e : fsB k turnB h (fun _ => false) c with
  | some o' => exact ⟨o', rfl⟩
  | none =>
    have w := fst0_sound q
    have hm : ∀ x ∈ o, x < h.length := fun x hx => (walkP_mem w x hx).1
    have := fsB_none (fun i j hi hj t => end_pend (r.turn_end hi hj t)) (fun i hi => turn_irr _) e o hm (walkP_nodup w) (r.keeps_turns hm (walkP_keeps w)) fun x hx hp => by
      rcases walkP_all w x hx hp with z | z
      · cases z
      · exact z
    rw [walkP_fits w] at this
    cases this
end Go.Proofs.Ytklpifammbnldaa.pg
