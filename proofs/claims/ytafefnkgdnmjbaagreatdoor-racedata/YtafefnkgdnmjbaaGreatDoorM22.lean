/- Sets of places: an array of truths; its places as a list. -/
import Derived.Test.YtafefnkgdnmjbaaGreatDoorM21
import Derived.Test.YtafefnkgdnmjbaaGreatDoorM9
import Derived.Test.YtafefnkgdnmjbaaGreatDoorM20
namespace Go.Proofs.YtafefnkgdnmjbaaGreatDoor.pg
open Go.ChangeShapes Go.WideShapes Go.ChangeAt Go.RowKit Go.Shelf
set_option linter.unusedVariables false
set_option linter.unusedSimpArgs false
set_option maxRecDepth 100000
attribute [local go_sem ↓] Go.wp_at_zero Go.wp_at_succ
theorem boolRow_size (n : Nat) (f : Nat → Bool) : (boolRow n f).size = n := by simp [boolRow]
theorem boolRow_one (n : Nat) (f : Nat → Bool) : (boolRow n f).all (·.oneCell') = true := by
  rw [Array.all_eq_true_iff_forall_mem]
  intro v hv
  simp only [boolRow, List.mem_toArray, List.mem_map] at hv
  obtain ⟨j, _, rfl⟩ := hv
  rfl
theorem infoSt (f : Nat → Bool) : (Tryz.prog.info? 142).map (·.size) = some (boolRow 256 f).size := by rw [boolRow_size]; kernel_rfl
theorem zeroSt : ∀ w, (zeroValue 142).run Tryz.prog w = .ok (.agg (boolRow 256 fun _ => false)) w := fun w => by kernel_rfl
/-- The places below n. -/
def lst (f : Nat → Bool) : Nat → List Int
  | 0 => []
  | n + 1 => lst f n ++ (if f n = true then [(n : Int)] else [])
theorem lst_len (f : Nat → Bool) : ∀ n, (lst f n).length ≤ n
  | 0 => Nat.le_refl _
  | n + 1 => by
    have := lst_len f n
    rw [lst, List.length_append]
    split <;> simp <;> omega
theorem lst_mem (f : Nat → Bool) (p : Int) : ∀ n, p ∈ lst f n ↔ ∃ k : Nat, k < n ∧ f k = true ∧ p = (k : Int)
  | 0 => by simp [lst]
  | n + 1 => by
    rw [lst, List.mem_append, lst_mem f p n]
    constructor
    · rintro (⟨k, h1, h2, h3⟩ | h)
      · exact ⟨k, by omega, h2, h3⟩
      · split at h
        · rename_i c
          simp at h
          exact ⟨n, by omega, c, h⟩
        · simp at h
    · rintro ⟨k, h1, h2, h3⟩
      by_cases c : k = n
      · subst c
        right
        rw [if_pos h2]
        simp [h3]
      · exact .inl ⟨k, by omega, h2, h3⟩
theorem lst_congr {f g : Nat → Bool} : ∀ n, (∀ k, k < n → f k = g k) → lst f n = lst g n
  | 0, _ => rfl
  | n + 1, h => by rw [lst, lst, lst_congr n fun k hk => h k (by omega), h n (by omega)]
theorem lst_cut {f : Nat → Bool} {m : Nat} : ∀ n, m ≤ n → (∀ k, m ≤ k → k < n → f k = false) → lst f n = lst f m
  | 0, h, _ => by have : m = 0 := by omega
                  subst this; rfl
  | n + 1, h, hf => by
    by_cases c : m = n + 1
    · rw [c]
    · rw [lst, lst_cut n (by omega) fun k h1 h2 => hf k h1 (by omega), hf n (by omega) (by omega)]
      simp
theorem ix_val (f : Nat → Bool) (k : Nat) (h : k < 256) : ∀ wx, (Instr.index 142 (.agg (boolRow 256 f)) (.int .i64 (k : Int))).run Tryz.prog wx = .ok (.bool (f k)) wx := by
  intro wx
  have u := Tryz.underlying142
  have z := Tryz.sizeOf4
  have ub := Tryz.underlying4
  have q1 : (k : Int) < 256 := by omega
  have q2 : (0 : Int) ≤ (k : Int) := by omega
  simp [Instr.index, run_underlying u, asIntOf, go_sem, z, q1, q2, part, isAgg, run_underlying ub, boolRow_at h]
  intro q
  omega
theorem ix_set (B k : Nat) (h : k < 256) : ∀ wx, (Instr.indexAt 142 (.pointer (some ⟨B, 0, none⟩)) (.int .i64 (k : Int))).run Tryz.prog wx = .ok (.pointer (some ⟨B, k, none⟩)) wx := by
  intro wx
  have u := Tryz.underlying142
  have z := Tryz.sizeOf4
  have q1 : (k : Int) < 256 := by omega
  have q2 : ¬ (k : Int) < 0 := by omega
  simp [Instr.indexAt, run_underlying u, asIntOf, go_sem, z, q1, q2]
  intro q
  omega
structure LsS (w : World) (L : List Int) (va : Option Addr) (vc : Nat) (wr : World) : Prop where
  be : Below w.heap.size w wr
  ow : OwnL wr w.heap.size 3 1 va vc (L.map chCells)
theorem LsS.later {w : World} {L : List Int} {va : Option Addr} {vc : Nat} {wr w' : World} (h : LsS w L va vc wr) (hb : Below wr.heap.size wr w') : LsS w L va vc w' :=
  ⟨bthen h.be hb, own_keep h.ow fun b hb' => hb.block b (blk_lt h.ow b hb').2⟩
theorem LsS.rows {w : World} {L : List Int} {va : Option Addr} {vc : Nat} {wr : World} (h : LsS w L va vc wr) : Rows wr 1 va vc (L.map chCells) := own_rows h.ow (len1u _)
theorem LsS.grown {w : World} {L : List Int} {va va' : Option Addr} {vc vc' : Nat} {wr w' : World} {x : Int} (h : LsS w L va vc wr) (hg : Grown wr w.heap.size 3 1 va (L.map chCells) (chCells x) va' vc' w') : LsS w (L ++ [x]) va' vc' w' :=
  ⟨below_min h.be h.be.size hg.be, by rw [List.map_append]; exact hg.ow⟩
set_option maxHeartbeats 1000000 in
theorem list_any (f : Nat → Bool) (w : World) : Calls Tryz.prog 81 #[.agg (boolRow 256 f)] w fun e w' => ∃ va vc, e = .returned (.slice va (lst f 256).length vc) ∧ LsS w (lst f 256) va vc w' := by
  obtain ⟨iN, hiN, hzN, hsN, hbN⟩ := info_q infoN_u
  have bx := boxed w (.cells (boolRow 256 f) 142)
  have hn : Hid _ := heap_alloc_new w (.cells (boolRow 256 f) 142)
  have huS : Hid (Tryz.prog.underlying 142 = _) := Tryz.underlying142
  have s0 : Hid (LsS w (lst f 0) none 0 (w.alloc (.cells (boolRow 256 f) 142))) := ⟨bx, own_nil_q _ _ _ _⟩
  clear bx
  go_enter Tryz.func81, Tryz.ntmps81
  go_wp2_with (first
    | (refine wpList_load_row rfl 142 _ rfl w.heap.size rfl _ _ _ _ hn.out huS.out rfl (infoSt f) ?_))
  clear hn
  generalize w.alloc (.cells (boolRow 256 f) 142) = W at *
  go_loopw [3, 7] (fun o u wr => ∃ (k : Nat) (va : Option Addr) (vc : Nat), k ≤ 256 ∧ u = .int .i64 k ∧ o = .slice va (lst f k).length vc ∧ Hid (LsS w (lst f k) va vc wr)) (fun _ u _ => 256 - (intOf u).toNat)
  case atStart => exact ⟨0, none, 0, by omega, rfl, rfl, s0⟩
  case round =>
    obtain ⟨k, va, vc, hk, rfl, rfl, hs⟩ := hrel
    clear s0
    by_cases hlt : k < 256
    · have hkI : (k : Int) < 256 := by omega
      have xV := ix_val f k hlt
      have hll := lst_len f k
      have hmore : Hid (lst f (k + 1) = lst f k ++ (if f k = true then [(k : Int)] else [])) := rfl
      obtain ⟨b, hb⟩ : ∃ b, f k = b := ⟨_, rfl⟩
      rw [hb] at xV
      cases b with
      | true =>
        have hN : Hid (lst f (k + 1) = lst f k ++ [(k : Int)]) := by show _ = _; rw [hmore.out, if_pos hb]
        clear hmore hb
        generalize lst f k = L at *
        go_wp2_with (first
          | (at_builtin; (refine wpList_app1 rfl (.tmp 12) (.tmp 14) 33 rfl w.heap.size 3 iN _ 1 8 Tryz.underlying33 hiN hzN hsN hbN rfl (by decide) va vc (L.map chCells) (by rw [List.length_map]; rfl) hs.out.ow (chCells (k : Int)) rfl rfl (one1u _) (by rw [List.length_map]; unfold maxLen; omega) (by rw [List.length_map]; omega) hs.out.be.size ?_); intro va' vc' w2 hg; rw [List.length_map]; (have hg2 : Hid (LsS w (L ++ [(k : Int)]) va' vc' w2) := hs.out.grown hg); clear hg))
        go_roundw
        case rel => exact ⟨k + 1, va', vc', by omega, by go_num, by rw [hN.out, List.length_append]; rfl, by rw [hN.out]; exact hg2⟩
        case measure => simp [intOf]; omega
      | false =>
        have hN : Hid (lst f (k + 1) = lst f k) := by show _ = _; rw [hmore.out, if_neg (by rw [hb]; exact Bool.false_ne_true), List.append_nil]
        clear hmore hb
        go_wp2
        go_roundw
        case rel => exact ⟨k + 1, va, vc, by omega, by go_num, by rw [hN.out], by rw [hN.out]; exact hs⟩
        case measure => simp [intOf]; omega
    · have hk2 : k = 256 := by omega
      subst hk2
      go_wp2
      go_ret
      exact ⟨va, vc, rfl, hs.out⟩
end Go.Proofs.YtafefnkgdnmjbaaGreatDoor.pg
/- Edges make up what happens before what; a swap of two that do not depend on each other leaves it; chains. -/
namespace Go.Proofs.YtafefnkgdnmjbaaGreatDoor.pg
set_option linter.unusedVariables false
/-- Is there an edge? -/
def edgeB (d B : Nat → Nat → Bool) (i j : Nat) : Bool := decide (i < j) && (d i j && !sB d B j (i + 1) i)
theorem edgeB_iff (d B : Nat → Nat → Bool) (i j : Nat) : edgeB d B i j = true ↔ i < j ∧ d i j = true ∧ sB d B j (i + 1) i = false := by
  unfold edgeB
  simp only [Bool.and_eq_true, decide_eq_true_eq, Bool.not_eq_true']
section
variable {d B : Nat → Nat → Bool} (hB : Tells d B)
include hB
theorem edgeB_is {i j : Nat} : edgeB d B i j = true ↔ (HB d i j ∧ ∀ k, ¬ (HB d i k ∧ HB d k j)) := by
  rw [edgeB_iff]
  constructor
  · rintro ⟨h1, h2⟩
    exact (edge_iff hB h1).mpr h2
  · intro h
    exact ⟨h.1.lt, (edge_iff hB h.1.lt).mp h⟩
theorem edgeB_hb {i j : Nat} (h : edgeB d B i j = true) : HB d i j := ((edgeB_is hB).mp h).1
theorem edge_last_n : ∀ (n i m j : Nat), j - m ≤ n → m < j → d m j = true → (i = m ∨ HB d i m) → ∃ m, edgeB d B m j = true ∧ (i = m ∨ HB d i m)
  | 0, i, m, j, h, h1, _, _ => by omega
  | n + 1, i, m, j, h, h1, h2, h3 => by
    by_cases c : sB d B j (m + 1) m = true
    · obtain ⟨i', q1, q2, q3, q4⟩ := (sB_iff hB j (m + 1) m).mp c
      rcases q4 with q4 | q4
      · omega
      · refine edge_last_n n i i' j (by omega) q2 q3 (.inr ?_)
        rcases h3 with rfl | h3
        · exact q4
        · exact .then h3 q4
    · exact ⟨m, (edgeB_iff d B m j).mpr ⟨h1, h2, by simpa using c⟩, h3⟩
/-- The last step on a way is an edge. -/
theorem edge_last {i j : Nat} (h : HB d i j) : ∃ m, edgeB d B m j = true ∧ (i = m ∨ HB d i m) := by
  obtain ⟨m, h1, h2, h3⟩ := h.last
  exact edge_last_n hB _ i m j (Nat.le_refl _) h1 h2 h3
/-- The first step on a way can be an edge. -/
theorem edge_first_n : ∀ (n i j : Nat), j ≤ n → HB d i j → ∃ m, edgeB d B i m = true ∧ (m = j ∨ HB d m j)
  | 0, i, j, h, q => by have := q.lt; omega
  | n + 1, i, j, h, q => by
    obtain ⟨m, h1, h2⟩ := edge_last hB q
    have hm := edgeB_hb hB h1
    rcases h2 with rfl | h2
    · exact ⟨j, h1, .inl rfl⟩
    · obtain ⟨k, k1, k2⟩ := edge_first_n n i m (by have := hm.lt; omega) h2
      refine ⟨k, k1, .inr ?_⟩
      rcases k2 with rfl | k2
      · exact hm
      · exact .then k2 hm
theorem edge_first {i j : Nat} (h : HB d i j) : ∃ m, edgeB d B i m = true ∧ (m = j ∨ HB d m j) := edge_first_n hB j i j (Nat.le_refl _) h
end
/-- Two neighbours changed about. -/
def swp (i k : Nat) : Nat := if k = i then i + 1 else if k = i + 1 then i else k
theorem swp_swp (i k : Nat) : swp i (swp i k) = k := by unfold swp; split <;> split <;> (try split) <;> omega
theorem swp_lt {i k n : Nat} (h : i + 1 < n) (hk : k < n) : swp i k < n := by unfold swp; split <;> (try split) <;> omega
theorem swp_inj {i a b : Nat} (h : swp i a = swp i b) : a = b := by rw [← swp_swp i a, h, swp_swp]
theorem hb_swp {d d' : Nat → Nat → Bool} {i : Nat} (hd : ∀ a b, d a b = true → d' (swp i a) (swp i b) = true) (h0 : d i (i + 1) = false) {a b : Nat} (h : HB d a b) : HB d' (swp i a) (swp i b) := by
  induction h with
  | @one a b hab q =>
    refine .one ?_ (hd _ _ q)
    unfold swp
    by_cases c : a = i ∧ b = i + 1
    · obtain ⟨rfl, rfl⟩ := c
      rw [h0] at q; cases q
    · (repeat' split) <;> omega
  | «then» _ _ h1 h2 => exact .then h1 h2
theorem cnt_swp2 (p : Nat → Bool) (i : Nat) : cnt (fun k => p (swp i k)) (i + 2) = cnt p (i + 2) := by
  have e : cnt (fun k => p (swp i k)) i = cnt p i := cnt_congr fun k hk => by
    have : swp i k = k := by unfold swp; split <;> (try split) <;> omega
    simp only [this]
  have e1 : swp i i = i + 1 := by simp [swp]
  have e2 : swp i (i + 1) = i := by simp [swp]
  show (cnt (fun k => p (swp i k)) i + (if p (swp i i) then 1 else 0)) + (if p (swp i (i + 1)) then 1 else 0) = (cnt p i + (if p i then 1 else 0)) + (if p (i + 1) then 1 else 0)
  rw [e, e1, e2]
  omega
theorem cnt_swp (p : Nat → Bool) (i : Nat) : ∀ n, i + 2 ≤ n → cnt (fun k => p (swp i k)) n = cnt p n
  | 0, h => by omega
  | n + 1, h => by
    by_cases c : n + 1 = i + 2
    · rw [c]; exact cnt_swp2 p i
    · have ih := cnt_swp p i n (by omega)
      have e : swp i n = n := by unfold swp; split <;> (try split) <;> omega
      show cnt (fun k => p (swp i k)) n + (if p (swp i n) then 1 else 0) = cnt p n + (if p n then 1 else 0)
      rw [ih, e]
/-- The clocks of a trace with two neighbours changed about that do not depend on each other. -/
theorem ck_swp {d d' B B' : Nat → Nat → Bool} (hB : Tells d B) (hB' : Tells d' B') {g g' : Nat → Nat} {i n : Nat} (hn : i + 2 ≤ n) (hd : ∀ a b, d' a b = d (swp i a) (swp i b)) (hg : ∀ a, g' a = g (swp i a)) (h0 : d i (i + 1) = false) (h1 : d (i + 1) i = false) {j : Nat} (hj : j < n) (a : Nat) :
    ck B' g' (swp i j) a = ck B g j a := by
  rw [ckn_at hB' (swp_lt (by omega) hj), ckn_at hB hj, ← cnt_swp _ i n hn]
  refine cnt_congr fun k _ => ?_
  have key : HB d' (swp i k) (swp i j) ↔ HB d k j := by
    constructor
    · intro h
      have := hb_swp (d := d') (d' := d) (i := i) (fun a b q => by rw [hd] at q; exact q) (by rw [hd]; unfold swp; simp; exact h1) h
      rwa [swp_swp, swp_swp] at this
    · intro h
      exact hb_swp (fun a b q => by rw [hd, swp_swp, swp_swp]; exact q) h0 h
  simp only [hg, swp_swp, Bool.and_eq_true, Bool.or_eq_true, beq_iff_eq, hB' _ _, hB k j, key]
  constructor
  · rintro ⟨q1, q2 | q2⟩
    · exact ⟨q1, .inl (swp_inj q2)⟩
    · exact ⟨q1, .inr q2⟩
  · rintro ⟨q1, q2 | q2⟩
    · exact ⟨q1, .inl (by rw [q2])⟩
    · exact ⟨q1, .inr q2⟩
/-- How many stand ahead of each: along every edge one more, and no more than by some edge. -/
structure High (n : Nat) (e : Nat → Nat → Bool) (h : Nat → Int) : Prop where
  pos : ∀ j, j < n → 0 ≤ h j
  up : ∀ i j, i < j → j < n → e i j = true → h i + 1 ≤ h j
  some : ∀ j, j < n → h j = 0 ∨ ∃ i, i < j ∧ e i j = true ∧ h j = h i + 1
theorem High.hb {d B : Nat → Nat → Bool} (hB : Tells d B) {n : Nat} {h : Nat → Int} (hh : High n (edgeB d B) h) : ∀ (m i j : Nat), j ≤ m → j < n → HB d i j → h i + 1 ≤ h j
  | 0, i, j, h1, _, q => by have := q.lt; omega
  | m + 1, i, j, h1, h2, q => by
    obtain ⟨k, k1, k2⟩ := edge_last hB q
    have hk := ((edgeB_iff d B k j).mp k1).1
    have u := hh.up k j hk h2 k1
    rcases k2 with rfl | k2
    · exact u
    · have := hh.hb hB m i k (by omega) (by omega) k2
      omega
/-- As many as a goroutine has: no more than are in a chain. -/
theorem High.own {d B : Nat → Nat → Bool} (hB : Tells d B) {g : Nat → Nat} {n : Nat} (ho : Ord d g n) {h : Nat → Int} (hh : High n (edgeB d B) h) (a : Nat) (H : Int) (h0 : 0 ≤ H) (hH : ∀ j, j < n → h j + 1 ≤ H) :
    ∀ m, m ≤ n → (cnt (fun k => g k == a) m : Int) ≤ H ∧ (cnt (fun k => g k == a) m = 0 ∨ ∃ k, k < m ∧ g k = a ∧ (cnt (fun k => g k == a) m : Int) ≤ h k + 1)
  | 0, _ => ⟨by show ((0 : Nat) : Int) ≤ H; omega, .inl rfl⟩
  | m + 1, hm => by
    obtain ⟨i1, i2⟩ := hh.own hB ho a H h0 hH m (by omega)
    have e : cnt (fun k => g k == a) (m + 1) = cnt (fun k => g k == a) m + (if (g m == a) = true then 1 else 0) := rfl
    by_cases c : g m = a
    · have c2 : (g m == a) = true := by simpa using c
      rw [if_pos c2] at e
      rw [e]
      have key : ((cnt (fun k => g k == a) m + 1 : Nat) : Int) ≤ h m + 1 := by
        rcases i2 with q | ⟨k, k1, k2, k3⟩
        · have := hh.pos m (by omega); rw [q]; omega
        · have := hh.hb hB m k m (Nat.le_refl _) (by omega) (.one k1 (ho k m k1 (by omega) (by rw [k2, c])))
          omega
      refine ⟨by have := hH m (by omega); omega, .inr ⟨m, by omega, c, key⟩⟩
    · have c2 : ¬ (g m == a) = true := by simpa using c
      rw [if_neg c2] at e
      rw [e, Nat.add_zero]
      refine ⟨i1, i2.imp_right ?_⟩
      rintro ⟨k, k1, k2, k3⟩
      exact ⟨k, by omega, k2, k3⟩
end Go.Proofs.YtafefnkgdnmjbaaGreatDoor.pg
/- Which edges package order tells, and how high chains are. -/
namespace Go.Proofs.YtafefnkgdnmjbaaGreatDoor.pg
open Go.ChangeShapes Go.WideShapes Go.ChangeAt Go.RowKit Go.Shelf
set_option linter.unusedVariables false
set_option linter.unusedSimpArgs false
/-- The edges to j, from the last place down. -/
def edl (e : Nat → Nat → Bool) (j : Nat) : Nat → List (Nat × Nat)
  | 0 => []
  | k + 1 => edl e j k ++ (if e (j - 1 - k) j = true then [(j - 1 - k, j)] else [])
def elist (e : Nat → Nat → Bool) : Nat → List (Nat × Nat)
  | 0 => []
  | j + 1 => elist e j ++ edl e j j
theorem edl_mem (e : Nat → Nat → Bool) (j : Nat) (p : Nat × Nat) : ∀ k, k ≤ j → (p ∈ edl e j k ↔ p.2 = j ∧ j - k ≤ p.1 ∧ p.1 < j ∧ e p.1 j = true)
  | 0, h => by
    simp only [edl, List.not_mem_nil, false_iff]
    rintro ⟨_, h1, h2, _⟩
    omega
  | k + 1, h => by
    have ih := edl_mem e j p k (by omega)
    rw [edl, List.mem_append, ih]
    by_cases c : e (j - 1 - k) j = true
    · rw [if_pos c, List.mem_singleton]
      constructor
      · rintro (⟨h1, h2, h3, h4⟩ | rfl)
        · exact ⟨h1, by omega, h3, h4⟩
        · exact ⟨rfl, by show j - (k + 1) ≤ j - 1 - k; omega, by show j - 1 - k < j; omega, c⟩
      · rintro ⟨h1, h2, h3, h4⟩
        by_cases q : p.1 = j - 1 - k
        · right
          exact Prod.ext q h1
        · exact .inl ⟨h1, by omega, h3, h4⟩
    · rw [if_neg c]
      simp only [List.not_mem_nil, or_false]
      constructor
      · rintro ⟨h1, h2, h3, h4⟩
        exact ⟨h1, by omega, h3, h4⟩
      · rintro ⟨h1, h2, h3, h4⟩
        refine ⟨h1, ?_, h3, h4⟩
        by_cases q : p.1 = j - 1 - k
        · rw [q] at h4; exact absurd h4 c
        · omega
theorem elist_mem (e : Nat → Nat → Bool) (p : Nat × Nat) : ∀ n, p ∈ elist e n ↔ p.1 < p.2 ∧ p.2 < n ∧ e p.1 p.2 = true
  | 0 => by simp [elist]
  | n + 1 => by
    rw [elist, List.mem_append, elist_mem e p n, edl_mem e n p n (Nat.le_refl _)]
    constructor
    · rintro (⟨h1, h2, h3⟩ | ⟨h1, h2, h3, h4⟩)
      · exact ⟨h1, by omega, h3⟩
      · rw [h1]; exact ⟨h3, by omega, h4⟩
    · rintro ⟨h1, h2, h3⟩
      by_cases c : p.2 = n
      · right
        rw [c] at h1 h3
        exact ⟨c, by omega, h1, h3⟩
      · exact .inl ⟨h1, by omega, h3⟩
theorem edl_nodup (e : Nat → Nat → Bool) (j : Nat) : ∀ k, k ≤ j → (edl e j k).Nodup
  | 0, _ => List.nodup_nil
  | k + 1, h => by
    rw [edl, List.nodup_append]
    refine ⟨edl_nodup e j k (by omega), by split <;> simp, fun a ha b hb => ?_⟩
    have h1 := (edl_mem e j a k (by omega)).mp ha
    split at hb
    · rw [List.mem_singleton] at hb
      subst hb
      intro q
      have := congrArg Prod.fst q
      simp only at this
      omega
    · simp at hb
theorem elist_nodup (e : Nat → Nat → Bool) : ∀ n, (elist e n).Nodup
  | 0 => List.nodup_nil
  | n + 1 => by
    rw [elist, List.nodup_append]
    refine ⟨elist_nodup e n, edl_nodup e n n (Nat.le_refl _), fun a ha b hb => ?_⟩
    have h1 := (elist_mem e a n).mp ha
    have h2 := (edl_mem e n b n (Nat.le_refl _)).mp hb
    intro q
    rw [q] at h1
    omega
theorem elist_up (e : Nat → Nat → Bool) : ∀ n, (elist e n).Pairwise fun p q => p.2 ≤ q.2
  | 0 => .nil
  | n + 1 => by
    rw [elist, List.pairwise_append]
    refine ⟨elist_up e n, ?_, fun a ha b hb => ?_⟩
    · rw [List.pairwise_iff_forall_sublist]
      intro a b hs
      have ha := (edl_mem e n a n (Nat.le_refl _)).mp (hs.subset (by simp))
      have hb := (edl_mem e n b n (Nat.le_refl _)).mp (hs.subset (by simp))
      omega
    · have h1 := (elist_mem e a n).mp ha
      have h2 := (edl_mem e n b n (Nat.le_refl _)).mp hb
      omega
section
variable {l : List Ev} (hrt : ∀ x ∈ l, rightP x) {B : Nat → Nat → Bool} (hB : Tells (dpf l) B)
include hrt hB
theorem told_edges {cf : Nat → Ck} {j : Nat} (hj : j < l.length) (hcf : ∀ i, i < j → ∀ a, a < 6 → (cf i).of a = (ck B (gof l) i a : Int)) : ∀ k, k ≤ j → (told (evf l) cf j (dn j k)).2 = edl (edgeB (dpf l) B) j k
  | 0, _ => rfl
  | k + 1, hk => by
    have ih := told_edges hj hcf k (by omega)
    have iC := told_is hrt hB hj hcf k (by omega)
    have hi : j - 1 - k < j := by omega
    have e1 : j - k = (j - 1 - k) + 1 := by omega
    rw [dn_more (by omega), told_more]
    rw [e1] at iC
    have hgi : gof l (j - 1 - k) < 6 := gof_lt hrt (by omega)
    have htest : (cf (j - 1 - k)).of (evf l (j - 1 - k)).go.toNat ≤ (told (evf l) cf j (dn j k)).1.of (evf l (j - 1 - k)).go.toNat ↔ sB (dpf l) B j (j - 1 - k + 1) (j - 1 - k) = true := by
      rw [← test_iff hB (ord_ok hrt) hi hj]
      have h1 := hcf (j - 1 - k) hi (gof l (j - 1 - k)) hgi
      have h2 := iC (gof l (j - 1 - k)) hgi
      unfold gof at h1 h2 ⊢
      rw [h1, h2]
      omega
    unfold stp edl
    by_cases c : (cf (j - 1 - k)).of (evf l (j - 1 - k)).go.toNat ≤ (told (evf l) cf j (dn j k)).1.of (evf l (j - 1 - k)).go.toNat ∨ clash (evf l (j - 1 - k)).of (evf l j).of = false
    · rw [if_pos c, ih, if_neg, List.append_nil]
      rw [edgeB_iff]
      rintro ⟨_, q1, q2⟩
      rcases c with c | c
      · rw [htest.mp c] at q2; cases q2
      · unfold dpf at q1; rw [c] at q1; cases q1
    · rw [if_neg c, if_pos, ih]
      rw [edgeB_iff]
      refine ⟨hi, ?_, ?_⟩
      · unfold dpf
        rw [← Bool.not_eq_false]
        exact fun q => c (.inr q)
      · rw [Bool.eq_false_iff]
        exact fun q => c (.inl (htest.mpr q))
theorem rel_list : ∀ (j : Nat), j ≤ l.length → (rel (evf l) j).2 = elist (edgeB (dpf l) B) j
  | 0, _ => rfl
  | j + 1, hj => by
    have hl := rel_len (evf l) j
    rw [rel, elist, rel_list j (by omega)]
    show _ ++ _ = _
    congr 1
    exact told_edges hrt hB (cf := fun k => (rel (evf l) j).1.getD k zeroK) (by omega) (fun k hk b hb => rel_is hrt hB j (by omega) k _ (by
        rw [List.getD_eq_getElem?_getD, List.getElem?_eq_getElem (by omega)]; rfl) b hb) j (Nat.le_refl _)
theorem edges_mem (p : Nat × Nat) : p ∈ (rel (evf l) l.length).2 ↔ p.1 < p.2 ∧ p.2 < l.length ∧ edgeB (dpf l) B p.1 p.2 = true := by
  rw [rel_list hrt hB l.length (Nat.le_refl _), elist_mem]
end
/-- What Height's loop knows behind edges. -/
structure HI (n : Nat) (E : List (Nat × Nat)) (s : List Int × Int) : Prop where
  len : s.1.length = n
  pos : ∀ j, j < n → 0 ≤ s.1.getD j 0
  up : ∀ p ∈ E, s.1.getD p.1 0 + 1 ≤ s.1.getD p.2 0
  some : ∀ j, j < n → s.1.getD j 0 = 0 ∨ ∃ i, (i, j) ∈ E ∧ s.1.getD j 0 = s.1.getD i 0 + 1
  top : ∀ j, j < n → s.1.getD j 0 + 1 ≤ s.2
  hit : n = 0 ∧ s.2 = 0 ∨ ∃ j, j < n ∧ s.2 = s.1.getD j 0 + 1
theorem getD_set0 (s : List Int) (b : Nat) (m : Int) (hb : b < s.length) (j : Nat) : (s.set b m).getD j 0 = if j = b then m else s.getD j 0 := by
  simp only [List.getD_eq_getElem?_getD, List.getElem?_set]
  by_cases c : b = j
  · subst c; simp [hb]
  · rw [if_neg c, if_neg (Ne.symm c)]
theorem hi_step {n : Nat} {E : List (Nat × Nat)} {s : List Int × Int} (h : HI n E s) (p : Nat × Nat) (hp : p.1 < p.2 ∧ p.2 < n) (hE : ∀ q ∈ E, q.1 < q.2 ∧ q.2 ≤ p.2) : HI n (E ++ [p]) (hstep s p) := by
  obtain ⟨m, hm⟩ : ∃ m, max (s.1.getD p.2 0) (s.1.getD p.1 0 + 1) = m := ⟨_, rfl⟩
  have hm1 : s.1.getD p.2 0 ≤ m ∧ s.1.getD p.1 0 + 1 ≤ m ∧ (m = s.1.getD p.2 0 ∨ m = s.1.getD p.1 0 + 1) := by rw [← hm, Int.max_def]; split <;> omega
  obtain ⟨t, ht⟩ : ∃ t, max s.2 (m + 1) = t := ⟨_, rfl⟩
  have ht1 : s.2 ≤ t ∧ m + 1 ≤ t ∧ (t = s.2 ∨ t = m + 1) := by rw [← ht, Int.max_def]; split <;> omega
  have hst : hstep s p = (s.1.set p.2 m, t) := by unfold hstep; rw [hm, ht]
  have hg : ∀ j, (s.1.set p.2 m).getD j 0 = if j = p.2 then m else s.1.getD j 0 := getD_set0 s.1 p.2 m (by rw [h.len]; exact hp.2)
  rw [hst]
  refine ⟨by simp [h.len], fun j hj => ?_, fun q hq => ?_, fun j hj => ?_, fun j hj => ?_, ?_⟩
  · show 0 ≤ (s.1.set p.2 m).getD j 0
    rw [hg]
    have h1 := h.pos j hj
    have h2 := h.pos p.2 hp.2
    split <;> omega
  · show (s.1.set p.2 m).getD q.1 0 + 1 ≤ (s.1.set p.2 m).getD q.2 0
    rw [hg, hg]
    rw [List.mem_append, List.mem_singleton] at hq
    rcases hq with hq | rfl
    · have h1 := h.up q hq
      have h2 := hE q hq
      rw [if_neg (by omega)]
      by_cases c : q.2 = p.2
      · rw [if_pos c]; rw [c] at h1; omega
      · rw [if_neg c]; exact h1
    · rw [if_neg (by omega), if_pos rfl]; exact hm1.2.1
  · show (s.1.set p.2 m).getD j 0 = 0 ∨ ∃ i, (i, j) ∈ E ++ [p] ∧ (s.1.set p.2 m).getD j 0 = (s.1.set p.2 m).getD i 0 + 1
    simp only [hg]
    by_cases c : j = p.2
    · subst c
      simp only [if_true]
      rcases hm1.2.2 with q | q
      · rcases h.some p.2 hp.2 with z | ⟨i, z1, z2⟩
        · left; omega
        · right
          have := (hE _ z1).1
          refine ⟨i, List.mem_append_left _ z1, ?_⟩
          rw [if_neg (by have : i < p.2 := this; omega)]
          omega
      · right
        refine ⟨p.1, by simp, ?_⟩
        rw [if_neg (by omega)]
        exact q
    · rw [if_neg c]
      rcases h.some j hj with z | ⟨i, z1, z2⟩
      · exact .inl z
      · right
        have h1 := hE _ z1
        refine ⟨i, List.mem_append_left _ z1, ?_⟩
        rw [if_neg (by have h2 : i < j := h1.1; have h3 : j ≤ p.2 := h1.2; omega)]
        exact z2
  · show (s.1.set p.2 m).getD j 0 + 1 ≤ t
    rw [hg]
    have h1 := h.top j hj
    split <;> omega
  · right
    show ∃ j, j < n ∧ t = (s.1.set p.2 m).getD j 0 + 1
    simp only [hg]
    by_cases c : s.2 ≤ m + 1
    · exact ⟨p.2, hp.2, by rw [if_pos rfl]; omega⟩
    · rcases h.hit with ⟨q, _⟩ | ⟨j, j1, j2⟩
      · omega
      · refine ⟨j, j1, ?_⟩
        rw [if_neg (fun q => by rw [q] at j2; omega)]
        omega
theorem hi_all (n : Nat) : ∀ (k : Nat) (E : List (Nat × Nat)), E.length = k → E.Pairwise (fun p q => p.2 ≤ q.2) → (∀ p ∈ E, p.1 < p.2 ∧ p.2 < n) → HI n E (hfold n E)
  | 0, E, h, _, _ => by
    have : E = [] := List.length_eq_zero_iff.mp h
    subst this
    have h0 : ∀ j, (List.replicate n (0 : Int)).getD j 0 = 0 := fun j => by
      simp only [List.getD_eq_getElem?_getD, List.getElem?_replicate]; split <;> rfl
    refine ⟨by simp [hfold], fun j _ => by show 0 ≤ (List.replicate n (0 : Int)).getD j 0; rw [h0]; omega, fun p hp => by simp at hp, fun j _ => .inl (h0 j), fun j hj => ?_, ?_⟩
    · show (List.replicate n (0 : Int)).getD j 0 + 1 ≤ min 1 (n : Int)
      rw [h0, Int.min_def]; split <;> omega
    · show n = 0 ∧ min 1 (n : Int) = 0 ∨ ∃ j, j < n ∧ min 1 (n : Int) = (List.replicate n (0 : Int)).getD j 0 + 1
      by_cases c : n = 0
      · left; subst c; exact ⟨rfl, rfl⟩
      · right
        refine ⟨0, by omega, ?_⟩
        rw [h0, Int.min_def]; split <;> omega
  | k + 1, E, h, hs, hp => by
    rcases List.eq_nil_or_concat E with rfl | ⟨q, x, rfl⟩
    · simp at h
    · rw [List.concat_eq_append] at h hs hp ⊢
      rw [List.length_append, List.length_singleton] at h
      rw [List.pairwise_append] at hs
      have ih := hi_all n k q (by omega) hs.1 fun p hp' => hp p (List.mem_append_left _ hp')
      rw [hfold_more]
      exact hi_step ih x (hp x (by simp)) fun z hz => ⟨(hp z (List.mem_append_left _ hz)).1, hs.2.2 z hz x (by simp)⟩
section
variable {l : List Ev} (hrt : ∀ x ∈ l, rightP x) {B : Nat → Nat → Bool} (hB : Tells (dpf l) B)
include hrt hB
/-- Height's own numbers. -/
theorem hi_rel : HI l.length (rel (evf l) l.length).2 (hfold l.length (rel (evf l) l.length).2) :=
  hi_all _ _ _ rfl (by rw [rel_list hrt hB l.length (Nat.le_refl _)]; exact elist_up _ _) fun p hp => by
    have := (edges_mem hrt hB p).mp hp
    exact ⟨this.1, this.2.1⟩
theorem high_rel : High l.length (edgeB (dpf l) B) fun j => (hfold l.length (rel (evf l) l.length).2).1.getD j 0 := by
  have h := hi_rel hrt hB
  refine ⟨h.pos, fun i j h1 h2 h3 => h.up (i, j) ((edges_mem hrt hB (i, j)).mpr ⟨h1, h2, h3⟩), fun j hj => ?_⟩
  rcases h.some j hj with q | ⟨i, q1, q2⟩
  · exact .inl q
  · have := (edges_mem hrt hB (i, j)).mp q1
    exact .inr ⟨i, this.1, this.2.2, q2⟩
end
end Go.Proofs.YtafefnkgdnmjbaaGreatDoor.pg
