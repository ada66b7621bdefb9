/- Sets of places: an array of truths; its places as a list. -/
import Derived.Test.YtkhhkgfaakgdfaaM26
import Derived.Test.YtkhhkgfaakgdfaaM30
import Derived.Test.YtkhhkgfaakgdfaaM14
namespace Go.Proofs.Ytkhhkgfaakgdfaa.pg
open Go.ChangeShapes Go.WideShapes Go.ChangeAt Go.RowKit Go.Shelf
set_option linter.unusedVariables false
set_option linter.unusedSimpArgs false
set_option maxRecDepth 100000
attribute [local go_sem ↓] Go.wp_at_zero Go.wp_at_succ
theorem boolRow_size (n : Nat) (f : Nat → Bool) : (boolRow n f).size = n := by simp [boolRow]
theorem boolRow_one (n : Nat) (f : Nat → Bool) : (boolRow n f).all (·.oneCell') = true := by
  rw [Array.all_eq_true_iff_forall_mem]
  intro v hv
  simp only [boolRow, List.mem_toArray, List.mem_map] at hv
  obtain ⟨j, _, rfl⟩ := hv
  rfl
theorem infoSt (f : Nat → Bool) : (Try.prog.info? 85).map (·.size) = some (boolRow 256 f).size := by rw [boolRow_size]; kernel_rfl
theorem zeroSt : ∀ w, (zeroValue 85).run Try.prog w = .ok (.agg (boolRow 256 fun _ => false)) w := fun w => by kernel_rfl
/-- The places below n. -/
def lst (f : Nat → Bool) : Nat → List Int
  | 0 => []
  | n + 1 => lst f n ++ (if f n = true then [(n : Int)] else [])
theorem lst_len (f : Nat → Bool) : ∀ n, (lst f n).length ≤ n
  | 0 => Nat.le_refl _
  | n + 1 => by
    have := lst_len f n
    rw [lst, List.length_append]
    split <;> simp <;> omega
theorem lst_mem (f : Nat → Bool) (p : Int) : ∀ n, p ∈ lst f n ↔ ∃ k : Nat, k < n ∧ f k = true ∧ p = (k : Int)
  | 0 => by simp [lst]
  | n + 1 => by
    rw [lst, List.mem_append, lst_mem f p n]
    constructor
    · rintro (⟨k, h1, h2, h3⟩ | h)
      · exact ⟨k, by omega, h2, h3⟩
      · split at h
        · rename_i c
          simp at h
          exact ⟨n, by omega, c, h⟩
        · simp at h
    · rintro ⟨k, h1, h2, h3⟩
      by_cases c : k = n
      · subst c
        right
        rw [if_pos h2]
        simp [h3]
      · exact .inl ⟨k, by omega, h2, h3⟩
theorem lst_congr {f g : Nat → Bool} : ∀ n, (∀ k, k < n → f k = g k) → lst f n = lst g n
  | 0, _ => rfl
  | n + 1, h => by rw [lst, lst, lst_congr n fun k hk => h k (by omega), h n (by omega)]
theorem lst_cut {f : Nat → Bool} {m : Nat} : ∀ n, m ≤ n → (∀ k, m ≤ k → k < n → f k = false) → lst f n = lst f m
  | 0, h, _ => by have : m = 0 := by omega
                  subst this; rfl
  | n + 1, h, hf => by
    by_cases c : m = n + 1
    · rw [c]
    · rw [lst, lst_cut n (by omega) fun k h1 h2 => hf k h1 (by omega), hf n (by omega) (by omega)]
      simp
theorem ix_val (f : Nat → Bool) (k : Nat) (h : k < 256) : ∀ wx, (Instr.index 85 (.agg (boolRow 256 f)) (.int .i64 (k : Int))).run Try.prog wx = .ok (.bool (f k)) wx := by
  intro wx
  have u := Try.underlying85
  have z := Try.sizeOf4
  have ub := Try.underlying4
  have q1 : (k : Int) < 256 := by omega
  have q2 : (0 : Int) ≤ (k : Int) := by omega
  simp [Instr.index, run_underlying u, asIntOf, go_sem, z, q1, q2, part, isAgg, run_underlying ub, boolRow_at h]
  intro q
  omega
theorem ix_set (B k : Nat) (h : k < 256) : ∀ wx, (Instr.indexAt 85 (.pointer (some ⟨B, 0, none⟩)) (.int .i64 (k : Int))).run Try.prog wx = .ok (.pointer (some ⟨B, k, none⟩)) wx := by
  intro wx
  have u := Try.underlying85
  have z := Try.sizeOf4
  have q1 : (k : Int) < 256 := by omega
  have q2 : ¬ (k : Int) < 0 := by omega
  simp [Instr.indexAt, run_underlying u, asIntOf, go_sem, z, q1, q2]
  intro q
  omega
structure LsS (w : World) (L : List Int) (va : Option Addr) (vc : Nat) (wr : World) : Prop where
  be : Below w.heap.size w wr
  ow : OwnL wr w.heap.size 3 1 va vc (L.map chCells)
theorem LsS.later {w : World} {L : List Int} {va : Option Addr} {vc : Nat} {wr w' : World} (h : LsS w L va vc wr) (hb : Below wr.heap.size wr w') : LsS w L va vc w' :=
  ⟨bthen h.be hb, own_keep h.ow fun b hb' => hb.block b (blk_lt h.ow b hb').2⟩
theorem LsS.rows {w : World} {L : List Int} {va : Option Addr} {vc : Nat} {wr : World} (h : LsS w L va vc wr) : Rows wr 1 va vc (L.map chCells) := own_rows h.ow (len1u _)
theorem LsS.grown {w : World} {L : List Int} {va va' : Option Addr} {vc vc' : Nat} {wr w' : World} {x : Int} (h : LsS w L va vc wr) (hg : Grown wr w.heap.size 3 1 va (L.map chCells) (chCells x) va' vc' w') : LsS w (L ++ [x]) va' vc' w' :=
  ⟨below_min h.be h.be.size hg.be, by rw [List.map_append]; exact hg.ow⟩
set_option maxHeartbeats 1000000 in
theorem list_any (f : Nat → Bool) (w : World) : Calls Try.prog 46 #[.agg (boolRow 256 f)] w fun e w' => ∃ va vc, e = .returned (.slice va (lst f 256).length vc) ∧ LsS w (lst f 256) va vc w' := by
  obtain ⟨iN, hiN, hzN, hsN, hbN⟩ := info_q infoN_u
  have bx := boxed w (.cells (boolRow 256 f) 85)
  have hn : Hid _ := heap_alloc_new w (.cells (boolRow 256 f) 85)
  have huS : Hid (Try.prog.underlying 85 = _) := Try.underlying85
  have s0 : Hid (LsS w (lst f 0) none 0 (w.alloc (.cells (boolRow 256 f) 85))) := ⟨bx, own_nil_q _ _ _ _⟩
  clear bx
  go_enter Try.func46, Try.ntmps46
  go_wp2_with (first
    | (refine wpList_load_row rfl 85 _ rfl w.heap.size rfl _ _ _ _ hn.out huS.out rfl (infoSt f) ?_))
  clear hn
  generalize w.alloc (.cells (boolRow 256 f) 85) = W at *
  go_loopw [3, 7] (fun o u wr => ∃ (k : Nat) (va : Option Addr) (vc : Nat), k ≤ 256 ∧ u = .int .i64 k ∧ o = .slice va (lst f k).length vc ∧ Hid (LsS w (lst f k) va vc wr)) (fun _ u _ => 256 - (intOf u).toNat)
  case atStart => exact ⟨0, none, 0, by omega, rfl, rfl, s0⟩
  case round =>
    obtain ⟨k, va, vc, hk, rfl, rfl, hs⟩ := hrel
    clear s0
    by_cases hlt : k < 256
    · have hkI : (k : Int) < 256 := by omega
      have xV := ix_val f k hlt
      have hll := lst_len f k
      have hmore : Hid (lst f (k + 1) = lst f k ++ (if f k = true then [(k : Int)] else [])) := rfl
      obtain ⟨b, hb⟩ : ∃ b, f k = b := ⟨_, rfl⟩
      rw [hb] at xV
      cases b with
      | true =>
        have hN : Hid (lst f (k + 1) = lst f k ++ [(k : Int)]) := by show _ = _; rw [hmore.out, if_pos hb]
        clear hmore hb
        generalize lst f k = L at *
        go_wp2_with (first
          | (at_builtin; (refine wpList_app1 rfl (.tmp 12) (.tmp 14) 30 rfl w.heap.size 3 iN _ 1 8 Try.underlying30 hiN hzN hsN hbN rfl (by decide) va vc (L.map chCells) (by rw [List.length_map]; rfl) hs.out.ow (chCells (k : Int)) rfl rfl (one1u _) (by rw [List.length_map]; unfold maxLen; omega) (by rw [List.length_map]; omega) hs.out.be.size ?_); intro va' vc' w2 hg; rw [List.length_map]; (have hg2 : Hid (LsS w (L ++ [(k : Int)]) va' vc' w2) := hs.out.grown hg); clear hg))
        go_roundw
        case rel => exact ⟨k + 1, va', vc', by omega, by go_num, by rw [hN.out, List.length_append]; rfl, by rw [hN.out]; exact hg2⟩
        case measure => simp [intOf]; omega
      | false =>
        have hN : Hid (lst f (k + 1) = lst f k) := by show _ = _; rw [hmore.out, if_neg (by rw [hb]; exact Bool.false_ne_true), List.append_nil]
        clear hmore hb
        go_wp2
        go_roundw
        case rel => exact ⟨k + 1, va, vc, by omega, by go_num, by rw [hN.out], by rw [hN.out]; exact hs⟩
        case measure => simp [intOf]; omega
    · have hk2 : k = 256 := by omega
      subst hk2
      go_wp2
      go_ret
      exact ⟨va, vc, rfl, hs.out⟩
end Go.Proofs.Ytkhhkgfaakgdfaa.pg
/- Edges make up what happens before what; a swap of two that do not depend on each other leaves it; chains. -/
namespace Go.Proofs.Ytkhhkgfaakgdfaa.pg
set_option linter.unusedVariables false
/-- Is there an edge? -/
def edgeB (d B : Nat → Nat → Bool) (i j : Nat) : Bool := decide (i < j) && (d i j && !sB d B j (i + 1) i)
theorem edgeB_iff (d B : Nat → Nat → Bool) (i j : Nat) : edgeB d B i j = true ↔ i < j ∧ d i j = true ∧ sB d B j (i + 1) i = false := by
  unfold edgeB
  simp only [Bool.and_eq_true, decide_eq_true_eq, Bool.not_eq_true']
section
variable {d B : Nat → Nat → Bool} (hB : Tells d B)
include hB
theorem edgeB_is {i j : Nat} : edgeB d B i j = true ↔ (HB d i j ∧ ∀ k, ¬ (HB d i k ∧ HB d k j)) := by
  rw [edgeB_iff]
  constructor
  · rintro ⟨h1, h2⟩
    exact (edge_iff hB h1).mpr h2
  · intro h
    exact ⟨h.1.lt, (edge_iff hB h.1.lt).mp h⟩
theorem edgeB_hb {i j : Nat} (h : edgeB d B i j = true) : HB d i j := ((edgeB_is hB).mp h).1
theorem edge_last_n : ∀ (n i m j : Nat), j - m ≤ n → m < j → d m j = true → (i = m ∨ HB d i m) → ∃ m, edgeB d B m j = true ∧ (i = m ∨ HB d i m)
  | 0, i, m, j, h, h1, _, _ => by omega
  | n + 1, i, m, j, h, h1, h2, h3 => by
    by_cases c : sB d B j (m + 1) m = true
    · obtain ⟨i', q1, q2, q3, q4⟩ := (sB_iff hB j (m + 1) m).mp c
      rcases q4 with q4 | q4
      · omega
      · refine edge_last_n n i i' j (by omega) q2 q3 (.inr ?_)
        rcases h3 with rfl | h3
        · exact q4
        · exact .then h3 q4
    · exact ⟨m, (edgeB_iff d B m j).mpr ⟨h1, h2, by simpa using c⟩, h3⟩
/-- The last step on a way is an edge. -/
theorem edge_last {i j : Nat} (h : HB d i j) : ∃ m, edgeB d B m j = true ∧ (i = m ∨ HB d i m) := by
  obtain ⟨m, h1, h2, h3⟩ := h.last
  exact edge_last_n hB _ i m j (Nat.le_refl _) h1 h2 h3
/-- The first step on a way can be an edge. -/
theorem edge_first_n : ∀ (n i j : Nat), j ≤ n → HB d i j → ∃ m, edgeB d B i m = true ∧ (m = j ∨ HB d m j)
  | 0, i, j, h, q => by have := q.lt; omega
  | n + 1, i, j, h, q => by
    obtain ⟨m, h1, h2⟩ := edge_last hB q
    have hm := edgeB_hb hB h1
    rcases h2 with rfl | h2
    · exact ⟨j, h1, .inl rfl⟩
    · obtain ⟨k, k1, k2⟩ := edge_first_n n i m (by have := hm.lt; omega) h2
      refine ⟨k, k1, .inr ?_⟩
      rcases k2 with rfl | k2
      · exact hm
      · exact .then k2 hm
theorem edge_first {i j : Nat} (h : HB d i j) : ∃ m, edgeB d B i m = true ∧ (m = j ∨ HB d m j) := edge_first_n hB j i j (Nat.le_refl _) h
end
/-- Two neighbours changed about. -/
def swp (i k : Nat) : Nat := if k = i then i + 1 else if k = i + 1 then i else k
theorem swp_swp (i k : Nat) : swp i (swp i k) = k := by unfold swp; split <;> split <;> (try split) <;> omega
theorem swp_lt {i k n : Nat} (h : i + 1 < n) (hk : k < n) : swp i k < n := by unfold swp; split <;> (try split) <;> omega
theorem swp_inj {i a b : Nat} (h : swp i a = swp i b) : a = b := by rw [← swp_swp i a, h, swp_swp]
theorem hb_swp {d d' : Nat → Nat → Bool} {i : Nat} (hd : ∀ a b, d a b = true → d' (swp i a) (swp i b) = true) (h0 : d i (i + 1) = false) {a b : Nat} (h : HB d a b) : HB d' (swp i a) (swp i b) := by
  induction h with
  | @one a b hab q =>
    refine .one ?_ (hd _ _ q)
    unfold swp
    by_cases c : a = i ∧ b = i + 1
    · obtain ⟨rfl, rfl⟩ := c
      rw [h0] at q; cases q
    · (repeat' split) <;> omega
  | «then» _ _ h1 h2 => exact .then h1 h2
theorem cnt_swp2 (p : Nat → Bool) (i : Nat) : cnt (fun k => p (swp i k)) (i + 2) = cnt p (i + 2) := by
  have e : cnt (fun k => p (swp i k)) i = cnt p i := cnt_congr fun k hk => by
    have : swp i k = k := by unfold swp; split <;> (try split) <;> omega
    simp only [this]
  have e1 : swp i i = i + 1 := by simp [swp]
  have e2 : swp i (i + 1) = i := by simp [swp]
  show (cnt (fun k => p (swp i k)) i + (if p (swp i i) then 1 else 0)) + (if p (swp i (i + 1)) then 1 else 0) = (cnt p i + (if p i then 1 else 0)) + (if p (i + 1) then 1 else 0)
  rw [e, e1, e2]
  omega
theorem cnt_swp (p : Nat → Bool) (i : Nat) : ∀ n, i + 2 ≤ n → cnt (fun k => p (swp i k)) n = cnt p n
  | 0, h => by omega
  | n + 1, h => by
    by_cases c : n + 1 = i + 2
    · rw [c]; exact cnt_swp2 p i
    · have ih := cnt_swp p i n (by omega)
      have e : swp i n = n := by unfold swp; split <;> (try split) <;> omega
      show cnt (fun k => p (swp i k)) n + (if p (swp i n) then 1 else 0) = cnt p n + (if p n then 1 else 0)
      rw [ih, e]
/-- The clocks of a trace with two neighbours changed about that do not depend on each other. -/
theorem ck_swp {d d' B B' : Nat → Nat → Bool} (hB : Tells d B) (hB' : Tells d' B') {g g' : Nat → Nat} {i n : Nat} (hn : i + 2 ≤ n) (hd : ∀ a b, d' a b = d (swp i a) (swp i b)) (hg : ∀ a, g' a = g (swp i a)) (h0 : d i (i + 1) = false) (h1 : d (i + 1) i = false) {j : Nat} (hj : j < n) (a : Nat) :
    ck B' g' (swp i j) a = ck B g j a := by
  rw [ckn_at hB' (swp_lt (by omega) hj), ckn_at hB hj, ← cnt_swp _ i n hn]
  refine cnt_congr fun k _ => ?_
  have key : HB d' (swp i k) (swp i j) ↔ HB d k j := by
    constructor
    · intro h
      have := hb_swp (d := d') (d' := d) (i := i) (fun a b q => by rw [hd] at q; exact q) (by rw [hd]; unfold swp; simp; exact h1) h
      rwa [swp_swp, swp_swp] at this
    · intro h
      exact hb_swp (fun a b q => by rw [hd, swp_swp, swp_swp]; exact q) h0 h
  simp only [hg, swp_swp, Bool.and_eq_true, Bool.or_eq_true, beq_iff_eq, hB' _ _, hB k j, key]
  constructor
  · rintro ⟨q1, q2 | q2⟩
    · exact ⟨q1, .inl (swp_inj q2)⟩
    · exact ⟨q1, .inr q2⟩
  · rintro ⟨q1, q2 | q2⟩
    · exact ⟨q1, .inl (by rw [q2])⟩
    · exact ⟨q1, .inr q2⟩
/-- How many stand ahead of each: along every edge one more, and no more than by some edge. -/
structure High (n : Nat) (e : Nat → Nat → Bool) (h : Nat → Int) : Prop where
  pos : ∀ j, j < n → 0 ≤ h j
  up : ∀ i j, i < j → j < n → e i j = true → h i + 1 ≤ h j
  some : ∀ j, j < n → h j = 0 ∨ ∃ i, i < j ∧ e i j = true ∧ h j = h i + 1
theorem High.hb {d B : Nat → Nat → Bool} (hB : Tells d B) {n : Nat} {h : Nat → Int} (hh : High n (edgeB d B) h) : ∀ (m i j : Nat), j ≤ m → j < n → HB d i j → h i + 1 ≤ h j
  | 0, i, j, h1, _, q => by have := q.lt; omega
  | m + 1, i, j, h1, h2, q => by
    obtain ⟨k, k1, k2⟩ := edge_last hB q
    have hk := ((edgeB_iff d B k j).mp k1).1
    have u := hh.up k j hk h2 k1
    rcases k2 with rfl | k2
    · exact u
    · have := hh.hb hB m i k (by omega) (by omega) k2
      omega
/-- As many as a goroutine has: no more than are in a chain. -/
theorem High.own {d B : Nat → Nat → Bool} (hB : Tells d B) {g : Nat → Nat} {n : Nat} (ho : Ord d g n) {h : Nat → Int} (hh : High n (edgeB d B) h) (a : Nat) (H : Int) (h0 : 0 ≤ H) (hH : ∀ j, j < n → h j + 1 ≤ H) :
    ∀ m, m ≤ n → (cnt (fun k => g k == a) m : Int) ≤ H ∧ (cnt (fun k => g k == a) m = 0 ∨ ∃ k, k < m ∧ g k = a ∧ (cnt (fun k => g k == a) m : Int) ≤ h k + 1)
  | 0, _ => ⟨by show ((0 : Nat) : Int) ≤ H; omega, .inl rfl⟩
  | m + 1, hm => by
    obtain ⟨i1, i2⟩ := hh.own hB ho a H h0 hH m (by omega)
    have e : cnt (fun k => g k == a) (m + 1) = cnt (fun k => g k == a) m + (if (g m == a) = true then 1 else 0) := rfl
    by_cases c : g m = a
    · have c2 : (g m == a) = true := by simpa using c
      rw [if_pos c2] at e
      rw [e]
      have key : ((cnt (fun k => g k == a) m + 1 : Nat) : Int) ≤ h m + 1 := by
        rcases i2 with q | ⟨k, k1, k2, k3⟩
        · have := hh.pos m (by omega); rw [q]; omega
        · have := hh.hb hB m k m (Nat.le_refl _) (by omega) (.one k1 (ho k m k1 (by omega) (by rw [k2, c])))
          omega
      refine ⟨by have := hH m (by omega); omega, .inr ⟨m, by omega, c, key⟩⟩
    · have c2 : ¬ (g m == a) = true := by simpa using c
      rw [if_neg c2] at e
      rw [e, Nat.add_zero]
      refine ⟨i1, i2.imp_right ?_⟩
      rintro ⟨k, k1, k2, k3⟩
      exact ⟨k, by omega, k2, k3⟩
end Go.Proofs.Ytkhhkgfaakgdfaa.pg
