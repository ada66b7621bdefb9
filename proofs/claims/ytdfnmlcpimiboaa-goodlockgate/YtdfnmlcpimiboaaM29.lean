/- The document's closes: what stands around it. -/
import Derived.Test.YtdfnmlcpimiboaaM28
namespace Go.Proofs.Ytdfnmlcpimiboaa.pg
open Go.ChangeShapes Go.WideShapes Go.ChangeAt Go.RowKit
set_option linter.unusedVariables false
set_option linter.unusedSimpArgs false
set_option maxRecDepth 100000
def stpK (L : List Kd) (r : List Nat) (ap : Bool) (m n : Nat) (gs : Int → Bool) (lk : Nat → Bool) (k : Kd) : Bool := (k.fr == (r.getD n 0 : Int) && k.tw == (r.getD ((n + 1) % r.length) 0 : Int)) && (!(gs k.tk.by_) && !(ap && clshB lk k.tk) && clsB L r ap m (n + 1) (addG gs k.tk) (addH lk k.tk))
theorem clsB_step (L : List Kd) (r : List Nat) (ap : Bool) (m n : Nat) (gs : Int → Bool) (lk : Nat → Bool) : clsB L r ap (m + 1) n gs lk = L.any (stpK L r ap m n gs lk) := rfl
theorem stp_no {L : List Kd} {r : List Nat} {ap : Bool} {m n : Nat} {gs : Int → Bool} {lk : Nat → Bool} {k : Kd} (h : k.fr ≠ (r.getD n 0 : Int) ∨ k.tw ≠ (r.getD ((n + 1) % r.length) 0 : Int) ∨ gs k.tk.by_ = true ∨ (ap && clshB lk k.tk) = true) : stpK L r ap m n gs lk k = false := by
  unfold stpK
  rcases h with h | h | h | h
  · rw [beq_eq_false_iff_ne.mpr h]; simp
  · rw [beq_eq_false_iff_ne.mpr h]; simp
  · rw [h]; simp
  · rw [h]; simp
theorem stp_is {L : List Kd} {r : List Nat} {ap : Bool} {m n : Nat} {gs : Int → Bool} {lk : Nat → Bool} {k : Kd} (h1 : k.fr = (r.getD n 0 : Int)) (h2 : k.tw = (r.getD ((n + 1) % r.length) 0 : Int)) (h3 : gs k.tk.by_ = false) (h4 : (ap && clshB lk k.tk) = false) : stpK L r ap m n gs lk k = clsB L r ap m (n + 1) (addG gs k.tk) (addH lk k.tk) := by
  unfold stpK
  rw [h3, h4, beq_iff_eq.mpr h1, beq_iff_eq.mpr h2]
  rfl
theorem take_moreK {l : List Kd} {k : Nat} {y : Kd} {p : Kd → Bool} (hy : l[k]? = some y) (h : ∀ z ∈ l.take k, p z = false) (hp : p y = false) : ∀ z ∈ l.take (k + 1), p z = false := fun z hz => by
  rw [take_one l k y hy, List.mem_append, List.mem_singleton] at hz
  rcases hz with hz | rfl
  · exact h z hz
  · exact hp
def clN (lk : Nat → Bool) (x : Tk) (i : Nat) : Bool := (List.range i).any fun k => lk k && hvF x k
def mrN (lk : Nat → Bool) (x : Tk) (i : Nat) : Nat → Bool := fun b => if b < i then lk b || hvF x b else lk b
theorem clN_step (lk : Nat → Bool) (x : Tk) (i : Nat) : clN lk x (i + 1) = (clN lk x i || (lk i && hvF x i)) := by
  unfold clN
  rw [List.range_succ, List.any_append]
  simp
theorem mrN_step (lk : Nat → Bool) (x : Tk) (i : Nat) : (fun b => if b = i then (lk i || hvF x i) else mrN lk x i b) = mrN lk x (i + 1) := by
  funext b
  unfold mrN
  by_cases h : b = i
  · rw [if_pos h, if_pos (by omega), h]
  · rw [if_neg h]
    by_cases h2 : b < i
    · rw [if_pos h2, if_pos (by omega)]
    · rw [if_neg h2, if_neg (by omega)]
theorem mrN_at (lk : Nat → Bool) (x : Tk) (i : Nat) : mrN lk x i i = lk i := by
  unfold mrN
  rw [if_neg (by omega)]
theorem clN_all (lk : Nat → Bool) (x : Tk) : clN lk x 4 = clshB lk x := by
  unfold clN clshB
  simp [List.range_succ, hvF, Bool.or_assoc]
theorem mrN_all (lk : Nat → Bool) (x : Tk) : boolRow 4 (mrN lk x 4) = boolRow 4 (addH lk x) := br_congr fun j hj => by
  unfold mrN addH
  rw [if_pos hj]
theorem mrN_zero (lk : Nat → Bool) (x : Tk) : mrN lk x 0 = lk := by
  funext b
  unfold mrN
  rw [if_neg (by omega)]
theorem add_row {gs : Int → Bool} {x : Tk} {g : Nat} (h : x.by_ = (g : Int)) : boolRow 6 (fun b => if b = g then true else gs (b : Int)) = boolRow 6 (fun b => addG gs x (b : Int)) := br_congr fun j _ => by
  unfold addG
  rw [h]
  by_cases e : j = g
  · rw [if_pos e, e]; simp
  · rw [if_neg e]
    have : ((j : Int) == (g : Int)) = false := by rw [beq_eq_false_iff_ne]; omega
    rw [this, Bool.or_false]
theorem zeroB6 : ∀ w, (zeroValue 83).run Try.prog w = .ok (.agg (boolRow 6 fun _ => false)) w := fun w => by kernel_rfl
theorem infoB6 : (Try.prog.info? 83).map (·.size) = some 6 := by kernel_rfl
theorem ix6B (B k : Nat) (hk : k < 6) : ∀ wx, (Instr.indexAt 83 (.pointer (some ⟨B, 0, none⟩)) (.int .i64 (k : Int))).run Try.prog wx = .ok (.pointer (some ⟨B, k, none⟩)) wx := by
  match k, hk with
  | 0, _ => exact fun _ => by kernel_rfl
  | 1, _ => exact fun _ => by kernel_rfl
  | 2, _ => exact fun _ => by kernel_rfl
  | 3, _ => exact fun _ => by kernel_rfl
  | 4, _ => exact fun _ => by kernel_rfl
  | 5, _ => exact fun _ => by kernel_rfl
theorem ix4C (B k : Nat) (hk : k < 4) : ∀ wx, (Instr.indexAt 66 (.pointer (some ⟨B, 3, none⟩)) (.int .i64 (k : Int))).run Try.prog wx = .ok (.pointer (some ⟨B, 3 + k, none⟩)) wx := by
  match k, hk with
  | 0, _ => exact fun _ => by kernel_rfl
  | 1, _ => exact fun _ => by kernel_rfl
  | 2, _ => exact fun _ => by kernel_rfl
  | 3, _ => exact fun _ => by kernel_rfl
theorem kd_hv {X : World} {C k : Nat} {x : Kd} (h : X.heap[C]? = some (objKd x)) (hk : k < 4) : X.cell? ⟨C, 3 + k, none⟩ = some (.bool (hvF x.tk k)) := by
  match k, hk with
  | 0, _ => exact cell_lcG h rfl
  | 1, _ => exact cell_lcG h rfl
  | 2, _ => exact cell_lcG h rfl
  | 3, _ => exact cell_lcG h rfl
section
variable {w X X' : World} {B K C E G : Nat} {gs : Int → Bool} {lk f h : Nat → Bool} {y : Kd}
/-- Where the goroutines taken and the locks held lie. -/
structure CsS (w X : World) (B K : Nat) (gs : Int → Bool) (lk : Nat → Bool) : Prop where
  g : X.heap[B]? = some (.cells (boolRow 6 fun g => gs (g : Int)) 83)
  k : X.heap[K]? = some (.cells (boolRow 4 lk) 66)
  b : Below w.heap.size w X
theorem CsS.later (a : CsS w X B K gs lk) (hb : Below X.heap.size X X') : CsS w X' B K gs lk := ⟨blk_onG a.g hb, blk_onG a.k hb, bthen a.b hb⟩
/-- Besides: a kind, and the locks that are held with it. -/
structure CsR (w X : World) (B K C E : Nat) (gs : Int → Bool) (lk : Nat → Bool) (y : Kd) (f : Nat → Bool) : Prop where
  s : CsS w X B K gs lk
  c : X.heap[C]? = some (objKd y)
  e : X.heap[E]? = some (.cells (boolRow 4 f) 66)
  ne : E ≠ B ∧ E ≠ K ∧ E ≠ C
  d : w.heap.size ≤ E
theorem CsR.later (a : CsR w X B K C E gs lk y f) (hb : Below X.heap.size X X') : CsR w X' B K C E gs lk y f := ⟨a.s.later hb, blk_onG a.c hb, blk_onG a.e hb, a.ne, a.d⟩
theorem CsR.make (a : CsS w X B K gs lk) (hc : X.heap[C]? = some (objKd y)) : CsR w (X.alloc (.cells (boolRow 4 lk) 66)) B K C X.heap.size gs lk y lk := by
  have hb := boxed X (.cells (boolRow 4 lk) 66)
  refine ⟨a.later hb, blk_onG hc hb, heap_alloc_new _ _, ⟨?_, ?_, ?_⟩, a.b.size⟩
  · have := (Array.getElem?_eq_some_iff.mp a.g).1; omega
  · have := (Array.getElem?_eq_some_iff.mp a.k).1; omega
  · have := (Array.getElem?_eq_some_iff.mp hc).1; omega
theorem CsR.put (a : CsR w X B K C E gs lk y f) (i : Nat) (v : Bool) : CsR w (X.setCell ⟨E, i, none⟩ (.bool v)) B K C E gs lk y (fun b => if b = i then v else f b) :=
  ⟨⟨(heap_setCell_other _ ⟨E, i, none⟩ B _ (Ne.symm a.ne.1)).trans a.s.g, (heap_setCell_other _ ⟨E, i, none⟩ K _ (Ne.symm a.ne.2.1)).trans a.s.k, a.s.b.setCell (p := ⟨E, i, none⟩) a.d _⟩, (heap_setCell_other _ ⟨E, i, none⟩ C _ (Ne.symm a.ne.2.2)).trans a.c, br_put a.e i v, a.ne, a.d⟩
/-- Besides: the goroutines that are taken with it. -/
structure CsG (w X : World) (B K C E G : Nat) (gs : Int → Bool) (lk : Nat → Bool) (y : Kd) (f h : Nat → Bool) : Prop where
  r : CsR w X B K C E gs lk y f
  g : X.heap[G]? = some (.cells (boolRow 6 h) 83)
  ne : G ≠ B ∧ G ≠ K ∧ G ≠ C ∧ G ≠ E
  d : w.heap.size ≤ G
theorem CsG.make (a : CsR w X B K C E gs lk y f) : CsG w (X.alloc (.cells (boolRow 6 fun g => gs (g : Int)) 83)) B K C E X.heap.size gs lk y f (fun g => gs (g : Int)) := by
  refine ⟨a.later (boxed _ _), heap_alloc_new _ _, ⟨?_, ?_, ?_, ?_⟩, a.s.b.size⟩
  · have := (Array.getElem?_eq_some_iff.mp a.s.g).1; omega
  · have := (Array.getElem?_eq_some_iff.mp a.s.k).1; omega
  · have := (Array.getElem?_eq_some_iff.mp a.c).1; omega
  · have := (Array.getElem?_eq_some_iff.mp a.e).1; omega
theorem CsG.put (a : CsG w X B K C E G gs lk y f h) (i : Nat) (v : Bool) : CsG w (X.setCell ⟨G, i, none⟩ (.bool v)) B K C E G gs lk y f (fun b => if b = i then v else h b) :=
  ⟨⟨⟨(heap_setCell_other _ ⟨G, i, none⟩ B _ (Ne.symm a.ne.1)).trans a.r.s.g, (heap_setCell_other _ ⟨G, i, none⟩ K _ (Ne.symm a.ne.2.1)).trans a.r.s.k, a.r.s.b.setCell (p := ⟨G, i, none⟩) a.d _⟩, (heap_setCell_other _ ⟨G, i, none⟩ C _ (Ne.symm a.ne.2.2.1)).trans a.r.c, (heap_setCell_other _ ⟨G, i, none⟩ E _ (Ne.symm a.ne.2.2.2)).trans a.r.e, a.r.ne, a.r.d⟩, br_put a.g i v, a.ne, a.d⟩
theorem CsG.row {g : Nat} (a : CsG w X B K C E G gs lk y f (fun b => if b = g then true else gs (b : Int))) (hg : y.tk.by_ = (g : Int)) : X.heap[G]? = some (.cells (boolRow 6 fun b => addG gs y.tk (b : Int)) 83) := by
  rw [← add_row hg]
  exact a.g
end
end Go.Proofs.Ytdfnmlcpimiboaa.pg
/- The document's closes, in memory. -/
namespace Go.Proofs.Ytdfnmlcpimiboaa.pg
open Go.ChangeShapes Go.WideShapes Go.ChangeAt Go.RowKit
set_option linter.unusedVariables false
set_option linter.unusedSimpArgs false
set_option maxRecDepth 100000
attribute [local go_sem ↓] Go.wp_at_zero Go.wp_at_succ
set_option maxHeartbeats 8000000 in
theorem closes_anyG {L : List Kd} {r : List Nat} {ap : Bool} {ka ra : Option Addr} {kc rc : Nat} (hL : L.length ≤ 1024) (hg : ∀ k ∈ L, 0 ≤ k.tk.by_ ∧ k.tk.by_ < 6) (hr4 : r.length ≤ 4) : ∀ (m n : Nat) (gs : Int → Bool) (lk : Nat → Bool) (w : World), n + m = r.length → Rows w 7 ka kc (L.map Kd.cells) → Rows w 1 ra rc ((asZ r).map chCells) →
    Calls Try.prog 39 #[.slice ka L.length kc, .slice ra r.length rc, .int .i64 (n : Int), .agg (boolRow 6 fun g => gs (g : Int)), .agg (boolRow 4 lk), .bool ap] w fun e w' => e = .returned (.bool (clsB L r ap m n gs lk)) ∧ Below w.heap.size w w' := by
  intro m
  induction m with
  | zero =>
    intro n gs lk w hm hkr hrr
    have heq : ((n : Int) == (r.length : Int)) = true := by rw [beq_iff_eq]; omega
    have hrI : (r.length : Int) ≤ 4 := by omega
    have hI0 : Hid (CsS w ((w.alloc (.cells (boolRow 6 fun g => gs (g : Int)) 83)).alloc (.cells (boolRow 4 lk) 66)) w.heap.size (w.heap.size + 1) gs lk) := by
      have n2 := heap_alloc_new (w.alloc (.cells (boolRow 6 fun g => gs (g : Int)) 83)) (.cells (boolRow 4 lk) 66)
      rw [World.size_alloc] at n2
      exact ⟨blk_onG (heap_alloc_new _ _) (boxed _ _), n2, bthen (boxed _ _) (boxed _ _)⟩
    clear hg hkr hrr
    go_enter Try.func39, Try.ntmps39
    go_upto_region 1 with fail
    change Code.wp _ _ _ _ ((w.alloc (.cells (boolRow 6 fun g => gs (g : Int)) 83)).alloc (.cells (boolRow 4 lk) 66))
    try simp only [Act.put, List.getElem_toArray, List.getElem_cons_succ, List.getElem_cons_zero, List.setIfInBounds_toArray, List.set_cons_zero, List.set_cons_succ, World.size_alloc]
    obtain ⟨K, hK⟩ : ∃ K, w.heap.size + 1 = K := ⟨_, rfl⟩
    obtain ⟨B, hB⟩ : ∃ B, w.heap.size = B := ⟨_, rfl⟩
    have hI1 : Hid (CsS w ((w.alloc (.cells (boolRow 6 fun g => gs (g : Int)) 83)).alloc (.cells (boolRow 4 lk) 66)) B K gs lk) := by (rw [← hK, ← hB]; exact hI0.out)
    rw [hK, hB]
    clear hK hB hI0
    generalize ((w.alloc (.cells (boolRow 6 fun g => gs (g : Int)) 83)).alloc (.cells (boolRow 4 lk) 66)) = W at *
    go_wp2
    go_ret
    exact ⟨rfl, hI1.out.b⟩
  | succ m ih =>
    intro n gs lk w hm hkr hrr
    have hnl : n < r.length := by omega
    have heq : ((n : Int) == (r.length : Int)) = false := by rw [beq_eq_false_iff_ne]; omega
    have hwr : wrap64 ((n : Int) + 1) = (n : Int) + 1 := by simp only [wrap64]; omega
    obtain ⟨m2, hm2⟩ : ∃ m2, (n + 1) % r.length = m2 := ⟨_, rfl⟩
    have hm2l : m2 < r.length := by rw [← hm2]; exact Nat.mod_lt _ (by omega)
    have hrem : ∀ p q wx, ((do
        eqGuard .rem 3 p q (.int .i64 ((n : Int) + 1)) (.int .i64 (r.length : Int))
        binOp .rem 3 (.int .i64 ((n : Int) + 1)) (.int .i64 (r.length : Int))) : Sem Value).run Try.prog wx = .ok (.int .i64 (m2 : Int)) wx := fun p q wx => by
      have := rem_G (n + 1) r.length (by omega) (by omega) hr4 p q wx
      rw [hm2] at this
      exact this
    obtain ⟨p, hp⟩ : ∃ p, r[n]? = some p := ⟨_, List.getElem?_eq_getElem hnl⟩
    obtain ⟨q, hq⟩ : ∃ q, r[m2]? = some q := ⟨_, List.getElem?_eq_getElem hm2l⟩
    have hpq0 : Hid ((r.getD n 0 : Int) = (p : Int) ∧ (r.getD ((n + 1) % r.length) 0 : Int) = (q : Int)) := by
      refine ⟨?_, ?_⟩
      · rw [List.getD_eq_getElem?_getD, hp]; rfl
      · rw [hm2, List.getD_eq_getElem?_getD, hq]; rfl
    obtain ⟨b1, o1, x1, hb1, c1⟩ := int_ixG hrr n p hp
    obtain ⟨b2, o2, x2, hb2, c2⟩ := int_ixG hrr m2 q hq
    have hc0 : Hid (w.cell? ⟨b1, o1, none⟩ = some (.int .i64 (p : Int)) ∧ w.cell? ⟨b2, o2, none⟩ = some (.int .i64 (q : Int)) ∧ b1 < w.heap.size ∧ b2 < w.heap.size) := ⟨c1, c2, hb1, hb2⟩
    have hkH : Hid (Rows w 7 ka kc (L.map Kd.cells)) := hkr
    have hgH : Hid (∀ k ∈ L, 0 ≤ k.tk.by_ ∧ k.tk.by_ < 6) := hg
    have hu4 : Hid (Try.prog.underlying 66 = _) := Try.underlying66
    have hu6 : Hid (Try.prog.underlying 83 = _) := Try.underlying83
    have huK : Hid (Try.prog.underlying 106 = _) := Try.underlying106
    have hrI : (r.length : Int) ≤ 4 := by omega
    have hLI : (L.length : Int) ≤ 1024 := by omega
    have hnI : (n : Int) < 4 := by omega
    have ihC : Hid (∀ (y : Kd) (wx : World), Below w.heap.size w wx → Calls Try.prog 39 #[.slice ka L.length kc, .slice ra r.length rc, .int .i64 ((n : Int) + 1), .agg (boolRow 6 fun b => addG gs y.tk (b : Int)), .agg (boolRow 4 (addH lk y.tk)), .bool ap] wx fun e w' => e = .returned (.bool (clsB L r ap m (n + 1) (addG gs y.tk) (addH lk y.tk))) ∧ Below wx.heap.size wx w') := fun y wx q => by
      have h := ih (n + 1) (addG gs y.tk) (addH lk y.tk) wx (by omega) (hkr.later q) (hrr.later q)
      rw [show ((n + 1 : Nat) : Int) = (n : Int) + 1 by omega] at h
      exact h
    rw [clsB_step]
    have hI0 : Hid (CsS w ((w.alloc (.cells (boolRow 6 fun g => gs (g : Int)) 83)).alloc (.cells (boolRow 4 lk) 66)) w.heap.size (w.heap.size + 1) gs lk) := by
      have n2 := heap_alloc_new (w.alloc (.cells (boolRow 6 fun g => gs (g : Int)) 83)) (.cells (boolRow 4 lk) 66)
      rw [World.size_alloc] at n2
      exact ⟨blk_onG (heap_alloc_new _ _) (boxed _ _), n2, bthen (boxed _ _) (boxed _ _)⟩
    clear hg hkr hrr hp hq c1 c2 hb1 hb2 hm2 ih
    go_enter Try.func39, Try.ntmps39
    go_upto_region 1 with fail
    change Code.wp _ _ _ _ ((w.alloc (.cells (boolRow 6 fun g => gs (g : Int)) 83)).alloc (.cells (boolRow 4 lk) 66))
    try simp only [Act.put, List.getElem_toArray, List.getElem_cons_succ, List.getElem_cons_zero, List.setIfInBounds_toArray, List.set_cons_zero, List.set_cons_succ, World.size_alloc]
    obtain ⟨K, hK⟩ : ∃ K, w.heap.size + 1 = K := ⟨_, rfl⟩
    obtain ⟨B, hB⟩ : ∃ B, w.heap.size = B := ⟨_, rfl⟩
    have hI1 : Hid (CsS w ((w.alloc (.cells (boolRow 6 fun g => gs (g : Int)) 83)).alloc (.cells (boolRow 4 lk) 66)) B K gs lk) := by (rw [← hK, ← hB]; exact hI0.out)
    rw [hK, hB]
    clear hK hB hI0
    generalize ((w.alloc (.cells (boolRow 6 fun g => gs (g : Int)) 83)).alloc (.cells (boolRow 4 lk) 66)) = W at *
    go_wp2_with fail
    go_loopw [25] (fun u wr => ∃ j : Nat, j ≤ L.length ∧ u = .int .i64 (j : Int) ∧ Hid (CsS w wr B K gs lk) ∧ Hid (∀ z ∈ L.take j, stpK L r ap m n gs lk z = false)) (fun u _ => L.length - (intOf u).toNat)
    case atStart => exact ⟨0, Nat.zero_le _, rfl, hI1.out, fun z hz => by simp at hz⟩
    case round =>
      obtain ⟨j, hj, rfl, hq, hno⟩ := hrel
      clear hI1
      by_cases hlj : j < L.length
      · have hjI : (j : Int) < L.length := by omega
        obtain ⟨y, hy⟩ : ∃ y, L[j]? = some y := ⟨_, List.getElem?_eq_getElem hlj⟩
        have hyg := hgH.out y (List.mem_of_getElem? hy)
        obtain ⟨b0, o0, x0, l0, r0⟩ := kd_ix (hkH.out.later hq.out.b) j y hy
        obtain ⟨yf, yt, yg, s0, s1, s2, s3⟩ := y
        simp only at hyg
        obtain ⟨g, rfl⟩ : ∃ g : Nat, yg = (g : Int) := ⟨yg.toNat, by omega⟩
        have hg6 : g < 6 := by omega
        have hyH : Hid (L[j]? = some ⟨yf, yt, ⟨(g : Int), s0, s1, s2, s3⟩⟩) := hy
        have hrg : Hid (wr.rangeAt b0 o0 [.int .i64 yf, .int .i64 yt, .int .i64 (g : Int), .bool s0, .bool s1, .bool s2, .bool s3]) := r0
        have hst1 : Hid (CsS w (wr.alloc (objKd ⟨yf, yt, ⟨(g : Int), s0, s1, s2, s3⟩⟩)) B K gs lk ∧ (wr.alloc (objKd ⟨yf, yt, ⟨(g : Int), s0, s1, s2, s3⟩⟩)).heap[wr.heap.size]? = some (objKd ⟨yf, yt, ⟨(g : Int), s0, s1, s2, s3⟩⟩)) := ⟨hq.out.later (boxed _ _), heap_alloc_new _ _⟩
        clear r0 l0 hq hy hyg
        go_upto_region 6 with (first
          | (refine wpList_load_mid rfl 106 _ rfl b0 o0 rfl [.int .i64 yf, .int .i64 yt, .int .i64 (g : Int), .bool s0, .bool s1, .bool s2, .bool s3] _ hrg.out huK.out rfl infoKd7 ?_)
          | (refine wpList_store_new rfl 106 _ _ rfl rfl _ #[.int .i64 yf, .int .i64 yt, .int .i64 (g : Int), .bool s0, .bool s1, .bool s2, .bool s3] rfl (by kernel_rfl) rfl (kd_oneX _ _ _ _ _ _ _) ?_))
        change Code.wp _ _ _ _ (wr.alloc (objKd ⟨yf, yt, ⟨(g : Int), s0, s1, s2, s3⟩⟩))
        generalize wr.alloc (objKd ⟨yf, yt, ⟨(g : Int), s0, s1, s2, s3⟩⟩) = X1 at *
        generalize wr.heap.size = C at *
        clear hrg x0
        obtain ⟨tb, htb⟩ : ∃ tb, gs (g : Int) = tb := ⟨_, rfl⟩
        have hRd : Hid (∀ w', Below X1.heap.size X1 w' → w'.rangeAt C 0 [.int .i64 yf, .int .i64 yt, .int .i64 (g : Int), .bool s0, .bool s1, .bool s2, .bool s3] ∧ w'.cell? ⟨b1, o1, none⟩ = some (.int .i64 (p : Int)) ∧ w'.cell? ⟨b2, o2, none⟩ = some (.int .i64 (q : Int)) ∧ w'.cell? ⟨B, g, none⟩ = some (.bool tb)) := fun w' z => by
          have h2 : Below w.heap.size w w' := bthen hst1.out.1.b z
          exact ⟨rng_blkG (blk_onG hst1.out.2 z), cell_keepG hc0.out.1 (h2.block _ hc0.out.2.2.1), cell_keepG hc0.out.2.1 (h2.block _ hc0.out.2.2.2), by (rw [← htb]; exact br_cell (blk_onG hst1.out.1.g z) hg6)⟩
        have htb : Hid (gs (g : Int) = tb) := htb
        have hS : Hid (Below X1.heap.size X1 X1.drew) := bey_drew X1
        have xg := ix6B B g hg6
        refine wp_region_noPanic ?_
        refine wp_region_held_drew (S := fun w' => Below X1.heap.size X1 w') (by kernel_rfl) hS.out (fun _ => ?_)
        refine reg_move (i := 0) rfl (by kernel_rfl) (by kernel_rfl) (by kernel_rfl) (fun _ _ _ _ h => h) rfl (.pointer (some ⟨C, 0, none⟩)) (fun _ => rfl) hS.out ?_
        simp only [Act.put, List.getElem_toArray, List.getElem_cons_succ, List.getElem_cons_zero, List.setIfInBounds_toArray, List.set_cons_zero, List.set_cons_succ]
        refine reg_load1 (i := 1) rfl (by kernel_rfl) (by kernel_rfl) (by kernel_rfl) (fun _ _ _ _ h => h) rfl 3 _ rfl ⟨C, 0, none⟩ rfl _ Try.underlying3 rfl (.int .i64 yf) (fun w' z => (hRd.out w' z).1 0 _ rfl) hS.out ?_
        simp only [Act.put, List.getElem_toArray, List.getElem_cons_succ, List.getElem_cons_zero, List.setIfInBounds_toArray, List.set_cons_zero, List.set_cons_succ]
        refine reg_move (i := 2) rfl (by kernel_rfl) (by kernel_rfl) (by kernel_rfl) (fun _ _ _ _ h => h) rfl (.slice ra r.length rc) (fun _ => rfl) hS.out ?_
        simp only [Act.put, List.getElem_toArray, List.getElem_cons_succ, List.getElem_cons_zero, List.setIfInBounds_toArray, List.set_cons_zero, List.set_cons_succ]
        refine reg_move (i := 3) rfl (by kernel_rfl) (by kernel_rfl) (by kernel_rfl) (fun _ _ _ _ h => h) rfl (.int .i64 (n : Int)) (fun _ => rfl) hS.out ?_
        simp only [Act.put, List.getElem_toArray, List.getElem_cons_succ, List.getElem_cons_zero, List.setIfInBounds_toArray, List.set_cons_zero, List.set_cons_succ]
        refine reg_move (i := 4) rfl (by kernel_rfl) (by kernel_rfl) (by kernel_rfl) (fun _ _ _ _ h => h) rfl (.pointer (some ⟨b1, o1, none⟩)) (fun wx => by unfold execOp; exact run_value_of (x1 wx)) hS.out ?_
        simp only [Act.put, List.getElem_toArray, List.getElem_cons_succ, List.getElem_cons_zero, List.setIfInBounds_toArray, List.set_cons_zero, List.set_cons_succ]
        refine reg_load1 (i := 5) rfl (by kernel_rfl) (by kernel_rfl) (by kernel_rfl) (fun _ _ _ _ h => h) rfl 3 _ rfl ⟨b1, o1, none⟩ rfl _ Try.underlying3 rfl (.int .i64 (p : Int)) (fun w' z => (hRd.out w' z).2.1) hS.out ?_
        simp only [Act.put, List.getElem_toArray, List.getElem_cons_succ, List.getElem_cons_zero, List.setIfInBounds_toArray, List.set_cons_zero, List.set_cons_succ]
        refine reg_move (i := 6) rfl (by kernel_rfl) (by kernel_rfl) (by kernel_rfl) (fun _ _ _ _ h => h) rfl (.bool (yf != (p : Int))) (fun _ => rfl) hS.out ?_
        simp only [Act.put, List.getElem_toArray, List.getElem_cons_succ, List.getElem_cons_zero, List.setIfInBounds_toArray, List.set_cons_zero, List.set_cons_succ]
        cases e1 : (yf != (p : Int)) with
        | true =>
          refine reg_move (i := 7) rfl (by kernel_rfl) (by kernel_rfl) (by kernel_rfl) (fun _ _ _ _ h => h) rfl (.bool true) (fun _ => rfl) hS.out ?_
          simp only [Act.put, List.getElem_toArray, List.getElem_cons_succ, List.getElem_cons_zero, List.setIfInBounds_toArray, List.set_cons_zero, List.set_cons_succ]
          refine reg_skipG (i := 8) rfl (by kernel_rfl) (by kernel_rfl) (by kernel_rfl) (fun _ _ _ _ h => h) rfl hS.out ?_
          simp only [Act.put, List.getElem_toArray, List.getElem_cons_succ, List.getElem_cons_zero, List.setIfInBounds_toArray, List.set_cons_zero, List.set_cons_succ]
          refine reg_skipG (i := 9) rfl (by kernel_rfl) (by kernel_rfl) (by kernel_rfl) (fun _ _ _ _ h => h) rfl hS.out ?_
          simp only [Act.put, List.getElem_toArray, List.getElem_cons_succ, List.getElem_cons_zero, List.setIfInBounds_toArray, List.set_cons_zero, List.set_cons_succ]
          refine reg_skipG (i := 10) rfl (by kernel_rfl) (by kernel_rfl) (by kernel_rfl) (fun _ _ _ _ h => h) rfl hS.out ?_
          simp only [Act.put, List.getElem_toArray, List.getElem_cons_succ, List.getElem_cons_zero, List.setIfInBounds_toArray, List.set_cons_zero, List.set_cons_succ]
          refine reg_skipG (i := 11) rfl (by kernel_rfl) (by kernel_rfl) (by kernel_rfl) (fun _ _ _ _ h => h) rfl hS.out ?_
          simp only [Act.put, List.getElem_toArray, List.getElem_cons_succ, List.getElem_cons_zero, List.setIfInBounds_toArray, List.set_cons_zero, List.set_cons_succ]
          refine reg_skipG (i := 12) rfl (by kernel_rfl) (by kernel_rfl) (by kernel_rfl) (fun _ _ _ _ h => h) rfl hS.out ?_
          simp only [Act.put, List.getElem_toArray, List.getElem_cons_succ, List.getElem_cons_zero, List.setIfInBounds_toArray, List.set_cons_zero, List.set_cons_succ]
          refine reg_skipG (i := 13) rfl (by kernel_rfl) (by kernel_rfl) (by kernel_rfl) (fun _ _ _ _ h => h) rfl hS.out ?_
          simp only [Act.put, List.getElem_toArray, List.getElem_cons_succ, List.getElem_cons_zero, List.setIfInBounds_toArray, List.set_cons_zero, List.set_cons_succ]
          refine reg_skipG (i := 14) rfl (by kernel_rfl) (by kernel_rfl) (by kernel_rfl) (fun _ _ _ _ h => h) rfl hS.out ?_
          simp only [Act.put, List.getElem_toArray, List.getElem_cons_succ, List.getElem_cons_zero, List.setIfInBounds_toArray, List.set_cons_zero, List.set_cons_succ]
          refine reg_skipG (i := 15) rfl (by kernel_rfl) (by kernel_rfl) (by kernel_rfl) (fun _ _ _ _ h => h) rfl hS.out ?_
          simp only [Act.put, List.getElem_toArray, List.getElem_cons_succ, List.getElem_cons_zero, List.setIfInBounds_toArray, List.set_cons_zero, List.set_cons_succ]
          refine reg_skipG (i := 16) rfl (by kernel_rfl) (by kernel_rfl) (by kernel_rfl) (fun _ _ _ _ h => h) rfl hS.out ?_
          simp only [Act.put, List.getElem_toArray, List.getElem_cons_succ, List.getElem_cons_zero, List.setIfInBounds_toArray, List.set_cons_zero, List.set_cons_succ]
          refine reg_skipG (i := 17) rfl (by kernel_rfl) (by kernel_rfl) (by kernel_rfl) (fun _ _ _ _ h => h) rfl hS.out ?_
          simp only [Act.put, List.getElem_toArray, List.getElem_cons_succ, List.getElem_cons_zero, List.setIfInBounds_toArray, List.set_cons_zero, List.set_cons_succ]
          refine reg_skipG (i := 18) rfl (by kernel_rfl) (by kernel_rfl) (by kernel_rfl) (fun _ _ _ _ h => h) rfl hS.out ?_
          simp only [Act.put, List.getElem_toArray, List.getElem_cons_succ, List.getElem_cons_zero, List.setIfInBounds_toArray, List.set_cons_zero, List.set_cons_succ]
          refine reg_move (i := 19) rfl (by kernel_rfl) (by kernel_rfl) (by kernel_rfl) (fun _ _ _ _ h => h) rfl (.bool true) (fun _ => rfl) hS.out ?_
          simp only [Act.put, List.getElem_toArray, List.getElem_cons_succ, List.getElem_cons_zero, List.setIfInBounds_toArray, List.set_cons_zero, List.set_cons_succ]
          refine reg_move (i := 20) rfl (by kernel_rfl) (by kernel_rfl) (by kernel_rfl) (fun _ _ _ _ h => h) rfl (.bool true) (fun _ => rfl) hS.out ?_
          simp only [Act.put, List.getElem_toArray, List.getElem_cons_succ, List.getElem_cons_zero, List.setIfInBounds_toArray, List.set_cons_zero, List.set_cons_succ]
          refine reg_skipG (i := 21) rfl (by kernel_rfl) (by kernel_rfl) (by kernel_rfl) (fun _ _ _ _ h => h) rfl hS.out ?_
          simp only [Act.put, List.getElem_toArray, List.getElem_cons_succ, List.getElem_cons_zero, List.setIfInBounds_toArray, List.set_cons_zero, List.set_cons_succ]
          refine reg_skipG (i := 22) rfl (by kernel_rfl) (by kernel_rfl) (by kernel_rfl) (fun _ _ _ _ h => h) rfl hS.out ?_
          simp only [Act.put, List.getElem_toArray, List.getElem_cons_succ, List.getElem_cons_zero, List.setIfInBounds_toArray, List.set_cons_zero, List.set_cons_succ]
          refine reg_skipG (i := 23) rfl (by kernel_rfl) (by kernel_rfl) (by kernel_rfl) (fun _ _ _ _ h => h) rfl hS.out ?_
          simp only [Act.put, List.getElem_toArray, List.getElem_cons_succ, List.getElem_cons_zero, List.setIfInBounds_toArray, List.set_cons_zero, List.set_cons_succ]
          refine reg_skipG (i := 24) rfl (by kernel_rfl) (by kernel_rfl) (by kernel_rfl) (fun _ _ _ _ h => h) rfl hS.out ?_
          simp only [Act.put, List.getElem_toArray, List.getElem_cons_succ, List.getElem_cons_zero, List.setIfInBounds_toArray, List.set_cons_zero, List.set_cons_succ]
          refine reg_move (i := 25) rfl (by kernel_rfl) (by kernel_rfl) (by kernel_rfl) (fun _ _ _ _ h => h) rfl (.bool true) (fun _ => rfl) hS.out ?_
          simp only [Act.put, List.getElem_toArray, List.getElem_cons_succ, List.getElem_cons_zero, List.setIfInBounds_toArray, List.set_cons_zero, List.set_cons_succ]
          refine wpAnyH_done (by kernel_rfl) (NoPanic.normal ?_) _
          have hst2 : Hid (CsS w X1.drew B K gs lk ∧ ∀ z ∈ L.take (j + 1), stpK L r ap m n gs lk z = false) := ⟨hst1.out.1.later hS.out, take_moreK (p := stpK L r ap m n gs lk) hyH.out hno.out (stp_no (.inl (by (rw [hpq0.out.1]; exact bne_iff_ne.mp e1))))⟩
          generalize X1.drew = X2 at *
          clear hS hRd hst1 hno
          go_wp2
          go_roundw
          case rel => exact ⟨j + 1, by omega, by go_num, hst2.out.1, hst2.out.2⟩
          case measure => simp [intOf]; omega
        | false =>
          refine reg_move (i := 7) rfl (by kernel_rfl) (by kernel_rfl) (by kernel_rfl) (fun _ _ _ _ h => h) rfl (.bool false) (fun _ => rfl) hS.out ?_
          simp only [Act.put, List.getElem_toArray, List.getElem_cons_succ, List.getElem_cons_zero, List.setIfInBounds_toArray, List.set_cons_zero, List.set_cons_succ]
          refine reg_move (i := 8) rfl (by kernel_rfl) (by kernel_rfl) (by kernel_rfl) (fun _ _ _ _ h => h) rfl (.pointer (some ⟨C, 1, none⟩)) (fun _ => rfl) hS.out ?_
          simp only [Act.put, List.getElem_toArray, List.getElem_cons_succ, List.getElem_cons_zero, List.setIfInBounds_toArray, List.set_cons_zero, List.set_cons_succ]
          refine reg_load1 (i := 9) rfl (by kernel_rfl) (by kernel_rfl) (by kernel_rfl) (fun _ _ _ _ h => h) rfl 3 _ rfl ⟨C, 1, none⟩ rfl _ Try.underlying3 rfl (.int .i64 yt) (fun w' z => (hRd.out w' z).1 1 _ rfl) hS.out ?_
          simp only [Act.put, List.getElem_toArray, List.getElem_cons_succ, List.getElem_cons_zero, List.setIfInBounds_toArray, List.set_cons_zero, List.set_cons_succ]
          refine reg_move (i := 10) rfl (by kernel_rfl) (by kernel_rfl) (by kernel_rfl) (fun _ _ _ _ h => h) rfl (.slice ra r.length rc) (fun _ => rfl) hS.out ?_
          simp only [Act.put, List.getElem_toArray, List.getElem_cons_succ, List.getElem_cons_zero, List.setIfInBounds_toArray, List.set_cons_zero, List.set_cons_succ]
          refine reg_move (i := 11) rfl (by kernel_rfl) (by kernel_rfl) (by kernel_rfl) (fun _ _ _ _ h => h) rfl (.int .i64 (n : Int)) (fun _ => rfl) hS.out ?_
          simp only [Act.put, List.getElem_toArray, List.getElem_cons_succ, List.getElem_cons_zero, List.setIfInBounds_toArray, List.set_cons_zero, List.set_cons_succ]
          refine reg_move (i := 12) rfl (by kernel_rfl) (by kernel_rfl) (by kernel_rfl) (fun _ _ _ _ h => h) rfl (.int .i64 ((n : Int) + 1)) (fun wx => by unfold execOp; exact run_value_of (add_oneG _ hwr _ _ wx)) hS.out ?_
          simp only [Act.put, List.getElem_toArray, List.getElem_cons_succ, List.getElem_cons_zero, List.setIfInBounds_toArray, List.set_cons_zero, List.set_cons_succ]
          refine reg_move (i := 13) rfl (by kernel_rfl) (by kernel_rfl) (by kernel_rfl) (fun _ _ _ _ h => h) rfl (.slice ra r.length rc) (fun _ => rfl) hS.out ?_
          simp only [Act.put, List.getElem_toArray, List.getElem_cons_succ, List.getElem_cons_zero, List.setIfInBounds_toArray, List.set_cons_zero, List.set_cons_succ]
          refine reg_move (i := 14) rfl (by kernel_rfl) (by kernel_rfl) (by kernel_rfl) (fun _ _ _ _ h => h) rfl (.int .i64 (r.length : Int)) (fun wx => run_lenGi _ rfl _ _ _ rfl wx) hS.out ?_
          simp only [Act.put, List.getElem_toArray, List.getElem_cons_succ, List.getElem_cons_zero, List.setIfInBounds_toArray, List.set_cons_zero, List.set_cons_succ]
          refine reg_move (i := 15) rfl (by kernel_rfl) (by kernel_rfl) (by kernel_rfl) (fun _ _ _ _ h => h) rfl (.int .i64 (m2 : Int)) (fun wx => by unfold execOp; exact run_value_of (hrem _ _ wx)) hS.out ?_
          simp only [Act.put, List.getElem_toArray, List.getElem_cons_succ, List.getElem_cons_zero, List.setIfInBounds_toArray, List.set_cons_zero, List.set_cons_succ]
          refine reg_move (i := 16) rfl (by kernel_rfl) (by kernel_rfl) (by kernel_rfl) (fun _ _ _ _ h => h) rfl (.pointer (some ⟨b2, o2, none⟩)) (fun wx => by unfold execOp; exact run_value_of (x2 wx)) hS.out ?_
          simp only [Act.put, List.getElem_toArray, List.getElem_cons_succ, List.getElem_cons_zero, List.setIfInBounds_toArray, List.set_cons_zero, List.set_cons_succ]
          refine reg_load1 (i := 17) rfl (by kernel_rfl) (by kernel_rfl) (by kernel_rfl) (fun _ _ _ _ h => h) rfl 3 _ rfl ⟨b2, o2, none⟩ rfl _ Try.underlying3 rfl (.int .i64 (q : Int)) (fun w' z => (hRd.out w' z).2.2.1) hS.out ?_
          simp only [Act.put, List.getElem_toArray, List.getElem_cons_succ, List.getElem_cons_zero, List.setIfInBounds_toArray, List.set_cons_zero, List.set_cons_succ]
          refine reg_move (i := 18) rfl (by kernel_rfl) (by kernel_rfl) (by kernel_rfl) (fun _ _ _ _ h => h) rfl (.bool (yt != (q : Int))) (fun _ => rfl) hS.out ?_
          simp only [Act.put, List.getElem_toArray, List.getElem_cons_succ, List.getElem_cons_zero, List.setIfInBounds_toArray, List.set_cons_zero, List.set_cons_succ]
          cases e2 : (yt != (q : Int)) with
          | true =>
            refine reg_move (i := 19) rfl (by kernel_rfl) (by kernel_rfl) (by kernel_rfl) (fun _ _ _ _ h => h) rfl (.bool true) (fun _ => rfl) hS.out ?_
            simp only [Act.put, List.getElem_toArray, List.getElem_cons_succ, List.getElem_cons_zero, List.setIfInBounds_toArray, List.set_cons_zero, List.set_cons_succ]
            refine reg_move (i := 20) rfl (by kernel_rfl) (by kernel_rfl) (by kernel_rfl) (fun _ _ _ _ h => h) rfl (.bool true) (fun _ => rfl) hS.out ?_
            simp only [Act.put, List.getElem_toArray, List.getElem_cons_succ, List.getElem_cons_zero, List.setIfInBounds_toArray, List.set_cons_zero, List.set_cons_succ]
            refine reg_skipG (i := 21) rfl (by kernel_rfl) (by kernel_rfl) (by kernel_rfl) (fun _ _ _ _ h => h) rfl hS.out ?_
            simp only [Act.put, List.getElem_toArray, List.getElem_cons_succ, List.getElem_cons_zero, List.setIfInBounds_toArray, List.set_cons_zero, List.set_cons_succ]
            refine reg_skipG (i := 22) rfl (by kernel_rfl) (by kernel_rfl) (by kernel_rfl) (fun _ _ _ _ h => h) rfl hS.out ?_
            simp only [Act.put, List.getElem_toArray, List.getElem_cons_succ, List.getElem_cons_zero, List.setIfInBounds_toArray, List.set_cons_zero, List.set_cons_succ]
            refine reg_skipG (i := 23) rfl (by kernel_rfl) (by kernel_rfl) (by kernel_rfl) (fun _ _ _ _ h => h) rfl hS.out ?_
            simp only [Act.put, List.getElem_toArray, List.getElem_cons_succ, List.getElem_cons_zero, List.setIfInBounds_toArray, List.set_cons_zero, List.set_cons_succ]
            refine reg_skipG (i := 24) rfl (by kernel_rfl) (by kernel_rfl) (by kernel_rfl) (fun _ _ _ _ h => h) rfl hS.out ?_
            simp only [Act.put, List.getElem_toArray, List.getElem_cons_succ, List.getElem_cons_zero, List.setIfInBounds_toArray, List.set_cons_zero, List.set_cons_succ]
            refine reg_move (i := 25) rfl (by kernel_rfl) (by kernel_rfl) (by kernel_rfl) (fun _ _ _ _ h => h) rfl (.bool true) (fun _ => rfl) hS.out ?_
            simp only [Act.put, List.getElem_toArray, List.getElem_cons_succ, List.getElem_cons_zero, List.setIfInBounds_toArray, List.set_cons_zero, List.set_cons_succ]
            refine wpAnyH_done (by kernel_rfl) (NoPanic.normal ?_) _
            have hst2 : Hid (CsS w X1.drew B K gs lk ∧ ∀ z ∈ L.take (j + 1), stpK L r ap m n gs lk z = false) := ⟨hst1.out.1.later hS.out, take_moreK (p := stpK L r ap m n gs lk) hyH.out hno.out (stp_no (.inr (.inl (by (rw [hpq0.out.2]; exact bne_iff_ne.mp e2)))))⟩
            generalize X1.drew = X2 at *
            clear hS hRd hst1 hno
            go_wp2
            go_roundw
            case rel => exact ⟨j + 1, by omega, by go_num, hst2.out.1, hst2.out.2⟩
            case measure => simp [intOf]; omega
          | false =>
            refine reg_move (i := 19) rfl (by kernel_rfl) (by kernel_rfl) (by kernel_rfl) (fun _ _ _ _ h => h) rfl (.bool false) (fun _ => rfl) hS.out ?_
            simp only [Act.put, List.getElem_toArray, List.getElem_cons_succ, List.getElem_cons_zero, List.setIfInBounds_toArray, List.set_cons_zero, List.set_cons_succ]
            refine reg_move (i := 20) rfl (by kernel_rfl) (by kernel_rfl) (by kernel_rfl) (fun _ _ _ _ h => h) rfl (.bool false) (fun _ => rfl) hS.out ?_
            simp only [Act.put, List.getElem_toArray, List.getElem_cons_succ, List.getElem_cons_zero, List.setIfInBounds_toArray, List.set_cons_zero, List.set_cons_succ]
            refine reg_move (i := 21) rfl (by kernel_rfl) (by kernel_rfl) (by kernel_rfl) (fun _ _ _ _ h => h) rfl (.pointer (some ⟨C, 2, none⟩)) (fun _ => rfl) hS.out ?_
            simp only [Act.put, List.getElem_toArray, List.getElem_cons_succ, List.getElem_cons_zero, List.setIfInBounds_toArray, List.set_cons_zero, List.set_cons_succ]
            refine reg_load1 (i := 22) rfl (by kernel_rfl) (by kernel_rfl) (by kernel_rfl) (fun _ _ _ _ h => h) rfl 3 _ rfl ⟨C, 2, none⟩ rfl _ Try.underlying3 rfl (.int .i64 (g : Int)) (fun w' z => (hRd.out w' z).1 2 _ rfl) hS.out ?_
            simp only [Act.put, List.getElem_toArray, List.getElem_cons_succ, List.getElem_cons_zero, List.setIfInBounds_toArray, List.set_cons_zero, List.set_cons_succ]
            refine reg_move (i := 23) rfl (by kernel_rfl) (by kernel_rfl) (by kernel_rfl) (fun _ _ _ _ h => h) rfl (.pointer (some ⟨B, g, none⟩)) (fun wx => by unfold execOp; exact run_value_of (xg wx)) hS.out ?_
            simp only [Act.put, List.getElem_toArray, List.getElem_cons_succ, List.getElem_cons_zero, List.setIfInBounds_toArray, List.set_cons_zero, List.set_cons_succ]
            refine reg_load1 (i := 24) rfl (by kernel_rfl) (by kernel_rfl) (by kernel_rfl) (fun _ _ _ _ h => h) rfl 4 _ rfl ⟨B, g, none⟩ rfl _ Try.underlying4 rfl (.bool tb) (fun w' z => (hRd.out w' z).2.2.2) hS.out ?_
            simp only [Act.put, List.getElem_toArray, List.getElem_cons_succ, List.getElem_cons_zero, List.setIfInBounds_toArray, List.set_cons_zero, List.set_cons_succ]
            refine reg_move (i := 25) rfl (by kernel_rfl) (by kernel_rfl) (by kernel_rfl) (fun _ _ _ _ h => h) rfl (.bool tb) (fun _ => rfl) hS.out ?_
            simp only [Act.put, List.getElem_toArray, List.getElem_cons_succ, List.getElem_cons_zero, List.setIfInBounds_toArray, List.set_cons_zero, List.set_cons_succ]
            refine wpAnyH_done (by kernel_rfl) (NoPanic.normal ?_) _
            cases tb with
            | true =>
              have hst2 : Hid (CsS w X1.drew B K gs lk ∧ ∀ z ∈ L.take (j + 1), stpK L r ap m n gs lk z = false) := ⟨hst1.out.1.later hS.out, take_moreK (p := stpK L r ap m n gs lk) hyH.out hno.out (stp_no (.inr (.inr (.inl htb.out))))⟩
              generalize X1.drew = X2 at *
              clear hS hRd hst1 hno
              go_wp2
              go_roundw
              case rel => exact ⟨j + 1, by omega, by go_num, hst2.out.1, hst2.out.2⟩
              case measure => simp [intOf]; omega
            | false =>
              have hpq : Hid (yf = (r.getD n 0 : Int) ∧ yt = (r.getD ((n + 1) % r.length) 0 : Int)) := ⟨by (rw [hpq0.out.1]; exact bne_eq_false_iff_eq.mp e1), by (rw [hpq0.out.2]; exact bne_eq_false_iff_eq.mp e2)⟩
              have hst2 : Hid (CsS w X1.drew B K gs lk ∧ X1.drew.heap[C]? = some (objKd ⟨yf, yt, ⟨(g : Int), s0, s1, s2, s3⟩⟩)) := ⟨hst1.out.1.later hS.out, blk_onG hst1.out.2 hS.out⟩
              clear e1 e2 xg
              generalize X1.drew = X2 at *
              clear hS hRd hst1
              go_upto_region 8 with (first
                | ((with_reducible refine at_loadG 66 (.tmp 10) rfl ?_); refine stopG_out ?_; refine wpList_load_row rfl 66 _ rfl K rfl _ _ _ _ hst2.out.1.k hu4.out rfl (by rw [br_len]; exact infoB4) ?_)
                | ((with_reducible refine at_allocG 66 rfl ?_); refine stopG_out ?_; refine wpList_alloc_big rfl 66 rfl zeroB4 ?_)
                | ((with_reducible refine at_storeG 66 _ _ rfl ?_); refine stopG_out ?_; refine wpList_store_new rfl 66 _ _ rfl rfl _ (boolRow 4 lk) rfl (by rw [br_len]; exact infoB4) (by rw [br_len, br_len]) (by simp [boolRow, Value.oneCell']) ?_))
              change Code.wp _ _ _ _ (X2.alloc (.cells (boolRow 4 lk) 66))
              have hX3 : Hid (CsR w (X2.alloc (.cells (boolRow 4 lk) 66)) B K C X2.heap.size gs lk ⟨yf, yt, ⟨(g : Int), s0, s1, s2, s3⟩⟩ lk) := CsR.make hst2.out.1 hst2.out.2
              simp only [Act.put, List.getElem_toArray, List.getElem_cons_succ, List.getElem_cons_zero, List.setIfInBounds_toArray, List.set_cons_zero, List.set_cons_succ]
              generalize X2.alloc (.cells (boolRow 4 lk) 66) = X3 at *
              generalize X2.heap.size = E at *
              clear hst2
              go_wp2_with fail
              go_loopw [16, 56] (fun u16 u wr => ∃ i : Nat, i ≤ 4 ∧ u = .int .i64 (i : Int) ∧ ∃ t : Bool, u16 = .bool t ∧ Hid (t = clN lk ⟨(g : Int), s0, s1, s2, s3⟩ i) ∧ Hid (CsR w wr B K C E gs lk ⟨yf, yt, ⟨(g : Int), s0, s1, s2, s3⟩⟩ (mrN lk ⟨(g : Int), s0, s1, s2, s3⟩ i))) (fun _ u _ => 4 - (intOf u).toNat)
              case atStart => exact ⟨0, Nat.zero_le _, rfl, false, rfl, rfl, (by (rw [mrN_zero]; exact hX3.out))⟩
              case round =>
                obtain ⟨i, hi, rfl, t, rfl, ht, hq⟩ := hrel
                clear hX3
                by_cases hil : i < 4
                · have hiI : (i : Int) < 4 := by omega
                  have xk := ix4B K i hil
                  have xe := ix4B E i hil
                  have xc := ix4C C i hil
                  obtain ⟨a, ha⟩ : ∃ a, lk i = a := ⟨_, rfl⟩
                  obtain ⟨b, hb⟩ : ∃ b, hvF ⟨(g : Int), s0, s1, s2, s3⟩ i = b := ⟨_, rfl⟩
                  have hcl : Hid (clN lk ⟨(g : Int), s0, s1, s2, s3⟩ (i + 1) = (t || (a && b))) := by (show _ = _; rw [clN_step, ← ht.out, ha, hb])
                  have hmr : Hid ((fun z => if z = i then (a || b) else mrN lk ⟨(g : Int), s0, s1, s2, s3⟩ i z) = mrN lk ⟨(g : Int), s0, s1, s2, s3⟩ (i + 1)) := by (show _ = _; rw [← mrN_step, ha, hb])
                  have ck : wr.cell? ⟨K, i, none⟩ = some (.bool a) := by (rw [← ha]; exact br_cell hq.out.s.k hil)
                  have cc : wr.cell? ⟨C, 3 + i, none⟩ = some (.bool b) := by (rw [← hb]; exact kd_hv hq.out.c hil)
                  have ce : wr.cell? ⟨E, i, none⟩ = some (.bool (mrN lk ⟨(g : Int), s0, s1, s2, s3⟩ i i)) := br_cell hq.out.e hil
                  have fe : wr.frozen? ⟨E, i, none⟩ = false := frozen_of_row _ _ _ _ _ hq.out.e
                  clear ha hb ht
                  cases t with
                  | false =>
                    cases a with
                    | false =>
                      cases b with
                      | false =>
                        go_wp2_with ((with_reducible refine at_storeG 4 _ _ rfl ?_); refine stopG_out ?_; refine wpList_putb rfl 4 _ _ rfl ⟨E, i, none⟩ rfl false rfl (by kernel_rfl) _ ce fe fun W5 hW5 => ?_; (have hA5 : Hid (CsR w W5 B K C E gs lk ⟨yf, yt, ⟨(g : Int), s0, s1, s2, s3⟩⟩ (mrN lk ⟨(g : Int), s0, s1, s2, s3⟩ (i + 1))) := (by rw [hW5, ← hmr.out]; exact hq.out.put i _)); clear hW5 ce fe ck cc)
                        go_roundw
                        case rel => exact ⟨i + 1, by omega, by go_num, false, rfl, hcl.out.symm, hA5.out⟩
                        case measure => simp [intOf]; omega
                      | true =>
                        go_wp2_with ((with_reducible refine at_storeG 4 _ _ rfl ?_); refine stopG_out ?_; refine wpList_putb rfl 4 _ _ rfl ⟨E, i, none⟩ rfl true rfl (by kernel_rfl) _ ce fe fun W5 hW5 => ?_; (have hA5 : Hid (CsR w W5 B K C E gs lk ⟨yf, yt, ⟨(g : Int), s0, s1, s2, s3⟩⟩ (mrN lk ⟨(g : Int), s0, s1, s2, s3⟩ (i + 1))) := (by rw [hW5, ← hmr.out]; exact hq.out.put i _)); clear hW5 ce fe ck cc)
                        go_roundw
                        case rel => exact ⟨i + 1, by omega, by go_num, false, rfl, hcl.out.symm, hA5.out⟩
                        case measure => simp [intOf]; omega
                    | true =>
                      cases b with
                      | false =>
                        go_wp2_with ((with_reducible refine at_storeG 4 _ _ rfl ?_); refine stopG_out ?_; refine wpList_putb rfl 4 _ _ rfl ⟨E, i, none⟩ rfl true rfl (by kernel_rfl) _ ce fe fun W5 hW5 => ?_; (have hA5 : Hid (CsR w W5 B K C E gs lk ⟨yf, yt, ⟨(g : Int), s0, s1, s2, s3⟩⟩ (mrN lk ⟨(g : Int), s0, s1, s2, s3⟩ (i + 1))) := (by rw [hW5, ← hmr.out]; exact hq.out.put i _)); clear hW5 ce fe ck cc)
                        go_roundw
                        case rel => exact ⟨i + 1, by omega, by go_num, false, rfl, hcl.out.symm, hA5.out⟩
                        case measure => simp [intOf]; omega
                      | true =>
                        go_wp2_with ((with_reducible refine at_storeG 4 _ _ rfl ?_); refine stopG_out ?_; refine wpList_putb rfl 4 _ _ rfl ⟨E, i, none⟩ rfl true rfl (by kernel_rfl) _ ce fe fun W5 hW5 => ?_; (have hA5 : Hid (CsR w W5 B K C E gs lk ⟨yf, yt, ⟨(g : Int), s0, s1, s2, s3⟩⟩ (mrN lk ⟨(g : Int), s0, s1, s2, s3⟩ (i + 1))) := (by rw [hW5, ← hmr.out]; exact hq.out.put i _)); clear hW5 ce fe ck cc)
                        go_roundw
                        case rel => exact ⟨i + 1, by omega, by go_num, true, rfl, hcl.out.symm, hA5.out⟩
                        case measure => simp [intOf]; omega
                  | true =>
                    cases a with
                    | false =>
                      cases b with
                      | false =>
                        go_wp2_with ((with_reducible refine at_storeG 4 _ _ rfl ?_); refine stopG_out ?_; refine wpList_putb rfl 4 _ _ rfl ⟨E, i, none⟩ rfl false rfl (by kernel_rfl) _ ce fe fun W5 hW5 => ?_; (have hA5 : Hid (CsR w W5 B K C E gs lk ⟨yf, yt, ⟨(g : Int), s0, s1, s2, s3⟩⟩ (mrN lk ⟨(g : Int), s0, s1, s2, s3⟩ (i + 1))) := (by rw [hW5, ← hmr.out]; exact hq.out.put i _)); clear hW5 ce fe ck cc)
                        go_roundw
                        case rel => exact ⟨i + 1, by omega, by go_num, true, rfl, hcl.out.symm, hA5.out⟩
                        case measure => simp [intOf]; omega
                      | true =>
                        go_wp2_with ((with_reducible refine at_storeG 4 _ _ rfl ?_); refine stopG_out ?_; refine wpList_putb rfl 4 _ _ rfl ⟨E, i, none⟩ rfl true rfl (by kernel_rfl) _ ce fe fun W5 hW5 => ?_; (have hA5 : Hid (CsR w W5 B K C E gs lk ⟨yf, yt, ⟨(g : Int), s0, s1, s2, s3⟩⟩ (mrN lk ⟨(g : Int), s0, s1, s2, s3⟩ (i + 1))) := (by rw [hW5, ← hmr.out]; exact hq.out.put i _)); clear hW5 ce fe ck cc)
                        go_roundw
                        case rel => exact ⟨i + 1, by omega, by go_num, true, rfl, hcl.out.symm, hA5.out⟩
                        case measure => simp [intOf]; omega
                    | true =>
                      cases b with
                      | false =>
                        go_wp2_with ((with_reducible refine at_storeG 4 _ _ rfl ?_); refine stopG_out ?_; refine wpList_putb rfl 4 _ _ rfl ⟨E, i, none⟩ rfl true rfl (by kernel_rfl) _ ce fe fun W5 hW5 => ?_; (have hA5 : Hid (CsR w W5 B K C E gs lk ⟨yf, yt, ⟨(g : Int), s0, s1, s2, s3⟩⟩ (mrN lk ⟨(g : Int), s0, s1, s2, s3⟩ (i + 1))) := (by rw [hW5, ← hmr.out]; exact hq.out.put i _)); clear hW5 ce fe ck cc)
                        go_roundw
                        case rel => exact ⟨i + 1, by omega, by go_num, true, rfl, hcl.out.symm, hA5.out⟩
                        case measure => simp [intOf]; omega
                      | true =>
                        go_wp2_with ((with_reducible refine at_storeG 4 _ _ rfl ?_); refine stopG_out ?_; refine wpList_putb rfl 4 _ _ rfl ⟨E, i, none⟩ rfl true rfl (by kernel_rfl) _ ce fe fun W5 hW5 => ?_; (have hA5 : Hid (CsR w W5 B K C E gs lk ⟨yf, yt, ⟨(g : Int), s0, s1, s2, s3⟩⟩ (mrN lk ⟨(g : Int), s0, s1, s2, s3⟩ (i + 1))) := (by rw [hW5, ← hmr.out]; exact hq.out.put i _)); clear hW5 ce fe ck cc)
                        go_roundw
                        case rel => exact ⟨i + 1, by omega, by go_num, true, rfl, hcl.out.symm, hA5.out⟩
                        case measure => simp [intOf]; omega
                · have hie : i = 4 := by omega
                  have hiI : ¬ (i : Int) < 4 := by omega
                  have ht4 : Hid (t = clshB lk ⟨(g : Int), s0, s1, s2, s3⟩) := by (show _ = _; rw [ht.out, hie, clN_all])
                  have hR : Hid (CsR w wr B K C E gs lk ⟨yf, yt, ⟨(g : Int), s0, s1, s2, s3⟩⟩ (addH lk ⟨(g : Int), s0, s1, s2, s3⟩)) := by
                    have h := hq.out
                    rw [hie] at h
                    exact ⟨h.s, h.c, by (rw [← mrN_all]; exact h.e), h.ne, h.d⟩
                  clear ht hq
                  cases ap with
                  | false =>
                    have hap : Hid ((false && clshB lk ⟨(g : Int), s0, s1, s2, s3⟩) = false) := rfl
                    obtain ⟨bb, hbb⟩ : ∃ bb, clsB L r false m (n + 1) (addG gs ⟨(g : Int), s0, s1, s2, s3⟩) (addH lk ⟨(g : Int), s0, s1, s2, s3⟩) = bb := ⟨_, rfl⟩
                    have cI : Hid (∀ wx, Below w.heap.size w wx → Calls Try.prog 39 #[.slice ka L.length kc, .slice ra r.length rc, .int .i64 ((n : Int) + 1), .agg (boolRow 6 fun b => addG gs ⟨(g : Int), s0, s1, s2, s3⟩ (b : Int)), .agg (boolRow 4 (addH lk ⟨(g : Int), s0, s1, s2, s3⟩)), .bool false] wx fun e w' => e = .returned (.bool bb) ∧ Below wx.heap.size wx w') := fun wx q => by (rw [← hbb]; exact ihC.out ⟨yf, yt, ⟨(g : Int), s0, s1, s2, s3⟩⟩ wx q)
                    have hstb : Hid (stpK L r false m n gs lk ⟨yf, yt, ⟨(g : Int), s0, s1, s2, s3⟩⟩ = bb) := (stp_is hpq.out.1 hpq.out.2 htb.out hap.out).trans hbb
                    clear hbb hap
                    go_upto_region 17 with (first
                      | ((with_reducible refine at_loadG 83 (.tmp 9) rfl ?_); refine stopG_out ?_; refine wpList_load_row rfl 83 _ rfl B rfl _ _ _ _ hR.out.s.g hu6.out rfl (by rw [br_len]; exact infoB6) ?_)
                      | ((with_reducible refine at_allocG 83 rfl ?_); refine stopG_out ?_; refine wpList_alloc_big rfl 83 rfl zeroB6 ?_)
                      | ((with_reducible refine at_storeG 83 _ _ rfl ?_); refine stopG_out ?_; refine wpList_store_new rfl 83 _ _ rfl rfl _ (boolRow 6 fun g => gs (g : Int)) rfl (by rw [br_len]; exact infoB6) (by rw [br_len, br_len]) (by simp [boolRow, Value.oneCell']) ?_))
                    change Code.wp _ _ _ _ (wr.alloc (.cells (boolRow 6 fun g => gs (g : Int)) 83))
                    have hX7 : Hid (CsG w (wr.alloc (.cells (boolRow 6 fun g => gs (g : Int)) 83)) B K C E wr.heap.size gs lk ⟨yf, yt, ⟨(g : Int), s0, s1, s2, s3⟩⟩ (addH lk ⟨(g : Int), s0, s1, s2, s3⟩) (fun g => gs (g : Int))) := CsG.make hR.out
                    simp only [Act.put, List.getElem_toArray, List.getElem_cons_succ, List.getElem_cons_zero, List.setIfInBounds_toArray, List.set_cons_zero, List.set_cons_succ]
                    generalize wr.alloc (.cells (boolRow 6 fun g => gs (g : Int)) 83) = X7 at *
                    generalize wr.heap.size = G at *
                    have k2 : X7.cell? ⟨C, 2, none⟩ = some (.int .i64 (g : Int)) := cell_lcG hX7.out.r.c rfl
                    have xG := ix6B G g hg6
                    have cG : X7.cell? ⟨G, g, none⟩ = some (.bool (gs (g : Int))) := br_cell hX7.out.g hg6
                    have fG : X7.frozen? ⟨G, g, none⟩ = false := frozen_of_row _ _ _ _ _ hX7.out.g
                    go_upto_region 18 with ((with_reducible refine at_storeG 4 _ _ rfl ?_); refine stopG_out ?_; refine wpList_putb rfl 4 _ _ rfl ⟨G, g, none⟩ rfl true rfl (by kernel_rfl) _ cG fG fun W8 hW8 => ?_; (have hX8 : Hid (CsG w W8 B K C E G gs lk ⟨yf, yt, ⟨(g : Int), s0, s1, s2, s3⟩⟩ (addH lk ⟨(g : Int), s0, s1, s2, s3⟩) (fun b => if b = g then true else gs (b : Int))) := (by rw [hW8]; exact hX7.out.put g true)); clear hW8 cG fG k2 xG)
                    have hG8 : Hid (W8.heap[G]? = some (.cells (boolRow 6 fun b => addG gs ⟨(g : Int), s0, s1, s2, s3⟩ (b : Int)) 83) ∧ W8.heap[E]? = some (.cells (boolRow 4 (addH lk ⟨(g : Int), s0, s1, s2, s3⟩)) 66) ∧ CsS w W8 B K gs lk) := ⟨hX8.out.row rfl, hX8.out.r.e, hX8.out.r.s⟩
                    clear hX8 hX7 hR
                    cases bb with
                    | true =>
                      have hany : Hid (L.any (stpK L r false m n gs lk) = true) := List.any_eq_true.mpr ⟨⟨yf, yt, ⟨(g : Int), s0, s1, s2, s3⟩⟩, List.mem_of_getElem? hyH.out, hstb.out⟩
                      go_wp2_with (first
                        | ((with_reducible refine at_loadG 83 (.tmp 18) rfl ?_); refine stopG_out ?_; refine wpList_load_row rfl 83 _ rfl G rfl _ _ _ _ hG8.out.1 hu6.out rfl (by rw [br_len]; exact infoB6) ?_)
                        | ((with_reducible refine at_loadG 66 (.tmp 15) rfl ?_); refine stopG_out ?_; refine wpList_load_row rfl 66 _ rfl E rfl _ _ _ _ hG8.out.2.1 hu4.out rfl (by rw [br_len]; exact infoB4) ?_)
                        | (go_at_call 39; (with_reducible refine (cI.out W8 hG8.out.2.2.b).mono ?_); rintro e W9 ⟨rfl, hb⟩; (have hX9 : Hid (CsS w W9 B K gs lk) := hG8.out.2.2.later hb); clear hb cI))
                      go_ret
                      exact ⟨by (rw [hany.out]; rfl), hX9.out.b⟩
                    | false =>
                      have hnoA : Hid (∀ z ∈ L.take (j + 1), stpK L r false m n gs lk z = false) := take_moreK (p := stpK L r false m n gs lk) hyH.out hno.out hstb.out
                      go_wp2_with (first
                        | ((with_reducible refine at_loadG 83 (.tmp 18) rfl ?_); refine stopG_out ?_; refine wpList_load_row rfl 83 _ rfl G rfl _ _ _ _ hG8.out.1 hu6.out rfl (by rw [br_len]; exact infoB6) ?_)
                        | ((with_reducible refine at_loadG 66 (.tmp 15) rfl ?_); refine stopG_out ?_; refine wpList_load_row rfl 66 _ rfl E rfl _ _ _ _ hG8.out.2.1 hu4.out rfl (by rw [br_len]; exact infoB4) ?_)
                        | (go_at_call 39; (with_reducible refine (cI.out W8 hG8.out.2.2.b).mono ?_); rintro e W9 ⟨rfl, hb⟩; (have hX9 : Hid (CsS w W9 B K gs lk) := hG8.out.2.2.later hb); clear hb cI))
                      go_roundw
                      case rel => exact ⟨j + 1, by omega, by go_num, hX9.out, hnoA.out⟩
                      case measure => simp [intOf]; omega
                  | true =>
                    cases t with
                    | true =>
                      have hnoA : Hid (∀ z ∈ L.take (j + 1), stpK L r true m n gs lk z = false) := take_moreK (p := stpK L r true m n gs lk) hyH.out hno.out (stp_no (.inr (.inr (.inr (by (show (true && clshB lk ⟨(g : Int), s0, s1, s2, s3⟩) = true; rw [← ht4.out]; rfl))))))
                      go_wp2
                      go_roundw
                      case rel => exact ⟨j + 1, by omega, by go_num, hR.out.s, hnoA.out⟩
                      case measure => simp [intOf]; omega
                    | false =>
                      have hap : Hid ((true && clshB lk ⟨(g : Int), s0, s1, s2, s3⟩) = false) := by (show _ = _; rw [← ht4.out]; rfl)
                      obtain ⟨bb, hbb⟩ : ∃ bb, clsB L r true m (n + 1) (addG gs ⟨(g : Int), s0, s1, s2, s3⟩) (addH lk ⟨(g : Int), s0, s1, s2, s3⟩) = bb := ⟨_, rfl⟩
                      have cI : Hid (∀ wx, Below w.heap.size w wx → Calls Try.prog 39 #[.slice ka L.length kc, .slice ra r.length rc, .int .i64 ((n : Int) + 1), .agg (boolRow 6 fun b => addG gs ⟨(g : Int), s0, s1, s2, s3⟩ (b : Int)), .agg (boolRow 4 (addH lk ⟨(g : Int), s0, s1, s2, s3⟩)), .bool true] wx fun e w' => e = .returned (.bool bb) ∧ Below wx.heap.size wx w') := fun wx q => by (rw [← hbb]; exact ihC.out ⟨yf, yt, ⟨(g : Int), s0, s1, s2, s3⟩⟩ wx q)
                      have hstb : Hid (stpK L r true m n gs lk ⟨yf, yt, ⟨(g : Int), s0, s1, s2, s3⟩⟩ = bb) := (stp_is hpq.out.1 hpq.out.2 htb.out hap.out).trans hbb
                      clear hbb hap
                      go_upto_region 17 with (first
                        | ((with_reducible refine at_loadG 83 (.tmp 9) rfl ?_); refine stopG_out ?_; refine wpList_load_row rfl 83 _ rfl B rfl _ _ _ _ hR.out.s.g hu6.out rfl (by rw [br_len]; exact infoB6) ?_)
                        | ((with_reducible refine at_allocG 83 rfl ?_); refine stopG_out ?_; refine wpList_alloc_big rfl 83 rfl zeroB6 ?_)
                        | ((with_reducible refine at_storeG 83 _ _ rfl ?_); refine stopG_out ?_; refine wpList_store_new rfl 83 _ _ rfl rfl _ (boolRow 6 fun g => gs (g : Int)) rfl (by rw [br_len]; exact infoB6) (by rw [br_len, br_len]) (by simp [boolRow, Value.oneCell']) ?_))
                      change Code.wp _ _ _ _ (wr.alloc (.cells (boolRow 6 fun g => gs (g : Int)) 83))
                      have hX7 : Hid (CsG w (wr.alloc (.cells (boolRow 6 fun g => gs (g : Int)) 83)) B K C E wr.heap.size gs lk ⟨yf, yt, ⟨(g : Int), s0, s1, s2, s3⟩⟩ (addH lk ⟨(g : Int), s0, s1, s2, s3⟩) (fun g => gs (g : Int))) := CsG.make hR.out
                      simp only [Act.put, List.getElem_toArray, List.getElem_cons_succ, List.getElem_cons_zero, List.setIfInBounds_toArray, List.set_cons_zero, List.set_cons_succ]
                      generalize wr.alloc (.cells (boolRow 6 fun g => gs (g : Int)) 83) = X7 at *
                      generalize wr.heap.size = G at *
                      have k2 : X7.cell? ⟨C, 2, none⟩ = some (.int .i64 (g : Int)) := cell_lcG hX7.out.r.c rfl
                      have xG := ix6B G g hg6
                      have cG : X7.cell? ⟨G, g, none⟩ = some (.bool (gs (g : Int))) := br_cell hX7.out.g hg6
                      have fG : X7.frozen? ⟨G, g, none⟩ = false := frozen_of_row _ _ _ _ _ hX7.out.g
                      go_upto_region 18 with ((with_reducible refine at_storeG 4 _ _ rfl ?_); refine stopG_out ?_; refine wpList_putb rfl 4 _ _ rfl ⟨G, g, none⟩ rfl true rfl (by kernel_rfl) _ cG fG fun W8 hW8 => ?_; (have hX8 : Hid (CsG w W8 B K C E G gs lk ⟨yf, yt, ⟨(g : Int), s0, s1, s2, s3⟩⟩ (addH lk ⟨(g : Int), s0, s1, s2, s3⟩) (fun b => if b = g then true else gs (b : Int))) := (by rw [hW8]; exact hX7.out.put g true)); clear hW8 cG fG k2 xG)
                      have hG8 : Hid (W8.heap[G]? = some (.cells (boolRow 6 fun b => addG gs ⟨(g : Int), s0, s1, s2, s3⟩ (b : Int)) 83) ∧ W8.heap[E]? = some (.cells (boolRow 4 (addH lk ⟨(g : Int), s0, s1, s2, s3⟩)) 66) ∧ CsS w W8 B K gs lk) := ⟨hX8.out.row rfl, hX8.out.r.e, hX8.out.r.s⟩
                      clear hX8 hX7 hR
                      cases bb with
                      | true =>
                        have hany : Hid (L.any (stpK L r true m n gs lk) = true) := List.any_eq_true.mpr ⟨⟨yf, yt, ⟨(g : Int), s0, s1, s2, s3⟩⟩, List.mem_of_getElem? hyH.out, hstb.out⟩
                        go_wp2_with (first
                          | ((with_reducible refine at_loadG 83 (.tmp 18) rfl ?_); refine stopG_out ?_; refine wpList_load_row rfl 83 _ rfl G rfl _ _ _ _ hG8.out.1 hu6.out rfl (by rw [br_len]; exact infoB6) ?_)
                          | ((with_reducible refine at_loadG 66 (.tmp 15) rfl ?_); refine stopG_out ?_; refine wpList_load_row rfl 66 _ rfl E rfl _ _ _ _ hG8.out.2.1 hu4.out rfl (by rw [br_len]; exact infoB4) ?_)
                          | (go_at_call 39; (with_reducible refine (cI.out W8 hG8.out.2.2.b).mono ?_); rintro e W9 ⟨rfl, hb⟩; (have hX9 : Hid (CsS w W9 B K gs lk) := hG8.out.2.2.later hb); clear hb cI))
                        go_ret
                        exact ⟨by (rw [hany.out]; rfl), hX9.out.b⟩
                      | false =>
                        have hnoA : Hid (∀ z ∈ L.take (j + 1), stpK L r true m n gs lk z = false) := take_moreK (p := stpK L r true m n gs lk) hyH.out hno.out hstb.out
                        go_wp2_with (first
                          | ((with_reducible refine at_loadG 83 (.tmp 18) rfl ?_); refine stopG_out ?_; refine wpList_load_row rfl 83 _ rfl G rfl _ _ _ _ hG8.out.1 hu6.out rfl (by rw [br_len]; exact infoB6) ?_)
                          | ((with_reducible refine at_loadG 66 (.tmp 15) rfl ?_); refine stopG_out ?_; refine wpList_load_row rfl 66 _ rfl E rfl _ _ _ _ hG8.out.2.1 hu4.out rfl (by rw [br_len]; exact infoB4) ?_)
                          | (go_at_call 39; (with_reducible refine (cI.out W8 hG8.out.2.2.b).mono ?_); rintro e W9 ⟨rfl, hb⟩; (have hX9 : Hid (CsS w W9 B K gs lk) := hG8.out.2.2.later hb); clear hb cI))
                        go_roundw
                        case rel => exact ⟨j + 1, by omega, by go_num, hX9.out, hnoA.out⟩
                        case measure => simp [intOf]; omega
      · have hje : j = L.length := by omega
        have hjI : ¬ (j : Int) < L.length := by omega
        rw [hje, List.take_length] at hno
        have hany : Hid (L.any (stpK L r ap m n gs lk) = false) := by
          show _ = _
          rw [Bool.eq_false_iff]
          intro q
          obtain ⟨y, hy, q⟩ := List.any_eq_true.mp q
          rw [hno.out y hy] at q
          cases q
        go_wp2
        go_ret
        exact ⟨by (rw [hany.out]; rfl), hq.out.b⟩
end Go.Proofs.Ytdfnmlcpimiboaa.pg
/- The document's rings: an append behind a list without spare room; lists of rings put together. -/
namespace Go.Proofs.Ytdfnmlcpimiboaa.pg
open Go.ChangeShapes Go.WideShapes Go.ChangeAt Go.RowKit
set_option linter.unusedVariables false
set_option linter.unusedSimpArgs false
set_option maxRecDepth 100000
/-- An append of one element behind a list that has no spare room: a block of its own. -/
theorem wpList_full1 {P : Program} {wr : World} {ops : Array Oper} {rest : List Oper} {o : Oper} {a : Act} {Q : Exit → Act → World → Prop} (hgd : o.guard = none) (s x : Operand) (t : TypeId)
    (ho : o.op = .call { callee := .builtin .append, args := #[s, x], argTypes := #[t, t] })
    (lo : Nat) (e : TypeId) (i : TypeInfo) (z : Value) (bytes : Nat) (ht : P.underlying t = some (.slice e)) (hi : P.info? e = some i) (hz : i.zero = some z)
    (hsize : i.size = 1) (hby : i.bytes = bytes) (hzs : z.cells.size = 1) (b : Addr) (c n : Nat) (L : List (List Value)) (hn : L.length = n) (hs : a.eval s = .slice (some b) n n) (hN : Rows wr 1 (some b) c L) (hLk : ∀ row ∈ L, row.length = 1) (cs : List Value)
    (hx : a.eval x = .slice (some ⟨wr.heap.size, 0, none⟩) 1 1) (hk : cs.length = 1) (h63 : n + 1 ≤ maxLen) (hbytes : (n + 1) * bytes ≤ 140737488355328) (hlo : lo ≤ wr.heap.size)
    (h : ∀ va vc w', OwnL w' lo e 1 va vc (L ++ [cs]) → Below wr.heap.size wr w' → wpList P ops Q rest (a.put o.dst (.slice va (n + 1) vc)) w') :
    wpList P ops Q (o :: rest) a (wr.alloc (.cells cs.toArray e)) := by
  subst hn
  have hbx := boxed wr (.cells cs.toArray e)
  have hN2 := hN.later hbx
  have hlf : L.flatten.length = L.length * 1 := flatten_len L hLk
  have holds : ∀ j v, L.flatten[j]? = some v → (wr.alloc (.cells cs.toArray e)).cell? (b.add j) = some v := fun j u hj => by
    rcases hN2.2.2.2 with h0 | ⟨b', off, hab, _, hc⟩
    · subst h0; simp at hj
    · simp only [Option.some.injEq] at hab
      subst hab
      have hjl := (List.getElem?_eq_some_iff.mp hj).1
      rw [hlf, Nat.mul_one] at hjl
      obtain ⟨row, hr⟩ : ∃ row, L[j]? = some row := ⟨_, List.getElem?_eq_getElem hjl⟩
      have h2 := flatten_at L hLk j row hr 0 (by omega)
      rw [Nat.mul_one, Nat.add_zero, hj] at h2
      have h3 := (hc j row hr).2 0 u h2.symm
      rw [Nat.mul_one, Nat.add_zero] at h3
      rw [add_none]
      exact h3
  have hnews : ∀ j u, cs[j]? = some u → (wr.alloc (.cells cs.toArray e)).cell? ((⟨wr.heap.size, 0, none⟩ : Addr).add j) = some u := fun j u hj => by
    rw [add_none]
    exact cell_lcG (heap_new_q wr _) (by simpa using hj)
  have hr := run_append_grow (P := P) (wr.alloc (.cells cs.toArray e)) t o.type e i z ht hi hz b L.length L.length L.flatten (by rw [hsize]; exact hlf) holds ⟨wr.heap.size, 0, none⟩ 1 1 cs (by rw [hsize, hk]) hnews (by omega) (by unfold maxLen at h63; omega) (growslice_fits (by omega) (by rw [hby]; exact hbytes))
  refine wpList_plain hgd fun K hK => ?_
  unfold Oper.wp execOp
  simp only [ho, resolve, invoke, builtin, Sem.run_bind, Sem.run_pure, Result.andThen_ok, List.map_toArray, List.map_cons, List.map_nil, hs, hx, hr]
  refine hK _ _ (h _ _ _ ?_ ?_)
  · show World.ownsRow _ lo e 1 (.slice _ (L ++ [cs]).length _) (L ++ [cs]).length (L ++ [cs]).flatten
    rw [List.length_append, List.flatten_append, List.length_singleton, show [cs].flatten = cs by simp]
    refine ⟨by rw [List.length_append, hlf, hk]; omega, .inr ⟨_, _, _, rfl, ?_, heap_alloc_new _ _, grownCap_ge _ _ _ _, grownCap_le_maxLen _ _ _ _ h63, ?_, ?_⟩⟩
    · have := hbx.size
      show lo ≤ (wr.alloc (.cells cs.toArray e)).heap.size
      omega
    · have hge := grownCap_ge (wr.alloc (.cells cs.toArray e)) (L.length + 1) L.length e
      simp only [Array.size_append, List.size_toArray, size_zeroCells, hzs, hlf, hk]
      omega
    · simp only [Array.toList_append, List.append_assoc]
      rw [← List.append_assoc]
      have : (L.length + 1) * 1 = (L.flatten ++ cs).length := by rw [List.length_append, hlf, hk]; omega
      first
        | exact List.take_left
        | (rw [this]; exact List.take_left)
        | (rw [show (L.flatten ++ cs).length = (L.length + 1) * 1 from this.symm] at *; exact List.take_left)
  · exact bthen hbx (bthen (bey_drew _) (boxed _ _))
theorem asZ_more (bg : List Nat) (x : Nat) : (asZ bg).map chCells ++ [chCells (x : Int)] = (asZ (bg ++ [x])).map chCells := by
  unfold asZ
  rw [List.map_append, List.map_append]
  rfl
section
variable {lo lo2 c c2 vc : Nat} {a a2 va : Option Addr} {P P2 : List Rng} {X Z : World}
/-- Two lists of rings, one behind the other. -/
theorem RgL.join (h : RgL lo X a c P) (h2 : RgL lo2 X a2 c2 P2) (hl : lo ≤ lo2) (hv : OwnL Z lo 29 1 va vc (P.map Rng.cs ++ P2.map Rng.cs)) (kp : ∀ b, b < X.heap.size → b ∉ blk a → Z.heap[b]? = X.heap[b]?) : RgL lo Z va vc (P ++ P2) := by
  have hk : ∀ (l : Nat) (t : Rng), OwnL X l 3 1 t.1 t.2.2 ((asZ t.2.1).map chCells) → OwnL Z l 3 1 t.1 t.2.2 ((asZ t.2.1).map chCells) := fun l t ht => own_keep ht fun g hg => kp g (blk_lt ht g hg).2 (own_apartG ht h.o (by decide) hg)
  refine ⟨by rw [List.map_append]; exact hv, fun t ht => ?_⟩
  rw [List.mem_append] at ht
  rcases ht with ht | ht
  · exact hk lo t (h.i t ht)
  · exact own_mono_q (hk lo2 t (h2.i t ht)) hl
end
theorem wpList_bldW {P : Program} {ops : Array Oper} {rest : List Oper} {o : Oper} {a : Act} {w : World} {Q : Exit → Act → World → Prop} (hwt : Region.wanted o (yielded ops a.tmps) = true) (t : TypeId) (parts : Array (Nat × Operand)) (ho : o.op = .build t parts) (vs : Array (Nat × Value)) (hp : (parts.map fun (i, x) => (i, a.eval x)) = vs) (v : Value) (hr : ∀ w, (Instr.build t vs).run P w = .ok v w)
    (h : wpList P ops Q rest (a.put o.dst v) w) : wpList P ops Q (o :: rest) a w := BigFrame.wpList_want hwt fun K hK => by
  unfold Oper.wp execOp
  simp only [ho, hp, Sem.run_bind, Sem.run_pure, Result.andThen_ok, hr]
  exact hK _ _ h
theorem bld_b6 : ∀ wx, (Instr.build 83 #[]).run Try.prog wx = .ok (.agg (boolRow 6 fun _ => false)) wx := fun wx => by kernel_rfl
theorem bld_b4 : ∀ wx, (Instr.build 66 #[]).run Try.prog wx = .ok (.agg (boolRow 4 fun _ => false)) wx := fun wx => by kernel_rfl
def okD (L : List Kd) (b : List Nat) : Bool := clsB L b false b.length 0 (fun _ => false) (fun _ => false)
/-- What the document's rings answers, for one beginning. -/
def RingOK (L : List Kd) (ka : Option Addr) (kc : Nat) (bg : List Nat) (res : List (List Nat)) (bnd : Nat) : Prop := res.length ≤ bnd ∧ ∀ (ba : Option Addr) (bc : Nat) (w : World), Rows w 7 ka kc (L.map Kd.cells) → Rows w 1 ba bc ((asZ bg).map chCells) →
    Calls Try.prog 49 #[.slice ka L.length kc, .slice ba bg.length bc] w fun e w' => ∃ la lc P, e = .returned (.slice la P.length lc) ∧ P.map (·.2.1) = res ∧ RsM w w' la lc P
end Go.Proofs.Ytdfnmlcpimiboaa.pg
