/- A lock that all hold guards: plain. -/
import Derived.Test.YtdfnmlcpimiboaaM35
namespace Go.Proofs.Ytdfnmlcpimiboaa.pg
open Go.RowKit
set_option linter.unusedVariables false
/-- Does an event leave lock 3 alone? -/
def no3 (x : Ev) : Prop := ∀ a ∈ x.of, ¬ (a.kind = 2 ∧ a.num = 3)
theorem lk_no3 {x : Ev} (h : no3 x) : lkN x ≠ 3 := by
  unfold lkN
  cases q : lkO x with
  | none => decide
  | some a =>
    obtain ⟨h1, h2⟩ := lkO_some q
    exact fun e => h a h1 ⟨h2, e⟩
def preG : List Ev := (List.range 6).map fun (g : Nat) => tkEv (g : Int) 3
def gateC (l : List Ev) : List Ev := preG ++ l
def gateF (f : Nat → Bool) : Nat → Bool := fun j => decide (j = 3) || f j
def gateT (t : Tk) : Tk := ⟨t.by_, t.h0, t.h1, t.h2, true⟩
theorem preG_len : preG.length = 6 := rfl
theorem gate_len (l : List Ev) : (gateC l).length = 6 + l.length := by unfold gateC; rw [List.length_append, preG_len]
theorem evA_pre (l : List Ev) {k : Nat} (hk : k < 6) : evA (gateC l) k = tkEv (k : Int) 3 := by
  unfold evA gateC
  rw [List.getD_eq_getElem?_getD, List.getElem?_append_left (by rw [preG_len]; exact hk)]
  unfold preG
  rw [List.getElem?_map, List.getElem?_range hk]
  rfl
theorem evA_suf (l : List Ev) (k : Nat) : evA (gateC l) (6 + k) = evA l k := by
  unfold evA gateC
  rw [List.getD_eq_getElem?_getD, List.getElem?_append_right (by rw [preG_len]; omega), preG_len, show 6 + k - 6 = k by omega, List.getD_eq_getElem?_getD]
theorem lk_tk (g k : Int) : lkN (tkEv g k) = k := by
  have ht : tN 2 = 2 := by decide
  have : lkO (tkEv g k) = some ⟨2, k, true⟩ := by
    unfold lkO Ev.of
    change List.find? _ (List.take (tN 2) _) = _
    rw [ht]
    rfl
  unfold lkN
  rw [this]
theorem upd_tk (f : Nat → Bool) (g : Int) : updH f (tkEv g 3) = fun j => decide (j = 3) || f j := by
  funext j
  unfold updH
  rw [lk_tk]
  by_cases e : j = 3
  · subst e
    rw [if_pos (show (3 : Int) = ((3 : Nat) : Int) from rfl), if_pos (show tksB (tkEv g 3) = true from rfl)]
    rfl
  · rw [if_neg (by omega), decide_eq_false e, Bool.false_or]
theorem hldF_pre (l : List Ev) (g : Int) : ∀ m, m ≤ 6 → hldF (gateC l) g m = fun j => decide (0 ≤ g ∧ g < (m : Int)) && decide (j = 3)
  | 0, _ => by
    funext j
    rw [decide_eq_false (by omega)]
    rfl
  | m + 1, h => by
    rw [hldF, evA_pre l (by omega), hldF_pre l g m (by omega), upd_tk]
    funext j
    show (if (m : Int) = g then _ else _ : Nat → Bool) j = _
    by_cases e : (m : Int) = g
    · rw [if_pos e, decide_eq_true (p := 0 ≤ g ∧ g < ((m + 1 : Nat) : Int)) (by omega), decide_eq_false (p := 0 ≤ g ∧ g < (m : Int)) (by omega)]
      simp
    · rw [if_neg e]
      have : (0 ≤ g ∧ g < (m : Int)) ↔ (0 ≤ g ∧ g < ((m + 1 : Nat) : Int)) := by omega
      simp only [this]
theorem updH_gate {x : Ev} (h : lkN x ≠ 3) (f : Nat → Bool) : updH (gateF f) x = gateF (updH f x) := by
  funext j
  unfold updH gateF
  by_cases e : j = 3
  · subst e
    rw [if_neg (by intro q; exact h (by rw [q]; rfl))]
    simp
  · rw [decide_eq_false e]
    simp
theorem hldF_gate {l : List Ev} (h3 : ∀ x ∈ l, no3 x) {g : Int} (h0 : 0 ≤ g) (h6 : g < 6) : ∀ k, k ≤ l.length → hldF (gateC l) g (6 + k) = gateF (hldF l g k)
  | 0, _ => by
    rw [Nat.add_zero, hldF_pre l g 6 (Nat.le_refl _)]
    funext j
    rw [decide_eq_true (p := 0 ≤ g ∧ g < ((6 : Nat) : Int)) (by omega)]
    unfold gateF hldF
    simp
  | k + 1, hk => by
    have ih := hldF_gate h3 h0 h6 k (by omega)
    obtain ⟨x, hx, hm⟩ := get_lt l k (by omega)
    rw [show 6 + (k + 1) = (6 + k) + 1 by omega, hldF, evA_suf, ih, hldF, evA_at hx]
    by_cases e : x.go = g
    · rw [if_pos e, if_pos e, updH_gate (lk_no3 (h3 x hm))]
    · rw [if_neg e, if_neg e]
section
variable {l : List Ev}
theorem hvL_suf (h3 : ∀ x ∈ l, no3 x) (hr : ∀ x ∈ l, rightP x) {k : Nat} (hk : k < l.length) : hvL (gateC l) (6 + k) = gateF (hvL l k) := by
  obtain ⟨x, hx, hm⟩ := get_lt l k hk
  have hg := (hr x hm).1
  unfold hvL
  rw [evA_suf, evA_at hx]
  exact hldF_gate h3 hg.1 hg.2.1 k (by omega)
theorem hvL_pre {k : Nat} (hk : k < 6) : hvL (gateC l) k = fun _ => false := by
  unfold hvL
  rw [evA_pre l hk, hldF_pre l _ k (by omega)]
  funext j
  show (decide (0 ≤ (k : Int) ∧ (k : Int) < (k : Int)) && _) = false
  rw [decide_eq_false (by omega), Bool.false_and]
theorem tks_gate (h3 : ∀ x ∈ l, no3 x) (hr : ∀ x ∈ l, rightP x) {p : Nat} {t : Tk} : t ∈ tksL (gateC l) p ↔ ∃ k, k < l.length ∧ tkAt (evA l k) (gateF (hvL l k)) p t := by
  rw [tks_iff, gate_len]
  constructor
  · rintro ⟨k, hk, q⟩
    by_cases c : k < 6
    · rw [hvL_pre c] at q
      obtain ⟨_, _, _, f, _, q, _⟩ := q
      cases q
    · obtain ⟨m, rfl⟩ : ∃ m, k = 6 + m := ⟨k - 6, by omega⟩
      refine ⟨m, by omega, ?_⟩
      rw [evA_suf, hvL_suf h3 hr (by omega)] at q
      exact q
  · rintro ⟨k, hk, q⟩
    refine ⟨6 + k, by omega, ?_⟩
    rw [evA_suf, hvL_suf h3 hr hk]
    exact q
theorem gate_h3 (h3 : ∀ x ∈ l, no3 x) (hr : ∀ x ∈ l, rightP x) (p : Nat) (t : Tk) (h : t ∈ tksL (gateC l) p) : t.h3 = true := by
  obtain ⟨k, _, _, _, rfl, _⟩ := (tks_gate h3 hr).mp h
  rfl
theorem gate_up (h3 : ∀ x ∈ l, no3 x) (hr : ∀ x ∈ l, rightP x) (p : Nat) (t : Tk) (h : t ∈ tksL l p) : gateT t ∈ tksL (gateC l) p := by
  obtain ⟨k, hk, a1, a2, rfl, f, a3, a4, a5, a6⟩ := tks_iff.mp h
  exact (tks_gate h3 hr).mpr ⟨k, hk, a1, a2, rfl, f, a3, by unfold gateF; rw [a4, Bool.or_true], a5, a6⟩
end
theorem cho_apone {F : Nat → List Tk} (hF : ∀ k, ∀ t ∈ F k, t.h3 = true) (r : List Nat) (m : Nat) (y : Tk) (ch : List Tk) (hy : y.h3 = true) : choB apB F r (m + 1) (y :: ch) = false := by
  rw [choB_step, Bool.eq_false_iff]
  intro q
  obtain ⟨x, hx, q⟩ := List.any_eq_true.mp q
  unfold stpB at q
  rw [Bool.and_eq_true, Bool.not_eq_true'] at q
  have q1 := q.1
  rw [List.any_cons, Bool.or_eq_false_iff] at q1
  have : apB x y = false := by
    unfold apB eqS4
    rw [hF _ x hx, hy]
    simp
  rw [this] at q1
  exact absurd q1.1 (by decide)
theorem cho_apnone {F : Nat → List Tk} (hF : ∀ k, ∀ t ∈ F k, t.h3 = true) (r : List Nat) (m : Nat) : choB apB F r (m + 2) [] = false := by
  rw [choB_step, Bool.eq_false_iff]
  intro q
  obtain ⟨x, hx, q⟩ := List.any_eq_true.mp q
  unfold stpB at q
  rw [Bool.and_eq_true] at q
  have := cho_apone hF r m x [] (hF _ x hx)
  rw [List.nil_append, this] at q
  exact absurd q.2 (by decide)
theorem cho_up {F G : Nat → List Tk} (h : ∀ p t, t ∈ F p → gateT t ∈ G p) (r : List Nat) : ∀ (m : Nat) (ch : List Tk), choB unB F r m ch = true → choB unB G r m (ch.map gateT) = true
  | 0, _, _ => rfl
  | m + 1, ch, q => by
    rw [choB_step] at q ⊢
    obtain ⟨x, hx, q⟩ := List.any_eq_true.mp q
    unfold stpB at q
    rw [Bool.and_eq_true] at q
    refine List.any_eq_true.mpr ⟨gateT x, ?_, ?_⟩
    · rw [List.length_map]
      exact h _ x hx
    · unfold stpB
      rw [Bool.and_eq_true]
      refine ⟨?_, ?_⟩
      · rw [List.any_map]
        exact q.1
      · have := cho_up h r m (ch ++ [x]) q.2
        rw [List.map_append] at this
        exact this
theorem growL_up {ok ok' : List Nat → Bool} (h : ∀ b, ok b = true → ok' b = true) : ∀ (m : Nat) (b : List Nat), (growL ok m b).length ≤ (growL ok' m b).length
  | 0, b => by
    unfold growL
    by_cases c : 1 < b.length ∧ ok b = true
    · rw [if_pos c, if_pos ⟨c.1, h b c.2⟩]; exact Nat.le_refl _
    · rw [if_neg c]; exact Nat.zero_le _
  | m + 1, b => by
    unfold growL
    rw [List.length_append, List.length_append]
    refine Nat.add_le_add ?_ ?_
    · by_cases c : 1 < b.length ∧ ok b = true
      · rw [if_pos c, if_pos ⟨c.1, h b c.2⟩]; exact Nat.le_refl _
      · rw [if_neg c]; exact Nat.zero_le _
    · have : ∀ L : List Nat, (L.flatMap fun x => if b.getD 0 0 < x ∧ x ∉ b then growL ok m (b ++ [x]) else []).length ≤ (L.flatMap fun x => if b.getD 0 0 < x ∧ x ∉ b then growL ok' m (b ++ [x]) else []).length := by
        intro L
        induction L with
        | nil => exact Nat.le_refl _
        | cons y t ih =>
          rw [List.flatMap_cons, List.flatMap_cons, List.length_append, List.length_append]
          refine Nat.add_le_add ?_ ih
          by_cases c : b.getD 0 0 < y ∧ y ∉ b
          · rw [if_pos c, if_pos c]; exact growL_up h m (b ++ [y])
          · rw [if_neg c, if_neg c]; exact Nat.le_refl _
      exact this _
theorem ringsL_up {ok ok' : List Nat → Bool} (h : ∀ b, ok b = true → ok' b = true) : ∀ k, (ringsL ok k).length ≤ (ringsL ok' k).length
  | 0 => Nat.le_refl _
  | k + 1 => by
    rw [ringsL_step, ringsL_step, List.length_append, List.length_append]
    exact Nat.add_le_add (ringsL_up h k) (growL_up h 3 [k])
section
variable {l : List Ev}
/-- The rings are as many at least. -/
theorem gate_more (h3 : ∀ x ∈ l, no3 x) (hr : ∀ x ∈ l, rightP x) : (rngR l 0).length ≤ (rngR (gateC l) 0).length := by
  unfold rngR
  rw [if_pos rfl, if_pos rfl]
  exact ringsL_up (fun b q => cho_up (gate_up h3 hr) b b.length [] q) 4
/-- Every ring is guarded. -/
theorem gate_grd (h3 : ∀ x ∈ l, no3 x) (hr : ∀ x ∈ l, rightP x) {r : List Nat} (h : r ∈ rngR (gateC l) 0) : grdR (gateC l) (asZ r) 0 = (true, 0) := by
  unfold rngR at h
  rw [if_pos rfl] at h
  obtain ⟨_, h1, h4⟩ := ringsL_mem h
  have hany : (ringsL (okL (gateC l)) 4).any (fun b => asZ b == asZ r) = true := List.any_eq_true.mpr ⟨r, h, beq_self_eq_true _⟩
  obtain ⟨m, hm⟩ : ∃ m, (asZ r).length = m + 2 := ⟨r.length - 2, by simp only [asZ, List.length_map]; omega⟩
  unfold grdR
  rw [if_pos rfl, if_neg (by simp only [asZ, List.length_map]; omega), if_pos hany, hm, cho_apnone (gate_h3 h3 hr)]
  rfl
theorem gate_check (hr : ∀ x ∈ l, rightP x) (hn : l.length ≤ 250) : checkP (gateC l) 0 := .inr (.inr ⟨by rw [gate_len]; omega, fun x hx => by
  unfold gateC at hx
  rw [List.mem_append] at hx
  rcases hx with hx | hx
  · unfold preG at hx
    obtain ⟨g, hg, rfl⟩ := List.mem_map.mp hx
    rw [List.mem_range] at hg
    exact tk_right (g : Int) 3 (by omega) (by omega) (by omega) (by omega)
  · exact hr x hx, rfl⟩)
end
end Go.Proofs.Ytdfnmlcpimiboaa.pg
/- GoodlockGate, walked. -/
namespace Go.Proofs.Ytdfnmlcpimiboaa.pg
open Go.ChangeShapes Go.WideShapes Go.ChangeAt Go.RowKit Go.Shelf
set_option linter.unusedVariables false
set_option linter.unusedSimpArgs false
set_option maxRecDepth 100000
attribute [local go_sem ↓] Go.wp_at_zero Go.wp_at_succ
set_option maxHeartbeats 4000000 in
theorem gate_outG (l : List Ev) (la : Option Addr) (lc : Nat) (w : World) (hl : Rows w 26 la lc (l.map Ev.cells)) (c : Int) (hc : checkP l c) (h : (c != 0) = true ∨ ((c != 0) = false ∧ (l.length : Int) > 250)) :
    Calls Try.prog 7 #[.slice la l.length lc] w fun e w' => e = .returned (.bool true) ∧ Below w.heap.size w w' := by
  have k1 := rcheck_any l la lc w hl c hc
  have hlI := rows_len hl
  have cS : ∀ wx, Calls Try.prog 15 #[] wx _ := fun wx => smallG_any wx
  clear hl hc
  rcases h with d | ⟨d, d2⟩
  all_goals
    go_enter Try.func7, Try.ntmps7
    go_wp2_with (first
      | (go_at_call 21; (with_reducible refine k1.mono ?_); rintro e w1 ⟨rfl, hb1⟩; (have hB : Hid (Below w.heap.size w w1) := hb1); clear hb1 k1)
      | (go_at_call 15; (with_reducible refine (cS _).mono ?_); rintro e wA ⟨rfl, hb⟩; (have kA : Hid (Below w.heap.size w wA) := bthen hB.out hb); clear hb cS))
    go_ret
    exact ⟨rfl, kA.out⟩
set_option maxHeartbeats 8000000 in
theorem gate_inG (l : List Ev) (la : Option Addr) (lc : Nat) (w : World) (hl : Rows w 26 la lc (l.map Ev.cells)) (hc : checkP l 0) (h2 : l.length ≤ 250) :
    Calls Try.prog 7 #[.slice la l.length lc] w fun e w' => e = .returned (.bool true) ∧ Below w.heap.size w w' := by
  have k1 := rcheck_any l la lc w hl 0 hc
  obtain ⟨hn, hr⟩ := check_zero hc
  have hrH : Hid (∀ x ∈ l, rightP x) := hr
  have hnH2 : Hid (l.length ≤ 250) := h2
  have hlI : (l.length : Int) ≤ 256 := by omega
  have d2 : ¬ ((l.length : Int) > 250) := by omega
  have hrow : Hid (∀ wx, Below w.heap.size w wx → Rows wx 26 la lc (l.map Ev.cells)) := fun wx hb => hl.later hb
  have c9 : ∀ wx, Below w.heap.size w wx → Calls Try.prog 16 #[.slice la l.length lc] wx _ := fun wx q => gRings_any (hl.later q) 0 hc
  have cT : ∀ (g : Int) wx, Calls Try.prog 23 #[.int .i64 g, .int .i64 3] wx _ := fun g wx => taking_any g 3 wx
  have cS : ∀ wx, Calls Try.prog 15 #[] wx _ := fun wx => smallG_any wx
  obtain ⟨iE, hiE', hzE', hsE', hbE'⟩ := info_q infoEvG
  have hiH : Hid (Try.prog.info? 55 = some iE ∧ iE.zero = some (.agg evZG.cells.toArray) ∧ iE.size = 26 ∧ iE.bytes = 208) := ⟨hiE', hzE', hsE', hbE'⟩
  have huE : Hid (Try.prog.underlying 55 = _) := Try.underlying55
  have hiE6 : Hid ((Try.prog.info? 55).map (·.size) = some 26) := infoE26
  have hlen : Hid ((l.map Ev.cells).length = l.length) := by show _ = _; simp
  have hkk : Hid ((∀ row ∈ l.map Ev.cells, row.length = 26) ∧ ∀ row ∈ l.map Ev.cells, ∀ u ∈ row, u.oneCell' = true) := evs_rowsG l
  clear hl hc hn hr h2 hiE' hzE' hsE' hbE'
  go_enter Try.func7, Try.ntmps7
  go_wp2_with (go_at_call 21; (with_reducible refine k1.mono ?_); rintro e w1 ⟨rfl, hb1⟩; (have hB : Hid (Below w.heap.size w w1) := hb1); clear hb1 k1)
  go_loopw [27] (fun u wr => ∃ j : Nat, j ≤ l.length ∧ u = .int .i64 (j : Int) ∧ Hid (Below w.heap.size w wr) ∧ Hid (∀ x ∈ l.take j, no3 x)) (fun u _ => l.length - (intOf u).toNat)
  case atStart => exact ⟨0, Nat.zero_le _, rfl, hB.out, fun x hx => by simp at hx⟩
  case round =>
    obtain ⟨j, hj, rfl, hq, hq2⟩ := hrel
    clear hB
    by_cases hlj : j < l.length
    · have hjI : (j : Int) < l.length := by omega
      obtain ⟨y, hy⟩ : ∃ y, l[j]? = some y := ⟨_, List.getElem?_eq_getElem hlj⟩
      have hyr := hrH.out y (List.mem_of_getElem? hy)
      obtain ⟨hn1, hn6⟩ := of_list hyr.1.2.2.1 hyr.1.2.2.2
      have hnI : (y.of.length : Int) ≤ 6 := by omega
      have hnH : Hid (y.n = (y.of.length : Int)) := hn1.symm
      obtain ⟨b1, o1, x1, l1, r1⟩ := ev_row (hrow.out wr hq.out) j y hy
      have hrg : Hid (wr.rangeAt b1 o1 y.cells) := r1
      have hyH : Hid (l[j]? = some y) := hy
      have hst1 : Hid (BoxE (wr.alloc (objE y)) wr.heap.size y ∧ Below w.heap.size w (wr.alloc (objE y))) := ⟨boxE_new wr y, bthen hq.out (boxed _ _)⟩
      clear r1 l1 hq hy hyr hn1 hn6
      go_upto_region 7 with (first
        | (refine wpList_load_mid rfl 55 _ rfl b1 o1 rfl y.cells _ hrg.out huE.out rfl hiE6.out ?_)
        | (refine wpList_store_new rfl 55 _ _ rfl rfl _ y.cells.toArray rfl (by kernel_rfl) rfl (ev_one y) ?_))
      change Code.wp _ _ _ _ (wr.alloc (objE y))
      generalize wr.alloc (objE y) = X1 at *
      generalize wr.heap.size = B at *
      clear hrg x1
      go_wp2_with fail
      go_loopw [6] (fun u wr => ∃ k : Nat, k ≤ y.of.length ∧ u = .int .i64 (k : Int) ∧ Hid (∀ a ∈ y.of.take k, ¬ (a.kind = 2 ∧ a.num = 3)) ∧ Hid (BoxE wr B y ∧ Below w.heap.size w wr)) (fun u _ => y.of.length - (intOf u).toNat)
      case atStart => exact ⟨0, Nat.zero_le _, rfl, fun a ha => by simp at ha, hst1.out⟩
      case round =>
        obtain ⟨k, hk, rfl, hno, hv⟩ := hrel
        clear hst1
        have c25 : wr.cell? ⟨B, 25, none⟩ = some (.int .i64 (y.of.length : Int)) := by
          rw [← hnH.out]
          exact hv.out.1.at 25 _ rfl
        by_cases hlt : k < y.of.length
        · have hkI : (k : Int) < y.of.length := by omega
          obtain ⟨a, ha, ham⟩ := get_lt y.of k hlt
          have hlist : y.list[k]? = some a := by
            unfold Ev.of at ha
            rw [List.getElem?_take] at ha
            split at ha
            · exact ha
            · cases ha
          obtain ⟨hix, k0, k1, _⟩ := ev_ix hv.out.1 k a hlist
          have hstp : Hid (¬ (a.kind = 2 ∧ a.num = 3) → ∀ b ∈ y.of.take (k + 1), ¬ (b.kind = 2 ∧ b.num = 3)) := fun q b hb => by
            rw [take_one y.of k a ha, List.mem_append, List.mem_singleton] at hb
            rcases hb with hb | rfl
            · exact hno.out b hb
            · exact q
          clear ha hlist ham
          cases e2 : (a.kind == 2) with
          | false =>
            have hs2 : Hid (∀ b ∈ y.of.take (k + 1), ¬ (b.kind = 2 ∧ b.num = 3)) := hstp.out fun q => by rw [beq_eq_false_iff_ne] at e2; exact e2 q.1
            clear hstp hno
            go_wp2
            go_roundw
            case rel => exact ⟨k + 1, by omega, by go_num, hs2, hv⟩
            case measure => simp [intOf]; omega
          | true =>
            cases e3 : (a.num == 3) with
            | false =>
              have hs2 : Hid (∀ b ∈ y.of.take (k + 1), ¬ (b.kind = 2 ∧ b.num = 3)) := hstp.out fun q => by rw [beq_eq_false_iff_ne] at e3; exact e3 q.2
              clear hstp hno
              go_wp2
              go_roundw
              case rel => exact ⟨k + 1, by omega, by go_num, hs2, hv⟩
              case measure => simp [intOf]; omega
            | true =>
              clear hstp hno
              go_wp2_with (go_at_call 15; (with_reducible refine (cS _).mono ?_); rintro e wA ⟨rfl, hb⟩; (have kA : Hid (Below w.heap.size w wA) := bthen hv.out.2 hb); clear hb cS)
              go_ret
              exact ⟨rfl, kA.out⟩
        · have hke : k = y.of.length := by omega
          have hkI : ¬ (k : Int) < y.of.length := by omega
          have hn2 : Hid (∀ x ∈ l.take (j + 1), no3 x) := fun x hx => by
            rw [take_one l j y hyH.out, List.mem_append, List.mem_singleton] at hx
            rcases hx with hx | rfl
            · exact hq2.out x hx
            · have h := hno.out
              rw [hke, List.take_length] at h
              exact h
          clear hno
          go_wp2_with fail
          go_roundw
          case rel => exact ⟨j + 1, by omega, by go_num, hv.out.2, hn2.out⟩
          case measure => simp [intOf]; omega
    · have hje : j = l.length := by omega
      have hjI : ¬ (j : Int) < l.length := by omega
      have h3H : Hid (∀ x ∈ l, no3 x) := by (have h := hq2.out; rw [hje, List.take_length] at h; exact h)
      clear hq2
      go_wp2_with fail
      go_loopw [3, 7] (fun u3 u wr => ∃ (k : Nat) (a : Option Addr) (C : List Ev) (c : Nat), k ≤ 6 ∧ u = .int .i64 (k : Int) ∧ u3 = .slice a C.length c ∧ Hid (EvO w wr C a c) ∧ Hid (C = preG.take k)) (fun _ u _ => 6 - (intOf u).toNat)
      case atStart => exact ⟨0, none, [], 0, Nat.zero_le _, rfl, rfl, ⟨own_nil_q _ _ _ _, hq.out⟩, rfl⟩
      case round =>
        obtain ⟨k, a, C, c, hk, rfl, rfl, hv, hC⟩ := hrel
        clear hq
        by_cases hlt : k < 6
        · have hkI : (k : Int) < 6 := by omega
          have hC2 : Hid (C ++ [tkEv (k : Int) 3] = preG.take (k + 1)) := by
            show _ = _
            rw [hC.out, take_one preG k (tkEv (k : Int) 3) (by unfold preG; rw [List.getElem?_map, List.getElem?_range hlt]; rfl)]
          have hCl : Hid (C.length ≤ 6) := by (show _ ≤ _; rw [hC.out, List.length_take]; omega)
          clear hC
          go_wp2_with (first
            | (go_at_call 23; (with_reducible refine (cT _ _).mono ?_); rintro e w4 ⟨rfl, hb⟩; (have h4 : Hid (EvO w w4 C a c) := hv.out.later hb); clear hb)
            | (refine wpList_buildSlice rfl 22 55 1 _ rfl (tkEv (k : Int) 3).cells.toArray iE _ Try.underlying22 hiH.out.1 hiH.out.2.1 (by rw [hiH.out.2.2.1]; omega) (by rw [hiH.out.2.2.1]; omega) (by simp only [hiH.out.2.2.1]; kernel_rfl) ?_)
            | (at_builtin; (refine wpList_app1 rfl (.tmp 57) (.tmp 60) 22 rfl w.heap.size 55 iE _ 26 208 Try.underlying22 hiH.out.1 hiH.out.2.1 hiH.out.2.2.1 hiH.out.2.2.2 rfl (by decide) a c (C.map Ev.cells) (by rw [List.length_map]; rfl) h4.out.o (tkEv (k : Int) 3).cells rfl rfl ((evs_rowsG [tkEv (k : Int) 3]).2 _ (by simp)) (by rw [List.length_map]; have h1 := hCl.out; unfold maxLen; omega) (by rw [List.length_map]; have h1 := hCl.out; omega) h4.out.b.size ?_); intro va vc Z3 hgr; rw [List.length_map]))
          have hF : Hid (EvO w Z3 (C ++ [tkEv (k : Int) 3]) va vc) := h4.out.grow hgr
          clear hgr
          go_roundw
          case rel => exact ⟨k + 1, va, C ++ [tkEv (k : Int) 3], vc, by omega, by go_num, by rw [List.length_append, List.length_singleton], hF.out, hC2.out⟩
          case measure => simp [intOf]; omega
        · have hke : k = 6 := by omega
          have hkI : ¬ (k : Int) < 6 := by omega
          have hC6 : Hid (C = preG) := by (show _ = _; rw [hC.out, hke]; rfl)
          clear hC
          have hlg : Hid ((C.map Ev.cells ++ l.map Ev.cells).length = (gateC l).length) := by
            show _ = _
            unfold gateC
            rw [hC6.out, ← List.map_append, List.length_map]
          go_upto_region 18 with (at_builtin; (refine wpList_app rfl (.tmp 62) (.tmp 63) 22 rfl w.heap.size 55 iE _ 26 208 Try.underlying22 hiH.out.1 hiH.out.2.1 hiH.out.2.2.1 hiH.out.2.2.2 rfl (by decide) a c (C.map Ev.cells) (by rw [List.length_map]; rfl) hv.out.o la lc (l.map Ev.cells) (by rw [hlen.out]; rfl) (hrow.out wr hv.out.b) hkk.out.1 hkk.out.2 (by rw [hlen.out, List.length_map, hC6.out, preG_len]; have := hnH2.out; unfold maxLen; omega) (by rw [hlen.out, List.length_map, hC6.out, preG_len]; have := hnH2.out; omega) hv.out.b.size ?_); intro va vc w4 h1 h2 h3 h4; (have hO : Hid (OwnL w4 w.heap.size 55 26 va vc (C.map Ev.cells ++ l.map Ev.cells) ∧ Below w.heap.size w w4) := ⟨h1, by (rw [Nat.min_eq_left hv.out.b.size] at h3; exact hv.out.b.trans h3)⟩); rw [hlg.out]; clear h1 h2 h3 h4)
          have hU : Hid (Rows w4 26 va vc ((gateC l).map Ev.cells) ∧ Below w.heap.size w w4) := by
            refine ⟨?_, hO.out.2⟩
            have h := own_rows hO.out.1 (fun row hr => by
              rw [List.mem_append] at hr
              rcases hr with hr | hr
              · exact (evs_rowsG C).1 row hr
              · exact (evs_rowsG l).1 row hr)
            rw [← List.map_append, hC6.out] at h
            exact h
          have c1 := gRings_any hU.out.1 0 (gate_check hrH.out hnH2.out)
          have hgl : ((gateC l).length : Int) ≤ 256 := by (rw [gate_len]; have := hnH2.out; omega)
          have hgrd : Hid (∀ r ∈ rngR (gateC l) 0, grdR (gateC l) (asZ r) 0 = (true, 0)) := fun r hr => gate_grd h3H.out hrH.out hr
          have hmore : Hid ((rngR l 0).length ≤ (rngR (gateC l) 0).length) := gate_more h3H.out hrH.out
          have c5 : ∀ (wx : World) (s : Rng), Rows wx 26 va vc ((gateC l).map Ev.cells) → Rows wx 1 s.1 s.2.2 ((asZ s.2.1).map chCells) → Calls Try.prog 18 #[.slice va (gateC l).length vc, .slice s.1 s.2.1.length s.2.2] wx fun e w' => e = .returned (.tuple #[.bool (grdR (gateC l) (asZ s.2.1) 0).1, .int .i64 (grdR (gateC l) (asZ s.2.1) 0).2]) ∧ Below wx.heap.size wx w' := fun wx s q hr => by
            have h := gGuarded_any q hr 0 (gate_check hrH.out hnH2.out)
            rw [show (asZ s.2.1).length = s.2.1.length by simp [asZ]] at h
            exact h
          clear hO hv hC6 hlg
          generalize gateC l = U at *
          go_upto_region 21 with (go_at_call 16; (with_reducible refine c1.mono ?_); rintro e w5 ⟨pa, pc, P, rfl, hm, hM⟩; (have k5 : Hid (Below w.heap.size w w5 ∧ Rows w5 26 va vc (U.map Ev.cells) ∧ RgR w5 pa pc P ∧ P.map (·.2.1) = rngR U 0) := ⟨bthen hU.out.2 hM.b, hU.out.1.later hM.b, rgR_of hM.l, hm⟩); clear hm hM c1 hU)
          have hPI : (P.length : Int) ≤ 9223372036854775807 := rows_len k5.out.2.2.1.1
          go_wp2_with fail
          go_loopw [74] (fun u wr => ∃ j : Nat, j ≤ P.length ∧ u = .int .i64 (j : Int) ∧ Hid (Below w.heap.size w wr ∧ Rows wr 26 va vc (U.map Ev.cells) ∧ RgR wr pa pc P ∧ P.map (·.2.1) = rngR U 0)) (fun u _ => P.length - (intOf u).toNat)
          case atStart => exact ⟨0, Nat.zero_le _, rfl, k5.out⟩
          case round =>
            obtain ⟨j, hj, rfl, hq⟩ := hrel
            clear k5
            by_cases hlj : j < P.length
            · have hjI : (j : Int) < P.length := by omega
              obtain ⟨s, hs⟩ : ∃ s, P[j]? = some s := ⟨_, List.getElem?_eq_getElem hlj⟩
              have hsm := List.mem_of_getElem? hs
              obtain ⟨b0, o0, x0, _, k0⟩ := rr_ix hq.out.2.2.1 j s hs
              have hgv := hgrd.out s.2.1 (by rw [← hq.out.2.2.2]; exact List.mem_map.mpr ⟨s, hsm, rfl⟩)
              have d5 : Calls Try.prog 18 #[.slice va U.length vc, .slice s.1 s.2.1.length s.2.2] wr fun e w' => e = .returned (.tuple #[.bool true, .int .i64 0]) ∧ Below wr.heap.size wr w' := by
                have h := c5 wr s hq.out.2.1 (hq.out.2.2.1.2 s hsm)
                rw [hgv] at h
                exact h
              have hsI : (s.2.1.length : Int) ≤ 9223372036854775807 := by
                have h := rows_len (hq.out.2.2.1.2 s hsm)
                rw [show (asZ s.2.1).length = s.2.1.length by simp [asZ]] at h
                exact h
              clear hgv hs hsm
              obtain ⟨s1, sl, s3⟩ := s
              go_wp2_with (go_at_call 18; (with_reducible refine d5.mono ?_); rintro e w6 ⟨rfl, hb⟩; (have k6 : Hid (Below w.heap.size w w6 ∧ Rows w6 26 va vc (U.map Ev.cells) ∧ RgR w6 pa pc P ∧ P.map (·.2.1) = rngR U 0) := ⟨bthen hq.out.1 hb, hq.out.2.1.later hb, hq.out.2.2.1.later hb, hq.out.2.2.2⟩); clear hb d5)
              go_roundw
              case rel => exact ⟨j + 1, by omega, by go_num, k6.out⟩
              case measure => simp [intOf]; omega
            · have hje : j = P.length := by omega
              have hjI : ¬ (j : Int) < P.length := by omega
              go_upto_region 29 with (go_at_call 16; (with_reducible refine (c9 _ hq.out.1).mono ?_); rintro e w7 ⟨qa, qc, Q, rfl, hm, hM⟩; (have k7 : Hid (Below w.heap.size w w7 ∧ Q.length ≤ P.length ∧ (Q.length : Int) ≤ 9223372036854775807) := ⟨bthen hq.out.1 hM.b, by (have h1 := congrArg List.length hm; have h2 := congrArg List.length hq.out.2.2.2; rw [List.length_map] at h1 h2; have h3 := hmore.out; omega), rows_len (rg_rows hM.l)⟩); clear hm hM c9)
              have hQI := k7.out.2.2
              have hge : (Q.length : Int) ≤ (P.length : Int) := by (have := k7.out.2.1; omega)
              go_wp2_with (go_at_call 15; (with_reducible refine (cS _).mono ?_); rintro e wA ⟨rfl, hb⟩; (have kA : Hid (Below w.heap.size w wA) := bthen k7.out.1 hb); clear hb cS)
              go_ret
              exact ⟨rfl, kA.out⟩
theorem gate_row (l : List Ev) (la : Option Addr) (lc : Nat) (w : World) (hl : EvsIn w la lc l) : Calls Try.prog 7 #[.slice la l.length lc] w fun e w' => e = .returned (.bool true) ∧ Below w.heap.size w w' := by
  obtain ⟨c, hc⟩ := check_ex l
  by_cases h0 : c = 0
  · subst h0
    by_cases h2 : l.length ≤ 250
    · exact gate_inG l la lc w hl.1 hc h2
    · exact gate_outG l la lc w hl.1 0 hc (.inr ⟨rfl, by omega⟩)
  · exact gate_outG l la lc w hl.1 c hc (.inl (by rw [bne_iff_ne]; exact h0))
end Go.Proofs.Ytdfnmlcpimiboaa.pg
