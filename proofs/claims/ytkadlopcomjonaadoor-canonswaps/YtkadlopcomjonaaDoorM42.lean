/- Two neighbours changed about: what becomes of a trace's class. -/
import Derived.Test.YtkadlopcomjonaaDoorM40
import Derived.Test.YtkadlopcomjonaaDoorM33
import Derived.Test.YtkadlopcomjonaaDoorM30
namespace Go.Proofs.YtkadlopcomjonaaDoor.pg
set_option linter.unusedVariables false
/-- Of events that depend on each other, each two, an order keeps the order. -/
theorem filter_same {d B : Nat → Nat → Bool} {n : Nat} {L : List Nat} (hL : Ways B n L) (hB : Tells d B) (p : Nat → Bool) (hp : ∀ i j, i < n → j < n → p i = true → p j = true → d i j = true) : L.filter p = (List.range n).filter p := by
  have hperm : L.Perm (List.range n) := by
    rw [List.perm_ext_iff_of_nodup hL.lin.nodup List.nodup_range]
    intro x
    rw [List.mem_range]
    constructor
    · exact hL.lin.lt x
    · intro hx
      obtain ⟨i, hi, e⟩ := hL.all hx
      rw [← e]
      exact List.mem_of_getElem? (nth_at (by rw [hL.len]; exact hi))
  refine List.Perm.eq_of_pairwise (le := fun a b : Nat => a ≤ b) (fun a b _ _ h1 h2 => by omega) ?_ ?_ (hperm.filter p)
  · rw [List.pairwise_filter, List.pairwise_iff_getElem]
    intro i j hi hj hij pi pj
    rw [hL.len] at hi hj
    have ei := nth_at (L := L) (i := i) (by rw [hL.len]; exact hi)
    have ej := nth_at (L := L) (i := j) (by rw [hL.len]; exact hj)
    have e1 : L[i]'(by rw [hL.len]; exact hi) = nth L i := by
      have := List.getElem?_eq_getElem (l := L) (i := i) (by rw [hL.len]; exact hi)
      rw [ei] at this
      exact (Option.some.inj this).symm
    have e2 : L[j]'(by rw [hL.len]; exact hj) = nth L j := by
      have := List.getElem?_eq_getElem (l := L) (i := j) (by rw [hL.len]; exact hj)
      rw [ej] at this
      exact (Option.some.inj this).symm
    rw [e1] at pi ⊢
    rw [e2] at pj ⊢
    rcases Nat.lt_or_ge (nth L j) (nth L i) with c | c
    · have := hL.up hB hj hi (.one c (hp _ _ (hL.lt hj) (hL.lt hi) pj pi))
      omega
    · exact c
  · exact (List.pairwise_le_range).filter p
/-- The events with some property, which depend on each other, stand in the canonical order as they stand. -/
theorem laid_filter {l : List Ev} {B : Nat → Nat → Bool} (hB : Tells (dpf l) B) {L : List Nat} (hL : Ways B l.length L) (p : Ev → Bool) (hp : ∀ x y, p x = true → p y = true → clash x.of y.of = true) : (laidE l L).filter p = l.filter p := by
  unfold laidE
  rw [List.filter_map, filter_same hL hB (p ∘ evf l) fun i j _ _ h1 h2 => hp _ _ h1 h2]
  have e : l = (List.range l.length).map (evf l) := by
    apply List.ext_getElem?
    intro i
    rw [List.getElem?_map]
    by_cases c : i < l.length
    · rw [List.getElem?_range c, evf_at c]; rfl
    · rw [List.getElem?_eq_none (by omega), List.getElem?_eq_none (by simp; omega)]; rfl
  rw [← List.filter_map, ← e]
/-- Two neighbours changed about. -/
def swapL (l : List Ev) (i : Nat) : List Ev := (l.set i (evf l (i + 1))).set (i + 1) (evf l i)
theorem swap_split {l : List Ev} {i : Nat} (h : i + 1 < l.length) : l = l.take i ++ evf l i :: evf l (i + 1) :: l.drop (i + 2) ∧ swapL l i = l.take i ++ evf l (i + 1) :: evf l i :: l.drop (i + 2) := by
  have e0 : l = l.take i ++ evf l i :: evf l (i + 1) :: l.drop (i + 2) := by
    have h1 : l[i]'(by omega) = evf l i := by
      have := evf_at (l := l) (i := i) (by omega)
      rw [List.getElem?_eq_getElem (by omega)] at this
      exact Option.some.inj this
    have h2 : l[i + 1] = evf l (i + 1) := by
      have := evf_at (l := l) (i := i + 1) h
      rw [List.getElem?_eq_getElem h] at this
      exact Option.some.inj this
    rw [← h1, ← h2, ← List.drop_eq_getElem_cons, ← List.drop_eq_getElem_cons, List.take_append_drop]
  refine ⟨e0, ?_⟩
  have hl : (l.take i).length = i := by rw [List.length_take]; omega
  unfold swapL
  generalize evf l i = a at *
  generalize evf l (i + 1) = b at *
  conv => lhs; rw [e0]
  rw [List.set_append_right i _ (by omega), hl, Nat.sub_self, List.set_cons_zero, List.set_append_right (i + 1) _ (by omega), hl, show i + 1 - i = 1 by omega]
  rfl
theorem swap_len (l : List Ev) (i : Nat) : (swapL l i).length = l.length := by simp [swapL]
theorem swap_all {l : List Ev} {i : Nat} (h : i + 1 < l.length) {P : Ev → Prop} (hP : ∀ x ∈ l, P x) : ∀ x ∈ swapL l i, P x := by
  obtain ⟨e1, e2⟩ := swap_split h
  intro x hx
  rw [e2] at hx
  apply hP
  rw [e1]
  simp only [List.mem_append, List.mem_cons] at hx ⊢
  rcases hx with q | q | q | q
  · exact .inl q
  · exact .inr (.inr (.inl q))
  · exact .inr (.inl q)
  · exact .inr (.inr (.inr q))
/-- The order of two changed about. -/
def swO (n i : Nat) : List Nat := (List.range n).map (swp i)
theorem swO_ways {l : List Ev} {B : Nat → Nat → Bool} (hB : Tells (dpf l) B) {i : Nat} (h : i + 1 < l.length) (hd : clash (evf l i).of (evf l (i + 1)).of = false) : Ways B l.length (swO l.length i) := by
  refine ⟨fun k x hx => ?_, by simp [swO]⟩
  unfold swO at hx ⊢
  rw [List.getElem?_map] at hx
  by_cases c : k < l.length
  · rw [List.getElem?_range c] at hx
    have hx2 := Option.some.inj hx
    have hlt : swp i k < l.length := swp_lt h c
    rw [← hx2]
    have hmem : ∀ y, y < l.length → (memS (((List.range l.length).map (swp i)).take k) y = true ↔ swp i y < k) := fun y hy => by
      unfold memS
      rw [decide_eq_true_iff, ← List.map_take, List.take_range, List.mem_map]
      constructor
      · rintro ⟨z, z1, z2⟩
        rw [← z2, swp_swp]
        have := List.mem_range.mp z1
        omega
      · intro q
        exact ⟨swp i y, List.mem_range.mpr (by omega), swp_swp i y⟩
    refine ⟨hlt, freeB_iff.mpr ⟨?_, fun j hj hb => ?_⟩⟩
    · rw [Bool.eq_false_iff]
      intro q
      have := (hmem _ hlt).mp q
      rw [swp_swp] at this
      omega
    · refine (hmem j (by omega)).mpr ?_
      apply Classical.byContradiction
      intro q
      have h1 : j = i ∧ swp i k = i + 1 := by
        by_cases a1 : k = i
        · have e1 : swp i k = i + 1 := by unfold swp; rw [if_pos a1]
          refine ⟨?_, e1⟩
          rw [e1] at hj
          by_cases a3 : j = i
          · exact a3
          · have e3 : swp i j = j := by unfold swp; rw [if_neg a3, if_neg (by omega)]
            rw [e3] at q; omega
        · exfalso
          by_cases a2 : k = i + 1
          · have e1 : swp i k = i := by unfold swp; rw [if_neg a1, if_pos a2]
            rw [e1] at hj
            have e3 : swp i j = j := by unfold swp; rw [if_neg (by omega), if_neg (by omega)]
            rw [e3] at q; omega
          · have e1 : swp i k = k := by unfold swp; rw [if_neg a1, if_neg a2]
            rw [e1] at hj
            by_cases a3 : j = i
            · have e3 : swp i j = i + 1 := by unfold swp; rw [if_pos a3]
              rw [e3] at q; omega
            · by_cases a4 : j = i + 1
              · have e3 : swp i j = i := by unfold swp; rw [if_neg a3, if_pos a4]
                rw [e3] at q; omega
              · have e3 : swp i j = j := by unfold swp; rw [if_neg a3, if_neg a4]
                rw [e3] at q; omega
      rw [h1.1, h1.2] at hb
      obtain ⟨m, m1, m2, m3⟩ := ((hB i (i + 1)).mp hb).last
      rcases m3 with rfl | m3
      · unfold dpf at m2
        rw [hd] at m2; cases m2
      · have := m3.lt; omega
  · rw [List.getElem?_eq_none (by simp; omega)] at hx
    cases hx
theorem swap_laid {l : List Ev} {i : Nat} (h : i + 1 < l.length) : laidE l (swO l.length i) = swapL l i := by
  apply List.ext_getElem?
  intro k
  unfold laidE swO swapL
  rw [List.getElem?_map, List.getElem?_map, List.getElem?_set, List.getElem?_set]
  by_cases c : k < l.length
  · rw [List.getElem?_range c]
    unfold swp
    by_cases c1 : k = i + 1
    · subst c1
      rw [if_pos rfl, List.length_set, if_pos h]
      simp
    · rw [if_neg (Ne.symm c1)]
      by_cases c2 : k = i
      · subst c2
        rw [if_pos rfl, if_pos c]
        simp
      · rw [if_neg (Ne.symm c2)]
        simp [c1, c2, evf_at c]
  · rw [List.getElem?_eq_none (by simp; omega)]
    rw [if_neg (by omega), if_neg (by omega), List.getElem?_eq_none (by omega)]
    rfl
/-- Changed about, a trace is in its class just if both are independent, or one event. -/
theorem swap_class {l X Y : List Ev} {i : Nat} (h : i + 1 < l.length) (hX : CanX l X) (hY : CanX (swapL l i) Y) : X = Y ↔ (clash (evf l i).of (evf l (i + 1)).of = false ∨ evf l i = evf l (i + 1)) := by
  obtain ⟨B, L, hB, k1, k2, e⟩ := hX.ex
  obtain ⟨B', M, hB', m1, m2, e'⟩ := hY.ex
  constructor
  · intro hxy
    cases hd : clash (evf l i).of (evf l (i + 1)).of with
    | false => exact .inl rfl
    | true =>
      right
      apply Classical.byContradiction
      intro hne
      have hri := hX.le.2 _ (List.mem_of_getElem? (evf_at (l := l) (i := i) (by omega)))
      have hrj := hX.le.2 _ (List.mem_of_getElem? (evf_at (l := l) (i := i + 1) h))
      have hself : ∀ z : Ev, rightP z → clash z.of z.of = true := fun z hz => clash_true hz.2.2.2 hz.2.2.2 (own_meets _)
      obtain ⟨p, hpd⟩ : ∃ p : Ev → Bool, ∀ z, p z = true ↔ (z = evf l i ∨ z = evf l (i + 1)) := ⟨fun z => (dec_ex (z = evf l i ∨ z = evf l (i + 1))).choose, fun z => (dec_ex (z = evf l i ∨ z = evf l (i + 1))).choose_spec⟩
      have hpp : ∀ x y, p x = true → p y = true → clash x.of y.of = true := fun x y hx hy => by
        rcases (hpd x).mp hx with rfl | rfl <;> rcases (hpd y).mp hy with rfl | rfl
        · exact hself _ hri
        · exact hd
        · rw [clash_comm]; exact hd
        · exact hself _ hrj
      have f1 := laid_filter hB (ord_ways k1 k2) p hpp
      have f2 := laid_filter hB' (ord_ways m1 m2) p hpp
      rw [e] at f1
      obtain ⟨s1, s2⟩ := swap_split h
      rw [e', ← hxy, f1, s2] at f2
      have f3 : (l.take i ++ evf l i :: evf l (i + 1) :: l.drop (i + 2)).filter p = (l.take i ++ evf l (i + 1) :: evf l i :: l.drop (i + 2)).filter p := by rw [← s1]; exact f2
      have pa : p (evf l i) = true := (hpd _).mpr (.inl rfl)
      have pb : p (evf l (i + 1)) = true := (hpd _).mpr (.inr rfl)
      rw [List.filter_append, List.filter_append, List.filter_cons_of_pos pa, List.filter_cons_of_pos pb, List.filter_cons_of_pos pb, List.filter_cons_of_pos pa] at f3
      have := List.append_cancel_left f3
      exact hne (List.cons.inj this).1
  · rintro (hd | he)
    · have hw := swO_ways hB h hd
      have hl : laidE l (swO l.length i) = swapL l i := swap_laid h
      rw [← e, ← e']
      rw [← hl] at hB' m1 m2 ⊢
      rw [laid_len] at m1 m2
      have hsl : (swO l.length i).length = l.length := by simp [swO]
      rw [hsl] at m1 m2
      exact (canon_laid hX.le.2 hB hw k1 k2 hB' m1 m2).symm
    · have : swapL l i = l := by
        obtain ⟨s1, s2⟩ := swap_split h
        rw [s2, he]
        rw [he] at s1
        exact s1.symm
      rw [this] at hB' m1 m2 e'
      have hbb := tells_one hB' hB
      subst hbb
      rw [← e, ← e', form_one k1 m1 k2 m2]
end Go.Proofs.YtkadlopcomjonaaDoor.pg
/- CanonSwaps, walked. -/
namespace Go.Proofs.YtkadlopcomjonaaDoor.pg
open Go.ChangeShapes Go.WideShapes Go.ChangeAt Go.RowKit Go.Shelf
set_option linter.unusedVariables false
set_option linter.unusedSimpArgs false
set_option maxRecDepth 100000
/-- Events in a block of the call's own, which are written over. -/
structure UpS (w W : World) (g cap : Nat) (u : List Ev) : Prop where
  r : Rows W 26 (some ⟨g, 0, none⟩) cap (u.map Ev.cells)
  c : ∃ cs, W.heap[g]? = some (.cells cs 42 (0, 0)) ∧ u.length * 26 ≤ cs.size
  b : Below w.heap.size w W
  l : w.heap.size ≤ g
theorem UpS.put {w W : World} {g cap : Nat} {u : List Ev} (h : UpS w W g cap u) {i : Nat} (hi : i < u.length) (x : Ev) : W.there g (i * 26) 26 ∧ UpS w (W.setCells g (i * 26) x.cells) g cap (u.set i x) := by
  obtain ⟨cs, hc, hs⟩ := h.c
  have hle : (i + 1) * 26 ≤ u.length * 26 := Nat.mul_le_mul_right 26 hi
  have ht : W.there g (i * 26) 26 := there_block hc (by omega)
  obtain ⟨cs', h1, h2⟩ := cells_keep x.cells (i * 26) W cs hc
  refine ⟨ht, ?_, ⟨cs', h1, by rw [List.length_set]; omega⟩, below_setCells h.l _ _ _ _ h.b, h.l⟩
  have := rows_put h.r (i := i) (by rw [List.length_map]; exact hi) (row := x.cells) rfl ht
  rw [← List.map_set] at this
  exact this
set_option maxHeartbeats 1000000 in
theorem own_okK (l : List Ev) (la : Option Addr) (lc : Nat) (w : World) (hl : Rows w 26 la lc (l.map Ev.cells)) (hz : l.length ≤ 256) (hpos : 0 < l.length) :
    Calls Tryd.prog 12 #[.slice la l.length lc] w fun e w' => ∃ g cap, e = .returned (.slice (some ⟨g, 0, none⟩) l.length cap) ∧ Hid (UpS w w' g cap l) := by
  obtain ⟨iE, hiE, hzE, hsE, hbE⟩ := info_q infoEv
  have hlen : Hid ((l.map Ev.cells).length = l.length) := by show _ = _; simp
  have hN : Hid (Rows w 26 la lc (l.map Ev.cells) ∧ l.length ≤ maxLen ∧ l.length * 208 ≤ 140737488355328) := by
    refine ⟨hl, by unfold maxLen; omega, by omega⟩
  have hk : Hid ((∀ row ∈ l.map Ev.cells, row.length = 26) ∧ ∀ row ∈ l.map Ev.cells, ∀ u ∈ row, u.oneCell' = true) := by
    refine ⟨fun row hr => ?_, fun row hr u hu => ?_⟩
    · obtain ⟨x, _, rfl⟩ := List.mem_map.mp hr; rfl
    · obtain ⟨x, _, rfl⟩ := List.mem_map.mp hr
      have := ev_one x
      rw [Array.all_eq_true_iff_forall_mem] at this
      exact this u (by simpa using hu)
  have hiH : Hid (Tryd.prog.info? 42 = some iE ∧ iE.zero = some (.agg stEvZ.cells.toArray) ∧ iE.size = 26 ∧ iE.bytes = 208) := ⟨hiE, hzE, hsE, hbE⟩
  have hpH : Hid (0 < l.length) := hpos
  clear hl hz hiE hzE hsE hbE hpos
  go_enter Tryd.func12, Tryd.ntmps12
  go_wp2_with (at_builtin; (refine wpList_app rfl (.tmp 4) (.tmp 5) 22 rfl w.heap.size 42 iE _ 26 208 Tryd.underlying22 hiH.out.1 hiH.out.2.1 hiH.out.2.2.1 hiH.out.2.2.2 rfl (by decide) none 0 [] rfl (own_nil_q _ _ _ _) la lc (l.map Ev.cells) (by rw [hlen.out]; rfl) hN.out.1 hk.out.1 hk.out.2 (by rw [hlen.out]; simpa using hN.out.2.1) (by rw [hlen.out]; simpa using hN.out.2.2) (Nat.le_refl _) ?_); intro va' vc' w2 h1 h2 h3 h4; (have hq : Hid (OwnL w2 w.heap.size 42 26 va' vc' (l.map Ev.cells) ∧ Below w.heap.size w w2) := ⟨h1, h3.mono (by omega)⟩); rw [List.nil_append, hlen.out]; clear h1 h2 h3 h4)
  have hfin : Hid (∃ g, va' = some ⟨g, 0, none⟩ ∧ UpS w w2 g vc' l) := by
    rcases own_block hq.out.1 with ⟨_, h1, _⟩ | ⟨g, h1, h2, h3⟩
    · have := hpH.out; rw [hlen.out] at h1; omega
    · subst h1
      refine ⟨g, rfl, own_rows hq.out.1 hk.out.1, ?_, hq.out.2, h2⟩
      rcases hq.out.1.2 with ⟨q, _⟩ | ⟨g', cap', cur, q, hb, hg', a1, a2, a3, a4⟩
      · simp only [Value.slice.injEq] at q; cases q.1
      · simp only [Value.slice.injEq, Option.some.injEq, Addr.mk.injEq, and_true, true_and] at q
        rw [q.1]
        refine ⟨cur, hg', ?_⟩
        rw [hlen.out] at a1
        have := Nat.mul_le_mul_right 26 a1
        omega
  obtain ⟨g, e1, hu⟩ := hfin.out
  have huH : Hid (UpS w w2 g vc' l) := hu
  subst e1
  clear hfin hu hq
  go_ret
  exact ⟨g, vc', rfl, huH⟩
set_option maxHeartbeats 1000000 in
theorem swaps_out (l : List Ev) (la : Option Addr) (lc : Nat) (pick : Int) (w : World) (hl : EvsIn w la lc l) (c : Int) (hc : checkP l c) (s : ByteArray)
    (h : (c != 0) = true ∨ ((c != 0) = false ∧ (l.length : Int) < 2)) (hlI : (l.length : Int) ≤ 9223372036854775807) (k2 : ∀ wx, Below w.heap.size w wx → Calls Tryd.prog 8 #[.slice la l.length lc] wx fun e w' => e = .returned (.tuple #[.string s, .int .i64 c]) ∧ Below wx.heap.size wx w') :
    Calls Tryd.prog 4 #[.slice la l.length lc, .int .i64 pick] w fun e w' => e = .returned (.bool true) ∧ Below w.heap.size w w' := by
  have k1 : ∀ wx, Below w.heap.size w wx → Calls Tryd.prog 11 #[.slice la l.length lc] wx _ := fun wx hb' => rcheck_any l la lc wx (hl.1.later hb') c hc
  have cS : ∀ wx, Calls Tryd.prog 10 #[] wx fun e w' => e = .returned (.bool true) ∧ Below wx.heap.size wx w' := fun wx => small_any wx
  have hB : Hid (Below w.heap.size w w) := Below.refl _ _
  have dc : (c == c) = true := by simp
  clear hl hc
  rcases h with d | ⟨d, d2⟩
  all_goals
    go_enter Tryd.func4, Tryd.ntmps4
    go_wp2_with (first
      | (go_at_call 11; (with_reducible refine (k1 _ hB.out).mono ?_); rintro e w1 ⟨rfl, hb1⟩; (have hB := hidB hB hb1); clear hb1)
      | (go_at_call 8; (with_reducible refine (k2 _ hB.out).mono ?_); rintro e w2 ⟨rfl, hb1⟩; (have hB := hidB hB hb1); clear hb1)
      | (go_at_call 10; (with_reducible refine (cS _).mono ?_); rintro e w3 ⟨rfl, hb3⟩; (have hB := hidB hB hb3); clear hb3 cS))
    go_ret
    exact ⟨rfl, hB.out⟩
theorem pick_ix (p : Int) (n : Nat) (h : 2 ≤ n) (hn : n ≤ 256) : ∃ i : Nat, wrap64 ((IntKind.u64.wrap p).tmod ((n : Int) - 1)) = (i : Int) ∧ i + 1 < n := by
  have h0 : 0 ≤ IntKind.u64.wrap p := by rw [IntKind.wrap_u64]; omega
  have h1 := Int.tmod_nonneg ((n : Int) - 1) h0
  have h2 := Int.tmod_lt_of_pos (IntKind.u64.wrap p) (b := (n : Int) - 1) (by omega)
  generalize (IntKind.u64.wrap p).tmod ((n : Int) - 1) = r at *
  refine ⟨r.toNat, ?_, by omega⟩
  simp only [wrap64]
  omega
theorem eql_ev {x y : Ev} (hx : x.wf) (hy : y.wf) (R : Bool) (hR : R = true ↔ x = y) (w : World) : (binOp .eql 42 (.agg x.cells.toArray) (.agg y.cells.toArray)).run Tryd.prog w = .ok (.bool R) w := by
  rw [run_eql_struct, eq_ev hx hy R hR]
  rfl
theorem guard_eq2 {x y : Ev} (hx : x.wf) (hy : y.wf) (R : Bool) (hR : R = true ↔ x = y) (p q : Operand) (w : World) : ((do
    eqGuard .eql 42 p q (.agg x.cells.toArray) (.agg y.cells.toArray)
    binOp .eql 42 (.agg x.cells.toArray) (.agg y.cells.toArray)) : Sem Value).run Tryd.prog w = .ok (.bool R) w := by
  have hm : Tryd.prog.eqGuardType Tryd.prog.depth 42 = false := by kernel_rfl
  simp only [Sem.run_bind, run_eqGuard_agg (P := Tryd.prog) w .eql 42 p q _ _ hm, Result.andThen_ok]
  exact eql_ev hx hy R hR w
theorem add_one (i : Int) (h : wrap64 (i + 1) = i + 1) (p q : Operand) (wx : World) : ((do
    eqGuard .add 3 p q (.int .i64 i) (.int .i64 1)
    binOp .add 3 (.int .i64 i) (.int .i64 1)) : Sem Value).run Tryd.prog wx = .ok (.int .i64 (i + 1)) wx := by
  have u := Tryd.underlying3
  simp [eqGuard, binOp, go_sem, u]
  rw [IntKind.wrap_i64]
  simp only [wrap64] at h
  omega
theorem swap_can {l : List Ev} {i : Nat} (h : i + 1 < l.length) (hlen : l.length ≤ 256) (hrt : ∀ x ∈ l, rightP x) : ∃ Y, CanX (swapL l i) Y := canX_ex (by rw [swap_len]; exact hlen) (swap_all h hrt)
set_option maxHeartbeats 8000000 in
theorem swaps_in (l : List Ev) (la : Option Addr) (lc : Nat) (pick : Int) (w : World) (hl : EvsIn w la lc l) (X : List Ev) (hX : CanX l X) (hc : checkP l 0) (h2 : 2 ≤ l.length) (hT : Tab w) :
    Calls Tryd.prog 4 #[.slice la l.length lc, .int .i64 pick] w fun e w' => e = .returned (.bool true) ∧ Below w.heap.size w w' := by
  have k1 := rcheck_any l la lc w hl.1 0 hc
  have cO : ∀ wx, Below w.heap.size w wx → Calls Tryd.prog 12 #[.slice la l.length lc] wx _ := fun wx hb => own_okK l la lc wx (hl.1.later hb) hX.le.1 (by omega)
  have hlI : (l.length : Int) ≤ 256 := by have := hX.le.1; omega
  have h2I : (2 : Int) ≤ (l.length : Int) := by omega
  have d2 : ¬ ((l.length : Int) < 2) := by omega
  obtain ⟨i, ei, hi⟩ := pick_ix pick l.length h2 hX.le.1
  obtain ⟨Y, hY⟩ := swap_can hi hX.le.1 hX.le.2
  obtain ⟨R, hR⟩ := dec_ex (X = Y)
  obtain ⟨D, hD⟩ : ∃ D, clash (evf l i).of (evf l (i + 1)).of = D := ⟨_, rfl⟩
  obtain ⟨E, hE⟩ := dec_ex (evf l i = evf l (i + 1))
  have hRD : Hid (R = (!D || E)) := by
    show R = _
    rw [Bool.eq_iff_iff, hR, swap_class hi hX hY, hD, ← hE]
    cases D <;> simp
  have hkeys : ((⟨(keyB X).toArray⟩ : ByteArray).toList == (⟨(keyB Y).toArray⟩ : ByteArray).toList) = R := str_eq R (hR.trans (keyB_inj hX.rt hY.rt).symm)
  have wa := hl.2 _ (List.mem_of_getElem? (evf_at (l := l) (i := i) (by omega)))
  have wb := hl.2 _ (List.mem_of_getElem? (evf_at (l := l) (i := i + 1) hi))
  have heq := fun p q wx => guard_eq2 wa wb E hE p q wx
  have cD : ∀ wx, Calls Tryd.prog 13 #[.agg (evf l i).cells.toArray, .agg (evf l (i + 1)).cells.toArray] wx fun e w' => e = .returned (.bool D) ∧ Below wx.heap.size wx w' := fun wx => dependent_any _ _ wx D (show D = _ from hD.symm)
  have hrow : Hid (∀ wx, Below w.heap.size w wx → Rows wx 26 la lc (l.map Ev.cells)) := fun wx hb => hl.1.later hb
  have cS : ∀ wx g cap, Below w.heap.size w wx → Rows wx 26 (some ⟨g, 0, none⟩) cap ((swapL l i).map Ev.cells) → Calls Tryd.prog 6 #[.slice la l.length lc, .slice (some ⟨g, 0, none⟩) l.length cap] wx fun e w' => e = .returned (.tuple #[.bool R, .int .i64 0]) ∧ Below wx.heap.size wx w' := fun wx g cap hb hr => by
    have := same_is hX hY la (some ⟨g, 0, none⟩) lc cap wx (evs_later hl hb) ⟨hr, swap_all hi hl.2⟩ R hR
    rw [swap_len] at this
    exact this
  have y1 : ∀ wx, Below w.heap.size w wx → Calls Tryd.prog 8 #[.slice la l.length lc] wx _ := fun wx hb => key_is hX la lc wx (evs_later hl hb) (hT.later hb)
  have y2 : ∀ wx g cap, Below w.heap.size w wx → Rows wx 26 (some ⟨g, 0, none⟩) cap ((swapL l i).map Ev.cells) → Calls Tryd.prog 8 #[.slice (some ⟨g, 0, none⟩) l.length cap] wx fun e w' => e = .returned (.tuple #[.string ⟨(keyB Y).toArray⟩, .int .i64 0]) ∧ Below wx.heap.size wx w' := fun wx g cap hb hr => by
    have := key_is hY (some ⟨g, 0, none⟩) cap wx ⟨hr, swap_all hi hl.2⟩ (hT.later hb)
    rw [swap_len] at this
    exact this
  have hiE : Hid ((Tryd.prog.info? 42).map (·.size) = some 26) := infoE26
  have huE : Hid (Tryd.prog.underlying 42 = _) := Tryd.underlying42
  have hat : Hid (l[i]? = some (evf l i) ∧ l[i + 1]? = some (evf l (i + 1))) := ⟨evf_at (by omega), evf_at hi⟩
  obtain ⟨sX, hsX⟩ : ∃ s : ByteArray, (⟨(keyB X).toArray⟩ : ByteArray) = s := ⟨_, rfl⟩
  obtain ⟨sY, hsY⟩ : ∃ s : ByteArray, (⟨(keyB Y).toArray⟩ : ByteArray) = s := ⟨_, rfl⟩
  rw [hsX, hsY] at hkeys
  rw [hsX] at y1
  rw [hsY] at y2
  have hsw : Hid (swapL l i = (l.set i (evf l (i + 1))).set (i + 1) (evf l i)) := rfl
  clear hl hX hY hR hD hE hT hc wa wb hsX hsY
  go_enter Tryd.func4, Tryd.ntmps4
  go_upto_region 5 with (first
      | (go_at_call 11; (with_reducible refine k1.mono ?_); rintro e w1 ⟨rfl, hb1⟩; (have hB : Hid (Below w.heap.size w w1) := hb1); clear hb1 k1))
  rw [ei]
  clear ei
  go_upto_region 6 with (go_at_call 12; (refine (cO _ hB.out).mono ?_); rintro e w2 ⟨g, cap, rfl, hu⟩; clear cO)
  have hiI : (i : Int) + 1 < (l.length : Int) := by omega
  have hw1 : wrap64 ((i : Int) + 1) = (i : Int) + 1 := by simp only [wrap64]; omega
  obtain ⟨a, ha⟩ : ∃ a, evf l i = a := ⟨_, rfl⟩
  obtain ⟨b, hb⟩ : ∃ b, evf l (i + 1) = b := ⟨_, rfl⟩
  rw [ha] at hat hsw cD heq
  rw [hb] at hat hsw cD heq
  clear ha hb
  have ec : (((i + 1 : Nat)) : Int) = (i : Int) + 1 := by omega
  have hbw2 : Hid (Below w.heap.size w w2) := bthen hB.out hu.out.b
  obtain ⟨b2, o2, x2, l2, r2⟩ := evs_ix (hrow.out w2 hbw2.out) (i + 1) b hat.out.2
  rw [ec] at x2
  have hr2 : Hid (w2.rangeAt b2 o2 b.cells) := r2
  have x3 := rows_ix_g (t := 22) (e := 42) (k := 26) Tryd.underlying22 (fun wx => Tryd.sizeOf42 wx) g l.length cap i (by omega)
  have p1 : Hid (w2.there g (i * 26) 26 ∧ UpS w1 (w2.setCells g (i * 26) b.cells) g cap (l.set i b)) := hu.out.put (by omega) b
  have hone : Hid (∀ z : Ev, z.cells.toArray.all (·.oneCell') = true ∧ (Tryd.prog.info? 42).map (·.size) = some z.cells.toArray.size) := fun z => ⟨ev_one z, infoE_ev z⟩
  clear r2 hu l2
  go_upto_region 7 with (first
    | (refine wpList_load_g rfl 42 _ rfl b2 o2 rfl b.cells _ hr2.out huE.out rfl hiE.out ?_)
    | (refine wpList_store_mid rfl 42 _ _ rfl g (i * 26) b.cells.toArray rfl rfl p1.out.1 (hone.out b).2 (hone.out b).1 ?_))
  change Code.wp _ _ _ _ (w2.setCells g (i * 26) b.cells)
  have p2 : Hid (UpS w1 (w2.setCells g (i * 26) b.cells) g cap (l.set i b)) := p1.out.2
  clear p1 x2 hr2
  generalize w2.setCells g (i * 26) b.cells = W3 at *
  have hbw3 : Hid (Below w.heap.size w W3) := bthen hB.out p2.out.b
  obtain ⟨b1, o1, x1, l1, r1⟩ := evs_ix (hrow.out W3 hbw3.out) i a hat.out.1
  have hr1 : Hid (W3.rangeAt b1 o1 a.cells) := r1
  have x4 := rows_ix_g (t := 22) (e := 42) (k := 26) Tryd.underlying22 (fun wx => Tryd.sizeOf42 wx) g l.length cap (i + 1) (by omega)
  rw [ec] at x4
  have p3 : Hid (W3.there g ((i + 1) * 26) 26 ∧ UpS w1 (W3.setCells g ((i + 1) * 26) a.cells) g cap ((l.set i b).set (i + 1) a)) := p2.out.put (by rw [List.length_set]; exact hi) a
  clear r1 l1 p2 x3
  go_upto_region 8 with (first
    | (refine wpList_load_g rfl 42 _ rfl b1 o1 rfl a.cells _ hr1.out huE.out rfl hiE.out ?_)
    | (refine wpList_store_mid rfl 42 _ _ rfl g ((i + 1) * 26) a.cells.toArray rfl rfl p3.out.1 (hone.out a).2 (hone.out a).1 ?_))
  change Code.wp _ _ _ _ (W3.setCells g ((i + 1) * 26) a.cells)
  have p4 : Hid (Below w.heap.size w (W3.setCells g ((i + 1) * 26) a.cells) ∧ Rows (W3.setCells g ((i + 1) * 26) a.cells) 26 (some ⟨g, 0, none⟩) cap ((swapL l i).map Ev.cells)) := by
    rw [hsw.out]
    exact ⟨bthen hB.out p3.out.2.b, p3.out.2.r⟩
  clear p3 x1 x4 hr1 hsw hbw2 hbw3
  generalize W3.setCells g ((i + 1) * 26) a.cells = W4 at *
  go_upto_region 11 with (first
    | (go_at_call 6; (with_reducible refine (cS _ g cap p4.out.1 p4.out.2).mono ?_); rintro e w5 ⟨rfl, hb5⟩; (have p5 : Hid (Below w.heap.size w w5 ∧ Rows w5 26 (some ⟨g, 0, none⟩) cap ((swapL l i).map Ev.cells)) := ⟨bthen p4.out.1 hb5, p4.out.2.later hb5⟩); clear hb5 cS)
    | (go_at_call 8; (first | (with_reducible refine (y1 _ p5.out.1).mono ?_); rintro e w6 ⟨rfl, hb6⟩; (have p6 : Hid (Below w.heap.size w w6 ∧ Rows w6 26 (some ⟨g, 0, none⟩) cap ((swapL l i).map Ev.cells)) := ⟨bthen p5.out.1 hb6, p5.out.2.later hb6⟩); clear hb6 y1 | (with_reducible refine (y2 _ g cap p6.out.1 p6.out.2).mono ?_); rintro e w7 ⟨rfl, hb7⟩; (have p7 : Hid (Below w.heap.size w w7) := bthen p6.out.1 hb7); clear hb7 y2)))
  obtain ⟨b1, o1, x1, l1, r1⟩ := evs_ix (hrow.out w7 p7.out) i a hat.out.1
  obtain ⟨b2, o2, x2, l2, r2⟩ := evs_ix (hrow.out w7 p7.out) (i + 1) b hat.out.2
  rw [ec] at x2
  have s1 : ∀ q : Cls (Bey w7), q.w.rangeAt b1 o1 a.cells := fun q => range_block r1 (q.h.block b1 l1)
  have s2 : ∀ q : Cls (Bey w7), q.w.rangeAt b2 o2 b.cells := fun q => range_block r2 (q.h.block b2 l2)
  have hnn := bey_some w7
  refine wp_region_cls (Bey w7) (by kernel_rfl) (by kernel_rfl) (bey_drew w7) ?_
  repeat (first
    | (go_big_quiet_want; (first | refine quiet_load_mid 42 _ rfl b1 o1 rfl _ _ s1 huE.out rfl hiE.out ?_ | refine quiet_load_mid 42 _ rfl b2 o2 rfl _ _ s2 huE.out rfl hiE.out ?_); (simp only [Act.put, List.setIfInBounds_toArray, List.set_cons_zero, List.set_cons_succ]); go_big_quiet_on)
    | go_big_quiet_step ((go_at_call 13; exact calls_bey (cD _))))
  refine wpQuiet_nil ?_
  intro _ hw'
  obtain ⟨sq, hw''⟩ := hw'
  subst hw''
  have p8 : Hid (Below w.heap.size w sq.w) := bthen p7.out sq.h
  clear x1 x2 s1 s2 hnn r1 r2 l1 l2
  generalize sq.w = w8 at *
  cases D with
  | false =>
    have hr : R = true := by rw [hRD.out]; rfl
    subst hr
    clear hRD heq cD hrow hat hone huE hiE
    go_upto_region 12 with fail
    refine wp_region_noPanic ?_
    refine wp_region_held_drew (S := fun w' => Below w8.heap.size w8 w') (by kernel_rfl) (bey_drew w8) (fun hS => ?_)
    refine reg_move (i := 0) rfl (by kernel_rfl) (by kernel_rfl) (by kernel_rfl) (fun _ _ _ _ h => h) rfl (.bool true) (fun _ => by kernel_rfl) hS ?_
    simp only [Act.put, List.getElem_toArray, List.getElem_cons_succ, List.getElem_cons_zero, List.setIfInBounds_toArray, List.set_cons_zero, List.set_cons_succ]
    refine reg_move (i := 1) rfl (by kernel_rfl) (by kernel_rfl) (by kernel_rfl) (fun _ _ _ _ h => h) rfl (.bool true) (fun _ => by kernel_rfl) hS ?_
    simp only [Act.put, List.getElem_toArray, List.getElem_cons_succ, List.getElem_cons_zero, List.setIfInBounds_toArray, List.set_cons_zero, List.set_cons_succ]
    refine reg_skip (i := 2) rfl (by kernel_rfl) (by kernel_rfl) (by kernel_rfl) (fun _ _ _ _ h => h) rfl hS ?_
    simp only [Act.put, List.getElem_toArray, List.getElem_cons_succ, List.getElem_cons_zero, List.setIfInBounds_toArray, List.set_cons_zero, List.set_cons_succ]
    refine reg_skip (i := 3) rfl (by kernel_rfl) (by kernel_rfl) (by kernel_rfl) (fun _ _ _ _ h => h) rfl hS ?_
    simp only [Act.put, List.getElem_toArray, List.getElem_cons_succ, List.getElem_cons_zero, List.setIfInBounds_toArray, List.set_cons_zero, List.set_cons_succ]
    refine reg_skip (i := 4) rfl (by kernel_rfl) (by kernel_rfl) (by kernel_rfl) (fun _ _ _ _ h => h) rfl hS ?_
    simp only [Act.put, List.getElem_toArray, List.getElem_cons_succ, List.getElem_cons_zero, List.setIfInBounds_toArray, List.set_cons_zero, List.set_cons_succ]
    refine reg_skip (i := 5) rfl (by kernel_rfl) (by kernel_rfl) (by kernel_rfl) (fun _ _ _ _ h => h) rfl hS ?_
    simp only [Act.put, List.getElem_toArray, List.getElem_cons_succ, List.getElem_cons_zero, List.setIfInBounds_toArray, List.set_cons_zero, List.set_cons_succ]
    refine reg_skip (i := 6) rfl (by kernel_rfl) (by kernel_rfl) (by kernel_rfl) (fun _ _ _ _ h => h) rfl hS ?_
    simp only [Act.put, List.getElem_toArray, List.getElem_cons_succ, List.getElem_cons_zero, List.setIfInBounds_toArray, List.set_cons_zero, List.set_cons_succ]
    refine reg_skip (i := 7) rfl (by kernel_rfl) (by kernel_rfl) (by kernel_rfl) (fun _ _ _ _ h => h) rfl hS ?_
    simp only [Act.put, List.getElem_toArray, List.getElem_cons_succ, List.getElem_cons_zero, List.setIfInBounds_toArray, List.set_cons_zero, List.set_cons_succ]
    refine reg_skip (i := 8) rfl (by kernel_rfl) (by kernel_rfl) (by kernel_rfl) (fun _ _ _ _ h => h) rfl hS ?_
    simp only [Act.put, List.getElem_toArray, List.getElem_cons_succ, List.getElem_cons_zero, List.setIfInBounds_toArray, List.set_cons_zero, List.set_cons_succ]
    refine reg_skip (i := 9) rfl (by kernel_rfl) (by kernel_rfl) (by kernel_rfl) (fun _ _ _ _ h => h) rfl hS ?_
    simp only [Act.put, List.getElem_toArray, List.getElem_cons_succ, List.getElem_cons_zero, List.setIfInBounds_toArray, List.set_cons_zero, List.set_cons_succ]
    refine reg_skip (i := 10) rfl (by kernel_rfl) (by kernel_rfl) (by kernel_rfl) (fun _ _ _ _ h => h) rfl hS ?_
    simp only [Act.put, List.getElem_toArray, List.getElem_cons_succ, List.getElem_cons_zero, List.setIfInBounds_toArray, List.set_cons_zero, List.set_cons_succ]
    refine reg_skip (i := 11) rfl (by kernel_rfl) (by kernel_rfl) (by kernel_rfl) (fun _ _ _ _ h => h) rfl hS ?_
    simp only [Act.put, List.getElem_toArray, List.getElem_cons_succ, List.getElem_cons_zero, List.setIfInBounds_toArray, List.set_cons_zero, List.set_cons_succ]
    refine reg_move (i := 12) rfl (by kernel_rfl) (by kernel_rfl) (by kernel_rfl) (fun _ _ _ _ h => h) rfl (.bool true) (fun _ => by kernel_rfl) hS ?_
    simp only [Act.put, List.getElem_toArray, List.getElem_cons_succ, List.getElem_cons_zero, List.setIfInBounds_toArray, List.set_cons_zero, List.set_cons_succ]
    refine reg_move (i := 13) rfl (by kernel_rfl) (by kernel_rfl) (by kernel_rfl) (fun _ _ _ _ h => h) rfl (.bool true) (fun _ => by kernel_rfl) hS ?_
    simp only [Act.put, List.getElem_toArray, List.getElem_cons_succ, List.getElem_cons_zero, List.setIfInBounds_toArray, List.set_cons_zero, List.set_cons_succ]
    refine wpAnyH_done (by kernel_rfl) (NoPanic.normal ?_) _
    have p9 : Hid (Below w.heap.size w w8.drew) := bthen p8.out hS
    clear hS
    go_wp2
    go_ret
    exact ⟨rfl, p9.out⟩
  | true =>
    have hr : R = E := by rw [hRD.out]; simp
    subst hr
    clear hRD
    obtain ⟨b1, o1, x1, l1, r1⟩ := evs_ix (hrow.out w8 p8.out) i a hat.out.1
    obtain ⟨b2, o2, x2, l2, r2⟩ := evs_ix (hrow.out w8 p8.out) (i + 1) b hat.out.2
    rw [ec] at x2
    have q1 : Hid (b1 < w8.heap.size ∧ w8.rangeAt b1 o1 a.cells) := ⟨l1, r1⟩
    have q2 : Hid (b2 < w8.heap.size ∧ w8.rangeAt b2 o2 b.cells) := ⟨l2, r2⟩
    clear l1 r1 l2 r2
    go_upto_region 12 with fail
    refine wp_region_noPanic ?_
    refine wp_region_held_drew (S := fun w' => Below w8.heap.size w8 w') (by kernel_rfl) (bey_drew w8) (fun hS => ?_)
    refine reg_move (i := 0) rfl (by kernel_rfl) (by kernel_rfl) (by kernel_rfl) (fun _ _ _ _ h => h) rfl (.bool false) (fun _ => by kernel_rfl) hS ?_
    simp only [Act.put, List.getElem_toArray, List.getElem_cons_succ, List.getElem_cons_zero, List.setIfInBounds_toArray, List.set_cons_zero, List.set_cons_succ]
    refine reg_move (i := 1) rfl (by kernel_rfl) (by kernel_rfl) (by kernel_rfl) (fun _ _ _ _ h => h) rfl (.bool false) (fun _ => by kernel_rfl) hS ?_
    simp only [Act.put, List.getElem_toArray, List.getElem_cons_succ, List.getElem_cons_zero, List.setIfInBounds_toArray, List.set_cons_zero, List.set_cons_succ]
    refine reg_move (i := 2) rfl (by kernel_rfl) (by kernel_rfl) (by kernel_rfl) (fun _ _ _ _ h => h) rfl (.slice la l.length lc) (fun _ => by kernel_rfl) hS ?_
    simp only [Act.put, List.getElem_toArray, List.getElem_cons_succ, List.getElem_cons_zero, List.setIfInBounds_toArray, List.set_cons_zero, List.set_cons_succ]
    refine reg_move (i := 3) rfl (by kernel_rfl) (by kernel_rfl) (by kernel_rfl) (fun _ _ _ _ h => h) rfl (.int .i64 (i : Int)) (fun _ => by kernel_rfl) hS ?_
    simp only [Act.put, List.getElem_toArray, List.getElem_cons_succ, List.getElem_cons_zero, List.setIfInBounds_toArray, List.set_cons_zero, List.set_cons_succ]
    refine reg_move (i := 4) rfl (by kernel_rfl) (by kernel_rfl) (by kernel_rfl) (fun _ _ _ _ h => h) rfl (.pointer (some ⟨b1, o1, none⟩)) (fun wx => by unfold execOp; exact run_value_of (x1 wx)) hS ?_
    simp only [Act.put, List.getElem_toArray, List.getElem_cons_succ, List.getElem_cons_zero, List.setIfInBounds_toArray, List.set_cons_zero, List.set_cons_succ]
    refine reg_load (i := 5) rfl (by kernel_rfl) (by kernel_rfl) (by kernel_rfl) (fun _ _ _ _ h => h) rfl 42 _ rfl b1 o1 rfl a.cells _ (fun w' h' => range_later q1.out.2 q1.out.1 h') Tryd.underlying42 rfl infoE26 hS ?_
    simp only [Act.put, List.getElem_toArray, List.getElem_cons_succ, List.getElem_cons_zero, List.setIfInBounds_toArray, List.set_cons_zero, List.set_cons_succ]
    refine reg_move (i := 6) rfl (by kernel_rfl) (by kernel_rfl) (by kernel_rfl) (fun _ _ _ _ h => h) rfl (.slice la l.length lc) (fun _ => by kernel_rfl) hS ?_
    simp only [Act.put, List.getElem_toArray, List.getElem_cons_succ, List.getElem_cons_zero, List.setIfInBounds_toArray, List.set_cons_zero, List.set_cons_succ]
    refine reg_move (i := 7) rfl (by kernel_rfl) (by kernel_rfl) (by kernel_rfl) (fun _ _ _ _ h => h) rfl (.int .i64 (i : Int)) (fun _ => by kernel_rfl) hS ?_
    simp only [Act.put, List.getElem_toArray, List.getElem_cons_succ, List.getElem_cons_zero, List.setIfInBounds_toArray, List.set_cons_zero, List.set_cons_succ]
    refine reg_move (i := 8) rfl (by kernel_rfl) (by kernel_rfl) (by kernel_rfl) (fun _ _ _ _ h => h) rfl (.int .i64 ((i : Int) + 1)) (fun wx => by unfold execOp; exact run_value_of (add_one _ hw1 _ _ wx)) hS ?_
    simp only [Act.put, List.getElem_toArray, List.getElem_cons_succ, List.getElem_cons_zero, List.setIfInBounds_toArray, List.set_cons_zero, List.set_cons_succ]
    refine reg_move (i := 9) rfl (by kernel_rfl) (by kernel_rfl) (by kernel_rfl) (fun _ _ _ _ h => h) rfl (.pointer (some ⟨b2, o2, none⟩)) (fun wx => by unfold execOp; exact run_value_of (x2 wx)) hS ?_
    simp only [Act.put, List.getElem_toArray, List.getElem_cons_succ, List.getElem_cons_zero, List.setIfInBounds_toArray, List.set_cons_zero, List.set_cons_succ]
    refine reg_load (i := 10) rfl (by kernel_rfl) (by kernel_rfl) (by kernel_rfl) (fun _ _ _ _ h => h) rfl 42 _ rfl b2 o2 rfl b.cells _ (fun w' h' => range_later q2.out.2 q2.out.1 h') Tryd.underlying42 rfl infoE26 hS ?_
    simp only [Act.put, List.getElem_toArray, List.getElem_cons_succ, List.getElem_cons_zero, List.setIfInBounds_toArray, List.set_cons_zero, List.set_cons_succ]
    refine reg_move (i := 11) rfl (by kernel_rfl) (by kernel_rfl) (by kernel_rfl) (fun _ _ _ _ h => h) rfl (.bool R) (fun wx => by unfold execOp; exact run_value_of (heq _ _ wx)) hS ?_
    simp only [Act.put, List.getElem_toArray, List.getElem_cons_succ, List.getElem_cons_zero, List.setIfInBounds_toArray, List.set_cons_zero, List.set_cons_succ]
    refine reg_move (i := 12) rfl (by kernel_rfl) (by kernel_rfl) (by kernel_rfl) (fun _ _ _ _ h => h) rfl (.bool R) (fun wx => by kernel_rfl) hS ?_
    simp only [Act.put, List.getElem_toArray, List.getElem_cons_succ, List.getElem_cons_zero, List.setIfInBounds_toArray, List.set_cons_zero, List.set_cons_succ]
    refine reg_move (i := 13) rfl (by kernel_rfl) (by kernel_rfl) (by kernel_rfl) (fun _ _ _ _ h => h) rfl (.bool R) (fun wx => by kernel_rfl) hS ?_
    simp only [Act.put, List.getElem_toArray, List.getElem_cons_succ, List.getElem_cons_zero, List.setIfInBounds_toArray, List.set_cons_zero, List.set_cons_succ]
    refine wpAnyH_done (by kernel_rfl) (NoPanic.normal ?_) _
    have p9 : Hid (Below w.heap.size w w8.drew) := bthen p8.out hS
    clear hS heq
    cases R <;>
    · go_wp2
      go_ret
      exact ⟨rfl, p9.out⟩
theorem cswaps_any (l : List Ev) (la : Option Addr) (lc : Nat) (pick : Int) (w : World) (hl : EvsIn w la lc l) (_ : (Lit.int .i64 pick).wf = true) (hT : Tab w) :
    Calls Tryd.prog 4 #[.slice la l.length lc, .int .i64 pick] w fun e w' => e = .returned (.bool true) ∧ Below w.heap.size w w' := by
  obtain ⟨c, hc⟩ := check_ex l
  have hlI := rows_len hl.1
  by_cases h0 : c = 0
  · obtain ⟨a1, a2⟩ := check_is hc h0
    obtain ⟨X, hX⟩ := canX_ex a1 a2
    subst h0
    by_cases h2 : 2 ≤ l.length
    · exact swaps_in l la lc pick w hl X hX hc h2 hT
    · exact swaps_out l la lc pick w hl 0 hc _ (.inr ⟨rfl, by omega⟩) hlI fun wx hx => key_is hX la lc wx (evs_later hl hx) (hT.later hx)
  · have h7 : c = 2 ∨ c = 7 := by
      rcases hc with ⟨_, q⟩ | ⟨_, _, q⟩ | ⟨_, _, q⟩
      · exact .inl q
      · exact .inr q
      · exact absurd q h0
    exact swaps_out l la lc pick w hl c hc ⟨#[]⟩ (.inl (by simpa using h0)) hlI fun wx hx => key_bad l la lc wx (hl.1.later hx) c hc h7
end Go.Proofs.YtkadlopcomjonaaDoor.pg
