/- The canonical order, once: CanonOnce, walked. -/
import Derived.Test.YtkadlopcomjonaaM37
namespace Go.Proofs.Ytkadlopcomjonaa.pg
open Go.ChangeShapes Go.WideShapes Go.ChangeAt Go.RowKit Go.Shelf
set_option linter.unusedVariables false
set_option linter.unusedSimpArgs false
set_option maxRecDepth 100000
set_option maxHeartbeats 1000000 in
theorem once_bad (l : List Ev) (la : Option Addr) (lc : Nat) (w : World) (hl : Rows w 26 la lc (l.map Ev.cells)) (c : Int) (hc : checkP l c) (h0 : c = 2 ∨ c = 7) :
    Calls Try.prog 7 #[.slice la l.length lc] w fun e w' => e = .returned (.bool true) ∧ Below w.heap.size w w' := by
  have c1 := form_bad l la lc w hl c hc h0
  have c2 : ∀ wx, Below w.heap.size w wx → Calls Try.prog 13 #[.slice la l.length lc] wx _ := fun wx hb => rcheck_any l la lc wx (hl.later hb) c hc
  have cS : ∀ wx, Calls Try.prog 26 #[] wx fun e w' => e = .returned (.bool true) ∧ Below wx.heap.size wx w' := fun wx => small_any wx
  have d : (c != 0) = true := by rcases h0 with rfl | rfl <;> rfl
  clear hl hc h0
  go_enter Try.func7, Try.ntmps7
  go_wp2_with (first
    | (go_at_call 19; (with_reducible refine c1.mono ?_); rintro e w1 ⟨rfl, hb1⟩; (have hB : Hid (Below w.heap.size w w1) := hb1); clear hb1 c1)
    | (go_at_call 13; (refine (c2 _ hB.out).mono ?_); rintro e w2 ⟨rfl, hb2⟩; (have hB : Hid (Below w.heap.size w w2) := bthen hB.out hb2); clear hb2 c2)
    | (go_at_call 26; (with_reducible refine (cS _).mono ?_); rintro e w3 ⟨rfl, hb3⟩; (have hB : Hid (Below w.heap.size w w3) := bthen hB.out hb3); clear hb3 cS))
  go_ret
  exact ⟨rfl, hB.out⟩
theorem atM_nth {B : Nat → Nat → Bool} {n : Nat} {L : List Nat} (hL : Ways B n L) : ∀ k, k ≤ n → ∀ i, i < k → (atM n (L.map fun x : Nat => (x : Int)) k).getD (nth L i) 0 = (i : Int)
  | 0, _, i, h => by omega
  | k + 1, hk, i, h => by
    have hp : (L.map fun x : Nat => (x : Int))[k]? = some ((nth L k : Nat) : Int) := by rw [List.getElem?_map, nth_at (by rw [hL.len]; omega)]; rfl
    rw [← atM_more hp, getD_set0 _ _ _ (by rw [atM_len]; exact hL.lt (by omega))]
    by_cases c : i = k
    · rw [c, if_pos rfl]
    · rw [if_neg fun q => c (hL.inj (by omega) (by omega) q)]
      exact atM_nth hL k (by omega) i (by omega)
/-- An order that keeps what happens before what, as the package's Linear is asked for it. -/
theorem lin_true {l : List Ev} (hlen : l.length ≤ 256) (hrt : ∀ x ∈ l, rightP x) {B : Nat → Nat → Bool} (hB : Tells (dpf l) B) {L : List Nat} (hL : Ways B l.length L) :
    (∀ p ∈ L.map (fun x : Nat => (x : Int)), 0 ≤ p ∧ p < (l.length : Int)) ∧ (lst (fOf (L.map fun x : Nat => (x : Int))) 256).length = l.length ∧ linB (rel (evf l) l.length).2 (atS l.length (L.map fun x : Nat => (x : Int)) (L.map fun x : Nat => (x : Int)).length) = true := by
  have hin : ∀ p ∈ L.map (fun x : Nat => (x : Int)), 0 ≤ p ∧ p < (l.length : Int) := fun p hp => by
    obtain ⟨x, hx, rfl⟩ := List.mem_map.mp hp
    have := hL.lin.lt x hx
    omega
  have hpl : (L.map fun x : Nat => (x : Int)).length = l.length := by rw [List.length_map, hL.len]
  have hat : ∀ i, i < l.length → (L.map fun x : Nat => (x : Int))[i]? = some ((nth L i : Nat) : Int) := fun i hi => by
    rw [List.getElem?_map, nth_at (by rw [hL.len]; exact hi)]; rfl
  have hnd : ∀ j, j < (L.map fun x : Nat => (x : Int)).length → ¬ dupP (L.map fun x : Nat => (x : Int)) j := fun j hj => by
    rintro ⟨x, hx, q⟩
    rw [hpl] at hj
    rw [hat j hj] at hx
    have hx2 := Option.some.inj hx
    subst hx2
    rw [Int.toNat_natCast, fOf_iff, ← List.map_take, List.mem_map] at q
    obtain ⟨y, y1, y2⟩ := q
    have : y = nth L j := by omega
    subst this
    have := (hL.take (by omega) hj).mp y1
    omega
  have hd : (lst (fOf (L.map fun x : Nat => (x : Int))) 256).length = l.length := by
    have h1 := (dist_end (n := l.length) (by omega) hlen hin).mpr fun j => by
      by_cases c : j < (L.map fun x : Nat => (x : Int)).length
      · exact hnd j c
      · rintro ⟨x, hx, _⟩
        exact c (List.getElem?_eq_some_iff.mp hx).1
    rw [h1, hpl]
  refine ⟨hin, hd, (keep_same (by omega) hlen hin hB (edges_mem hrt hB) hpl hd).mpr ?_⟩
  refine ⟨fun k hk => ?_, fun i j hi hj hij hb => ?_⟩
  · have h1 := (bad_iff hin k).mp hk
    have hkl : k < (L.map fun x : Nat => (x : Int)).length := by
      obtain ⟨x, hx, _⟩ := h1
      exact (List.getElem?_eq_some_iff.mp hx).1
    exact hnd k hkl h1
  · obtain ⟨a, ha, rfl⟩ := hL.all hi
    obtain ⟨b, hb2, rfl⟩ := hL.all hj
    have hab := hL.up hB ha hb2 ((hB _ _).mp hb)
    rw [hpl, atM_nth hL _ (Nat.le_refl _) a ha, atM_nth hL _ (Nat.le_refl _) b hb2]
    omega
section
variable (l : List Ev) (la : Option Addr) (lc : Nat) (w : World) (hl : Rows w 26 la lc (l.map Ev.cells)) (hwf : ∀ x ∈ l, x.wf) (hlen : l.length ≤ 256) (hrt : ∀ x ∈ l, rightP x) {B : Nat → Nat → Bool} (hB : Tells (dpf l) B)
include hl hlen hrt hB
theorem linear_way {L : List Nat} (hL : Ways B l.length L) (va : Option Addr) (vc : Nat) (hr : Rows w 1 va vc ((L.map fun x : Nat => (x : Int)).map chCells)) :
    Calls Try.prog 31 #[.slice la l.length lc, .slice va l.length vc] w fun e w' => e = .returned (.tuple #[.bool true, .int .i64 0]) ∧ Below w.heap.size w w' := by
  obtain ⟨h1, h2, h3⟩ := lin_true hlen hrt hB hL
  have hpl : (L.map fun x : Nat => (x : Int)).length = l.length := by rw [List.length_map, hL.len]
  have := linear_ok l la lc (L.map fun x : Nat => (x : Int)) va vc w hl hr hlen hrt (by omega) h1 hpl h2 true (show true = _ from h3.symm)
  rw [hpl] at this
  exact this
theorem apply_way {L : List Nat} (hL : Ways B l.length L) (va : Option Addr) (vc : Nat) (hr : Rows w 1 va vc ((L.map fun x : Nat => (x : Int)).map chCells)) :
    Calls Try.prog 27 #[.slice la l.length lc, .slice va l.length vc] w fun e w' => ∃ ua uc, e = .returned (.tuple #[.slice ua l.length uc, .int .i64 0]) ∧ Hid (Rows w' 26 ua uc ((laidE l L).map Ev.cells) ∧ Below w.heap.size w w') := by
  obtain ⟨h1, h2, h3⟩ := lin_true hlen hrt hB hL
  have hpl : (L.map fun x : Nat => (x : Int)).length = l.length := by rw [List.length_map, hL.len]
  have := apply_ok l la lc (L.map fun x : Nat => (x : Int)) va vc w hl hr (chk0 hlen hrt) hlen true (fun wx hb => keeps_ok _ _ _ wx (linear_ok l la lc (L.map fun x : Nat => (x : Int)) va vc wx (hl.later hb) (hr.later hb) hlen hrt (by omega) h1 hpl h2 true (show true = _ from h3.symm))) fun _ => ⟨hpl, h1⟩
  simp only [if_true] at this
  rw [hpl, arr_laid, laid_len, hL.len] at this
  exact this
theorem form_way : Calls Try.prog 19 #[.slice la l.length lc] w fun e w' => ∃ (L : List Nat) (va : Option Addr), e = .returned (.tuple #[.slice va l.length l.length, .int .i64 0]) ∧ Hid (OrdL B (gof l) l.length L ∧ L.length = l.length ∧ Rows w' 1 va l.length ((L.map fun x : Nat => (x : Int)).map chCells) ∧ Below w.heap.size w w') :=
  (form_ok l la lc w hl hlen hrt hB).mono fun e w' ⟨L, A, he, h1, h2, _, h4, h5⟩ => ⟨L, some ⟨A, 0, none⟩, he, ⟨h1, h2, rows_fm h4 h2 hlen, h5⟩⟩
include hwf
set_option maxHeartbeats 2000000 in
theorem once_in : Calls Try.prog 7 #[.slice la l.length lc] w fun e w' => e = .returned (.bool true) ∧ Below w.heap.size w w' := by
  have c1 := form_way l la lc w hl hlen hrt hB
  have c2 : ∀ wx (L : List Nat) (va : Option Addr), Below w.heap.size w wx → Ways B l.length L → Rows wx 1 va l.length ((L.map fun x : Nat => (x : Int)).map chCells) → Calls Try.prog 31 #[.slice la l.length lc, .slice va l.length l.length] wx _ := fun wx L va hb hL hr => linear_way l la lc wx (hl.later hb) hlen hrt hB hL va l.length hr
  have c3 : ∀ wx (L : List Nat) (va : Option Addr), Below w.heap.size w wx → Ways B l.length L → Rows wx 1 va l.length ((L.map fun x : Nat => (x : Int)).map chCells) → Calls Try.prog 27 #[.slice la l.length lc, .slice va l.length l.length] wx _ := fun wx L va hb hL hr => apply_way l la lc wx (hl.later hb) hlen hrt hB hL va l.length hr
  have c4 : ∀ wx (L : List Nat) (ua : Option Addr) (uc : Nat), OrdL B (gof l) l.length L → L.length = l.length → Rows wx 26 ua uc ((laidE l L).map Ev.cells) → Calls Try.prog 19 #[.slice ua l.length uc] wx fun e w' => ∃ (M : List Nat) (va : Option Addr), e = .returned (.tuple #[.slice va l.length l.length, .int .i64 0]) ∧ Hid ((∀ i, i < l.length → (M.map fun x : Nat => (x : Int))[i]? = some (i : Int)) ∧ Rows w' 1 va l.length ((M.map fun x : Nat => (x : Int)).map chCells) ∧ (M.map fun x : Nat => (x : Int)).length = l.length ∧ Below wx.heap.size wx w') := fun wx L ua uc h1 h2 hr => by
    obtain ⟨B', hB'⟩ := tells_some (dpf (laidE l L))
    have hul : (laidE l L).length = l.length := by rw [laid_len, h2]
    have := form_way (laidE l L) ua uc wx hr (by omega) (laid_all hrt h1.lin.lt) hB'
    rw [hul] at this
    refine this.mono fun e w' ⟨M, va, he, hq⟩ => ⟨M, va, he, ⟨fun i hi => ?_, hq.out.2.2.1, by rw [List.length_map, hq.out.2.1], hq.out.2.2.2⟩⟩
    rw [List.getElem?_map, nth_at (by rw [hq.out.2.1]; exact hi), once_laid hrt hB h1 h2 hB' hq.out.1 hq.out.2.1 i hi]
    rfl
  have c5 : ∀ wx (L : List Nat) (ua : Option Addr) (uc : Nat), Below w.heap.size w wx → OrdL B (gof l) l.length L → L.length = l.length → Rows wx 26 ua uc ((laidE l L).map Ev.cells) → Calls Try.prog 32 #[.slice la l.length lc, .slice ua l.length uc] wx fun e w' => e = .returned (.tuple #[.bool true, .int .i64 0]) ∧ Below wx.heap.size wx w' := fun wx L ua uc hb h1 h2 hr => by
    obtain ⟨B', hB'⟩ := tells_some (dpf (laidE l L))
    have hul : (laidE l L).length = l.length := by rw [laid_len, h2]
    have := same_ok l (laidE l L) la ua lc uc wx (hl.later hb) hr hwf (laid_all hwf h1.lin.lt) hlen hrt (by omega) (laid_all hrt h1.lin.lt) hB hB' true (fun L' M' k1 k2 k3 k4 => by
      rw [hul] at k3 k4
      have e1 := form_one k1 h1 k2 h2
      have e2 := canon_laid hrt hB (ord_ways h1 h2) h1 h2 hB' k3 k4
      rw [e1, e2]
      simp)
    rw [hul] at this
    exact this
  have hlI : (l.length : Int) ≤ 256 := by omega
  clear hl hrt hB hwf
  go_enter Try.func7, Try.ntmps7
  go_upto_region 4 with (go_at_call 19; (with_reducible refine c1.mono ?_); rintro e w1 ⟨L, va, rfl, hq⟩; (have hw1 : Hid (Below w.heap.size w w1 ∧ Ways B l.length L ∧ OrdL B (gof l) l.length L ∧ L.length = l.length) := ⟨hq.out.2.2.2, ord_ways hq.out.1 hq.out.2.1, hq.out.1, hq.out.2.1⟩); clear c1)
  go_wp2_with (first
    | (go_at_call 31; (refine (c2 _ L va hw1.out.1 hw1.out.2.1 hq.out.2.2.1).mono ?_); rintro e w2 ⟨rfl, hb2⟩; (have hr2 : Hid (Below w.heap.size w w2 ∧ Rows w2 1 va l.length ((L.map fun x : Nat => (x : Int)).map chCells)) := ⟨bthen hw1.out.1 hb2, hq.out.2.2.1.later hb2⟩); clear hb2 c2)
    | (go_at_call 27; (refine (c3 _ L va hr2.out.1 hw1.out.2.1 hr2.out.2).mono ?_); rintro e w3 ⟨ua, uc, rfl, hu⟩; (have hr3 : Hid (Below w.heap.size w w3 ∧ Rows w3 26 ua uc ((laidE l L).map Ev.cells)) := ⟨bthen hr2.out.1 hu.out.2, hu.out.1⟩); clear c3 hu)
    | (go_at_call 19; (refine (c4 _ L ua uc hw1.out.2.2.1 hw1.out.2.2.2 hr3.out.2).mono ?_); rintro e w4 ⟨M, ma, rfl, hm⟩; (have hr4 : Hid (Below w.heap.size w w4 ∧ Rows w4 26 ua uc ((laidE l L).map Ev.cells)) := ⟨bthen hr3.out.1 hm.out.2.2.2, hr3.out.2.later hm.out.2.2.2⟩); clear c4))
  generalize (M.map fun x : Nat => (x : Int)) = ms at hm
  go_loopw [67] (fun u wr => ∃ k : Nat, k ≤ l.length ∧ u = .int .i64 k ∧ wr = w4) (fun u _ => l.length - (intOf u).toNat)
  case atStart => exact ⟨0, Nat.zero_le _, rfl, rfl⟩
  case round =>
    obtain ⟨k, hk, rfl, rfl⟩ := hrel
    by_cases hlt : k < l.length
    · have hkI : (k : Int) < l.length := by omega
      obtain ⟨b1, o1, x1, l1, ci⟩ := ch_ixK hm.out.2.1 k (k : Int) (hm.out.1 k hlt)
      rw [hm.out.2.2.1] at x1
      have dk : ((k : Int) != (k : Int)) = false := by simp
      go_wp2_with fail
      go_roundw
      case rel => exact ⟨k + 1, by omega, by go_num, trivial⟩
      case measure => simp [intOf]; omega
    · have hke : k = l.length := by omega
      subst hke
      go_wp2_with (go_at_call 32; (refine (c5 _ L ua uc hr4.out.1 hw1.out.2.2.1 hw1.out.2.2.2 hr4.out.2).mono ?_); rintro e w5 ⟨rfl, hb5⟩; (have hB5 : Hid (Below w.heap.size w w5) := bthen hr4.out.1 hb5); clear hb5)
      go_ret
      exact ⟨rfl, hB5.out⟩
end
theorem once_any (l : List Ev) (la : Option Addr) (lc : Nat) (w : World) (hl : EvsIn w la lc l) : Calls Try.prog 7 #[.slice la l.length lc] w fun e w' => e = .returned (.bool true) ∧ Below w.heap.size w w' := by
  obtain ⟨c, hc⟩ := check_ex l
  by_cases h0 : c = 2 ∨ c = 7
  · exact once_bad l la lc w hl.1 c hc h0
  · have hz : l.length ≤ 256 ∧ (∀ x ∈ l, rightP x) ∧ c = 0 := by
      rcases hc with ⟨_, q⟩ | ⟨_, _, q⟩ | q
      · exact absurd (.inl q) h0
      · exact absurd (.inr q) h0
      · exact q
    obtain ⟨B, hB⟩ := tells_some (dpf l)
    exact once_in l la lc w hl.1 hl.2 hz.1 hz.2.1 hB
end Go.Proofs.Ytkadlopcomjonaa.pg

