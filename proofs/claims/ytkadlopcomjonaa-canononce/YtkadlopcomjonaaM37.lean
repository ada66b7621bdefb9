/- Orders that keep what happens before what: CanonApplies, walked. -/
import Derived.Test.YtkadlopcomjonaaM33
import Derived.Test.YtkadlopcomjonaaM36
import Derived.Test.YtkadlopcomjonaaM26
import Derived.Test.YtkadlopcomjonaaM34
namespace Go.Proofs.Ytkadlopcomjonaa.pg
open Go.ChangeShapes Go.WideShapes Go.ChangeAt Go.RowKit Go.Shelf
set_option linter.unusedVariables false
set_option linter.unusedSimpArgs false
set_option maxRecDepth 100000
theorem atS_nn (n : Nat) (ps : List Int) : ∀ k a, 0 ≤ (atS n ps k).getD a 0
  | 0, a => by
    show 0 ≤ (List.replicate n (0 : Int)).getD a 0
    rw [List.getD_eq_getElem?_getD, List.getElem?_replicate]
    split <;> simp
  | k + 1, a => by
    have ih := atS_nn n ps k a
    show 0 ≤ ((atS n ps k).set (ps.getD k 0).toNat (k : Int)).getD a 0
    rw [List.getD_eq_getElem?_getD, List.getElem?_set]
    split
    · split
      · simp
      · simp
    · rw [← List.getD_eq_getElem?_getD]; exact ih
theorem atM_is {n : Nat} {ps : List Int} (hin : ∀ p ∈ ps, 0 ≤ p ∧ p < (n : Int)) : ∀ k, k ≤ ps.length → ∀ a, a < n → (atM n ps k).getD a 0 = if fOf (ps.take k) a = true then (atS n ps k).getD a 0 else -1
  | 0, _, a, ha => by
    have : fOf (ps.take 0) a = false := by simp [fOf]
    rw [this]
    show (List.replicate n (-1 : Int)).getD a 0 = _
    simp [List.getD_eq_getElem?_getD, List.getElem?_replicate, ha]
  | k + 1, hk, a, ha => by
    obtain ⟨x, hx, hxm⟩ := get_lt ps k (by omega)
    obtain ⟨b, rfl⟩ := Int.eq_ofNat_of_zero_le (hin x hxm).1
    have hb : b < n := by have := (hin _ hxm).2; omega
    have ih := atM_is hin k (by omega) a ha
    rw [← atM_more hx, ← atS_more hx, List.getD_eq_getElem?_getD, List.getD_eq_getElem?_getD, List.getElem?_set, List.getElem?_set]
    have hf : fOf (ps.take (k + 1)) a = true ↔ a = b ∨ fOf (ps.take k) a = true := by
      rw [fOf_iff, fOf_iff, List.take_add_one, hx]
      simp only [Option.toList_some, List.mem_append, List.mem_singleton]
      constructor
      · rintro (h | h)
        · exact .inr h
        · exact .inl (by omega)
      · rintro (h | h)
        · exact .inr (by omega)
        · exact .inl h
    by_cases e : b = a
    · subst e
      have q1 : b < (atM n ps k).length := by rw [atM_len]; exact hb
      have q2 : b < (atS n ps k).length := by rw [atS_len]; exact hb
      have q3 := hf.mpr (.inl rfl)
      simp only [q1, q2, q3, if_true]
    · rw [if_neg e, if_neg e, ← List.getD_eq_getElem?_getD, ← List.getD_eq_getElem?_getD, ih]
      have : fOf (ps.take (k + 1)) a = fOf (ps.take k) a := by
        rw [Bool.eq_iff_iff, hf]
        constructor
        · rintro (h | h)
          · exact absurd h.symm e
          · exact h
        · exact .inr
      rw [this]
theorem bad_iff {n : Nat} {ps : List Int} (hin : ∀ p ∈ ps, 0 ≤ p ∧ p < (n : Int)) (k : Nat) : badM n ps k ↔ dupP ps k := by
  constructor
  · rintro ⟨x, hx, q⟩
    have hm := hin x (List.mem_of_getElem? hx)
    have hk := (List.getElem?_eq_some_iff.mp hx).1
    rcases q with q | q | q
    · omega
    · omega
    · refine ⟨x, hx, ?_⟩
      rw [atM_is hin k (by omega) x.toNat (by omega)] at q
      split at q
      · assumption
      · omega
  · rintro ⟨x, hx, q⟩
    have hm := hin x (List.mem_of_getElem? hx)
    have hk := (List.getElem?_eq_some_iff.mp hx).1
    refine ⟨x, hx, .inr (.inr ?_)⟩
    rw [atM_is hin k (by omega) x.toNat (by omega), if_pos q]
    exact atS_nn _ _ _ _
section
variable {ps : List Int} {n : Nat} (hps : ps.length ≤ 256) (hn : n ≤ 256) (hin : ∀ p ∈ ps, 0 ≤ p ∧ p < (n : Int))
include hps hn hin
theorem keep_not {B : Nat → Nat → Bool} (h1 : ps.length = n) (h2 : (lst (fOf ps) 256).length ≠ n) : ¬ keepM n B ps := fun h => by
  apply h2
  rw [← h1]
  exact (dist_end hps hn hin).mpr fun j hj => h.1 j ((bad_iff hin j).mpr hj)
theorem keep_same {d B : Nat → Nat → Bool} (hB : Tells d B) {E : List (Nat × Nat)} (hE : ∀ p, p ∈ E ↔ p.1 < p.2 ∧ p.2 < n ∧ edgeB d B p.1 p.2 = true) (h1 : ps.length = n) (h2 : (lst (fOf ps) 256).length = n) : linB E (atS n ps ps.length) = true ↔ keepM n B ps := by
  have hd := (dist_end hps hn hin).mp (by rw [h1]; exact h2)
  have hat : ∀ a, a < n → (atM n ps ps.length).getD a 0 = (atS n ps ps.length).getD a 0 := fun a ha => by
    rw [atM_is hin ps.length (Nat.le_refl _) a ha, List.take_length, if_pos]
    obtain ⟨j, hj, e⟩ := at_all hps hn hin h2 ha
    exact (fOf_iff ps a).mpr (List.mem_of_getElem? e)
  unfold keepM
  generalize atS n ps ps.length = s at *
  unfold linB
  rw [List.all_eq_true]
  have hok : ∀ p, linOk s p = true ↔ ¬ s.getD p.2 0 < s.getD p.1 0 := fun p => by unfold linOk; rw [Bool.not_eq_true', decide_eq_false_iff_not]
  constructor
  · intro h
    have key : ∀ g a b, b - a ≤ g → b < n → HB d a b → s.getD a 0 ≤ s.getD b 0 := by
      intro g
      induction g with
      | zero => intro a b hg _ hh; have := hh.lt; omega
      | succ g ih =>
        intro a b hg hb hh
        obtain ⟨m, m1, m2⟩ := edge_first hB hh
        have hlt := ((edgeB_iff d B a m).mp m1).1
        have hmb : m ≤ b := by
          rcases m2 with rfl | m2
          · exact Nat.le_refl _
          · have := m2.lt; omega
        have h3 := (hok (a, m)).mp (h (a, m) ((hE (a, m)).mpr ⟨hlt, by show m < n; omega, m1⟩))
        simp only at h3
        rcases m2 with rfl | m2
        · omega
        · have := ih m b (by omega) hb m2
          omega
    refine ⟨fun k q => hd k ((bad_iff hin k).mp q), fun i j hi hj _ hb => ?_⟩
    rw [hat i hi, hat j hj]
    exact key (j - i) i j (Nat.le_refl _) hj ((hB i j).mp hb)
  · rintro ⟨_, h⟩ ⟨a, b⟩ hp
    obtain ⟨e1, e2, e3⟩ := (hE (a, b)).mp hp
    simp only at e1 e2 e3
    rw [hok]
    simp only
    have := h a b (by omega) e2 e1 ((hB a b).mpr (edgeB_hb hB e3))
    rw [hat a (by omega), hat b e2] at this
    omega
end
set_option maxHeartbeats 1000000 in
theorem keeps_no (x y : Value) (c : Int) (w : World) (c1 : Calls Try.prog 31 #[x, y] w fun e w' => e = .returned (.tuple #[.bool false, .int .i64 c]) ∧ Below w.heap.size w w') :
    Calls Try.prog 52 #[x, y] w fun e w' => e = .returned (.bool false) ∧ Below w.heap.size w w' := by
  go_enter Try.func52, Try.ntmps52
  go_wp2_with (go_at_call 31; (refine c1.mono ?_); rintro e w1 ⟨rfl, hb1⟩; (have hB : Hid (Below w.heap.size w w1) := hb1); clear hb1 c1)
  go_ret
  exact ⟨rfl, hB.out⟩
set_option maxHeartbeats 1000000 in
theorem keeps_ok (x y : Value) (r : Bool) (w : World) (c1 : Calls Try.prog 31 #[x, y] w fun e w' => e = .returned (.tuple #[.bool r, .int .i64 0]) ∧ Below w.heap.size w w') :
    Calls Try.prog 52 #[x, y] w fun e w' => e = .returned (.bool r) ∧ Below w.heap.size w w' := by
  cases r
  · exact keeps_no x y 0 w c1
  · go_enter Try.func52, Try.ntmps52
    go_wp2_with (go_at_call 31; (refine c1.mono ?_); rintro e w1 ⟨rfl, hb1⟩; (have hB : Hid (Below w.heap.size w w1) := hb1); clear hb1 c1)
    go_ret
    exact ⟨rfl, hB.out⟩
/-- Whether a list of places is an order that keeps what happens before what: the package's answer and the document's. -/
theorem keeps_both (l : List Ev) (la : Option Addr) (lc : Nat) (ps : List Int) (pa : Option Addr) (pc : Nat) (w : World) (hl : Rows w 26 la lc (l.map Ev.cells)) (hp : Rows w 1 pa pc (ps.map chCells)) (hc : checkP l 0) (hlen : l.length ≤ 256) (hrt : ∀ x ∈ l, rightP x) :
    ∃ R, (R = true → ps.length = l.length ∧ ∀ p ∈ ps, 0 ≤ p ∧ p < (l.length : Int)) ∧ (∀ wx, Below w.heap.size w wx → Calls Try.prog 52 #[.slice la l.length lc, .slice pa ps.length pc] wx fun e w' => e = .returned (.bool R) ∧ Below wx.heap.size wx w') ∧
      ∀ wx, Below w.heap.size w wx → Calls Try.prog 54 #[.slice la l.length lc, .slice pa ps.length pc] wx fun e w' => e = .returned (.bool R) ∧ Below wx.heap.size wx w' := by
  obtain ⟨B, hB⟩ := tells_some (dpf l)
  have hlI := rows_len hl
  have hpI := rows_len hp
  rcases look_ex (l := l) ps with ⟨_, hps, hin⟩ | ⟨c, hk⟩
  · by_cases h1 : ps.length = l.length
    · by_cases h2 : (lst (fOf ps) 256).length = l.length
      · exact ⟨linB (rel (evf l) l.length).2 (atS l.length ps ps.length), fun _ => ⟨h1, hin⟩, fun wx hb => keeps_ok _ _ _ wx (linear_ok l la lc ps pa pc wx (hl.later hb) (hp.later hb) hlen hrt hps hin h1 h2 _ (rfl : _ = _)), fun wx hb => rkeeps_any l la lc ps pa pc wx (hl.later hb) (hp.later hb) hlen h1 B hB _ (keep_same hps hlen hin hB (edges_mem hrt hB) h1 h2)⟩
      · exact ⟨false, (fun q => by cases q), fun wx hb => keeps_no _ _ _ wx (linear_bad l la lc ps pa pc wx (hl.later hb) (hp.later hb) hlen hrt hps hin (.inr h2)), fun wx hb => rkeeps_any l la lc ps pa pc wx (hl.later hb) (hp.later hb) hlen h1 B hB _ (show false = true ↔ _ from ⟨(fun q => by cases q), fun q => absurd q (keep_not hps hlen hin h1 h2)⟩)⟩
    · exact ⟨false, (fun q => by cases q), fun wx hb => keeps_no _ _ _ wx (linear_bad l la lc ps pa pc wx (hl.later hb) (hp.later hb) hlen hrt hps hin (.inl h1)), fun wx hb => rkeeps_len l la lc ps pa pc wx (by omega) (by omega) h1⟩
  · refine ⟨false, (fun q => by cases q), fun wx hb => keeps_no _ _ c wx (linear_err l la lc ps pa pc wx (hl.later hb) (hp.later hb) c hk), fun wx hb => ?_⟩
    by_cases h1 : ps.length = l.length
    · refine rkeeps_any l la lc ps pa pc wx (hl.later hb) (hp.later hb) hlen h1 B hB _ (show false = true ↔ _ from ⟨(fun q => by cases q), fun q => ?_⟩)
      exfalso
      rcases hk with ⟨k1, k2⟩ | ⟨_, ⟨k1, _⟩ | ⟨_, ⟨p, hpm, k2⟩, _⟩⟩
      · rcases k1 with ⟨k, _⟩ | ⟨_, ⟨x, hx, k⟩, _⟩ | ⟨_, _, k⟩
        · omega
        · exact k (hrt x hx)
        · omega
      · omega
      · obtain ⟨j, hj, e⟩ := List.mem_iff_getElem.mp hpm
        refine q.1 j ⟨p, by rw [List.getElem?_eq_getElem hj, e], ?_⟩
        by_cases h0 : p < 0
        · exact .inl h0
        · exact .inr (.inl (by omega))
    · exact rkeeps_len l la lc ps pa pc wx (by omega) (by omega) h1
end Go.Proofs.Ytkadlopcomjonaa.pg
/- Events in another order: CanonApplies, walked. -/
namespace Go.Proofs.Ytkadlopcomjonaa.pg
open Go.ChangeShapes Go.WideShapes Go.ChangeAt Go.RowKit Go.Shelf
set_option linter.unusedVariables false
set_option linter.unusedSimpArgs false
set_option maxRecDepth 100000
abbrev IntsIn (w : World) (a : Option Addr) (cap : Nat) (l : List Int) : Prop := Rows w 1 a cap (l.map chCells)
section
variable {H : Type} {enc : TypeId × Value → H} {w : World} {base : Nat} {spare : Nat → Bool} {held : Bool}
theorem ints_sz {n : Nat} {a : Option Addr} {len cap : Nat} {y : DataW H × List MemPlace} (h : DataW.trod enc Try.prog w base spare held n 39 [.slice a len cap] = some y) (hs : Sz Try.prog 39 y.1) : ∃ l : List Int, l.length = len ∧ IntsIn w a cap l := by
  obtain ⟨l, rfl, h1, h2, h3⟩ := rows_sz (k := 1) 0 chCells I64 Try.underlying39 (by kernel_rfl) (by omega) (fun n cs y hl h _ => by
    match cs, hl, h with
    | [c0], _, h =>
      obtain ⟨z, rfl, b⟩ := int_in Try.underlying3 h
      exact ⟨z, rfl, b⟩) h hs
  exact ⟨l, rfl, h1⟩
end
theorem rows_nil26 (w : World) : Rows w 26 none 0 (([] : List Ev).map Ev.cells) := own_rows (own_nil_q w 0 0 26) (by simp)
set_option maxHeartbeats 1000000 in
theorem apply_err (l : List Ev) (la : Option Addr) (lc : Nat) (y : Value) (w : World) (hl : Rows w 26 la lc (l.map Ev.cells)) (c : Int) (hc : checkP l c) (h0 : c = 2 ∨ c = 7) :
    Calls Try.prog 27 #[.slice la l.length lc, y] w fun e w' => e = .returned (.tuple #[.slice none 0 0, .int .i64 c]) ∧ Below w.heap.size w w' := by
  have c1 := check_any l la lc w hl c hc
  have d : (c != 0) = true := by rcases h0 with rfl | rfl <;> rfl
  clear hl hc h0
  go_enter Try.func27, Try.ntmps27
  go_wp2_with (go_at_call 10; (with_reducible refine c1.mono ?_); rintro e w1 ⟨rfl, hb1⟩; (have hbH : Hid (Below w.heap.size w w1) := hb1); clear hb1)
  go_ret2
  exact ⟨rfl, hbH.out⟩
set_option maxHeartbeats 1000000 in
theorem rapply_err (l : List Ev) (la : Option Addr) (lc : Nat) (y : Value) (w : World) (hl : Rows w 26 la lc (l.map Ev.cells)) (c : Int) (hc : checkP l c) (h0 : c = 2 ∨ c = 7) :
    Calls Try.prog 28 #[.slice la l.length lc, y] w fun e w' => e = .returned (.tuple #[.slice none 0 0, .int .i64 c]) ∧ Below w.heap.size w w' := by
  have c1 := rcheck_any l la lc w hl c hc
  have d : (c != 0) = true := by rcases h0 with rfl | rfl <;> rfl
  clear hl hc h0
  go_enter Try.func28, Try.ntmps28
  go_wp2_with (go_at_call 13; (with_reducible refine c1.mono ?_); rintro e w1 ⟨rfl, hb1⟩; (have hbH : Hid (Below w.heap.size w w1) := hb1); clear hb1)
  go_ret2
  exact ⟨rfl, hbH.out⟩
section
variable (l : List Ev) (la : Option Addr) (lc : Nat) (ps : List Int) (pa : Option Addr) (pc : Nat) (w : World) (hl : Rows w 26 la lc (l.map Ev.cells)) (hp : Rows w 1 pa pc (ps.map chCells)) (hc : checkP l 0) (hlen : l.length ≤ 256) (R : Bool)
include hl hp hc hlen
set_option maxHeartbeats 1000000 in
theorem apply_ok (cK : ∀ wx, Below w.heap.size w wx → Calls Try.prog 52 #[.slice la l.length lc, .slice pa ps.length pc] wx fun e w' => e = .returned (.bool R) ∧ Below wx.heap.size wx w') (hR : R = true → ps.length = l.length ∧ ∀ p ∈ ps, 0 ≤ p ∧ p < (l.length : Int)) :
    Calls Try.prog 27 #[.slice la l.length lc, .slice pa ps.length pc] w fun e w' => ∃ va vc, e = .returned (.tuple #[.slice va (if R then arrE l ps else []).length vc, .int .i64 (if R then 0 else 1)]) ∧ Hid (Rows w' 26 va vc ((if R then arrE l ps else []).map Ev.cells) ∧ Below w.heap.size w w') := by
  have c1 := check_any l la lc w hl 0 hc
  cases R with
  | false =>
    go_enter Try.func27, Try.ntmps27
    go_wp2_with (first
      | (go_at_call 10; (with_reducible refine c1.mono ?_); rintro e w1 ⟨rfl, hb1⟩; (have hbH : Hid (Below w.heap.size w w1) := hb1); clear hb1)
      | (go_at_call 52; (with_reducible refine (cK _ hbH.out).mono ?_); rintro e w2 ⟨rfl, hb2⟩; (have hbH : Hid (Below w.heap.size w w2) := bthen hbH.out hb2); clear hb2))
    go_ret2
    exact ⟨none, 0, rfl, rows_nil26 _, hbH.out⟩
  | true =>
    obtain ⟨h1, hin⟩ := hR rfl
    have cA : ∀ wx, Below w.heap.size w wx → Calls Try.prog 53 #[.slice la l.length lc, .slice pa ps.length pc] wx _ := fun wx hb => arranged_any l la lc ps pa pc wx (hl.later hb) (hp.later hb) (by omega) hin
    have hen : Hid ((arrE l ps).length = ps.length) := by show _ = _; simp [arrE]
    clear hR hin hl hp h1
    go_enter Try.func27, Try.ntmps27
    go_wp2_with (first
      | (go_at_call 10; (with_reducible refine c1.mono ?_); rintro e w1 ⟨rfl, hb1⟩; (have hbH : Hid (Below w.heap.size w w1) := hb1); clear hb1)
      | (go_at_call 52; (with_reducible refine (cK _ hbH.out).mono ?_); rintro e w2 ⟨rfl, hb2⟩; (have hbH : Hid (Below w.heap.size w w2) := bthen hbH.out hb2); clear hb2)
      | (go_at_call 53; (refine (cA _ hbH.out).mono ?_); rintro e w3 ⟨A, rfl, hq⟩; (have hbH : Hid (Below w.heap.size w w3) := bthen hbH.out hq.out.2.2)))
    go_ret2
    refine ⟨some ⟨A, 0, none⟩, ps.length, ?_, hq.out.2.1, hbH.out⟩
    show _ = Ending.returned (.tuple #[.slice (some ⟨A, 0, none⟩) (arrE l ps).length ps.length, .int .i64 0])
    rw [hen.out]
    rfl
set_option maxHeartbeats 1000000 in
theorem rapply_ok (cK : ∀ wx, Below w.heap.size w wx → Calls Try.prog 54 #[.slice la l.length lc, .slice pa ps.length pc] wx fun e w' => e = .returned (.bool R) ∧ Below wx.heap.size wx w') (hR : R = true → ps.length = l.length ∧ ∀ p ∈ ps, 0 ≤ p ∧ p < (l.length : Int)) :
    Calls Try.prog 28 #[.slice la l.length lc, .slice pa ps.length pc] w fun e w' => ∃ va vc, e = .returned (.tuple #[.slice va (if R then arrE l ps else []).length vc, .int .i64 (if R then 0 else 1)]) ∧ Hid (Rows w' 26 va vc ((if R then arrE l ps else []).map Ev.cells) ∧ Below w.heap.size w w') := by
  have c1 := rcheck_any l la lc w hl 0 hc
  cases R with
  | false =>
    go_enter Try.func28, Try.ntmps28
    go_wp2_with (first
      | (go_at_call 13; (with_reducible refine c1.mono ?_); rintro e w1 ⟨rfl, hb1⟩; (have hbH : Hid (Below w.heap.size w w1) := hb1); clear hb1)
      | (go_at_call 54; (with_reducible refine (cK _ hbH.out).mono ?_); rintro e w2 ⟨rfl, hb2⟩; (have hbH : Hid (Below w.heap.size w w2) := bthen hbH.out hb2); clear hb2))
    go_ret2
    exact ⟨none, 0, rfl, rows_nil26 _, hbH.out⟩
  | true =>
    obtain ⟨h1, hin⟩ := hR rfl
    have cA : ∀ wx, Below w.heap.size w wx → Calls Try.prog 55 #[.slice la l.length lc, .slice pa ps.length pc] wx _ := fun wx hb => laid_any l la lc ps pa pc wx (hl.later hb) (hp.later hb) (by omega) hin
    have hen : Hid ((arrE l ps).length = ps.length) := by show _ = _; simp [arrE]
    clear hR hin hl hp h1
    go_enter Try.func28, Try.ntmps28
    go_wp2_with (first
      | (go_at_call 13; (with_reducible refine c1.mono ?_); rintro e w1 ⟨rfl, hb1⟩; (have hbH : Hid (Below w.heap.size w w1) := hb1); clear hb1)
      | (go_at_call 54; (with_reducible refine (cK _ hbH.out).mono ?_); rintro e w2 ⟨rfl, hb2⟩; (have hbH : Hid (Below w.heap.size w w2) := bthen hbH.out hb2); clear hb2)
      | (go_at_call 55; (refine (cA _ hbH.out).mono ?_); rintro e w3 ⟨va, vc, rfl, hq⟩; (have hbH : Hid (Below w.heap.size w w3) := bthen hbH.out hq.out.2)))
    go_ret2
    refine ⟨va, vc, ?_, hq.out.1, hbH.out⟩
    show _ = Ending.returned (.tuple #[.slice va (arrE l ps).length vc, .int .i64 0])
    rw [hen.out]
    rfl
end
set_option maxHeartbeats 1000000 in
theorem applies_told (x y : Value) (L : List Ev) (hwf : ∀ e ∈ L, e.wf) (c : Int) (w : World) (c1 : Calls Try.prog 27 #[x, y] w fun e w' => ∃ va vc, e = .returned (.tuple #[.slice va L.length vc, .int .i64 c]) ∧ Hid (Rows w' 26 va vc (L.map Ev.cells) ∧ Below w.heap.size w w'))
    (c2 : ∀ wx, Below w.heap.size w wx → Calls Try.prog 28 #[x, y] wx fun e w' => ∃ va vc, e = .returned (.tuple #[.slice va L.length vc, .int .i64 c]) ∧ Hid (Rows w' 26 va vc (L.map Ev.cells) ∧ Below wx.heap.size wx w')) :
    Calls Try.prog 5 #[x, y] w fun e w' => e = .returned (.bool true) ∧ Below w.heap.size w w' := by
  have cS : ∀ wx, Calls Try.prog 26 #[] wx fun e w' => e = .returned (.bool true) ∧ Below wx.heap.size wx w' := fun wx => small_any wx
  have cE : ∀ va vc ua uc wx, Rows wx 26 va vc (L.map Ev.cells) → Rows wx 26 ua uc (L.map Ev.cells) → Calls Try.prog 25 #[.slice va L.length vc, .slice ua L.length uc] wx fun e w' => e = .returned (.bool true) ∧ Below wx.heap.size wx w' := fun va vc ua uc wx h1 h2 => sameEvs_u L hwf va ua vc uc wx h1 h2
  clear hwf
  go_enter Try.func5, Try.ntmps5
  go_wp2_with (first
    | (go_at_call 27; (with_reducible refine c1.mono ?_); rintro e w1 ⟨va, vc, rfl, hb1⟩; clear c1)
    | (go_at_call 28; (with_reducible refine (c2 _ hb1.out.2).mono ?_); rintro e w2 ⟨ua, uc, rfl, hb2⟩; (have hB : Hid (Rows w2 26 va vc (L.map Ev.cells) ∧ Rows w2 26 ua uc (L.map Ev.cells) ∧ Below w.heap.size w w2) := ⟨hb1.out.1.later hb2.out.2, hb2.out.1, bthen hb1.out.2 hb2.out.2⟩); clear hb1 hb2 c2)
    | (go_at_call 25; (with_reducible refine (cE _ _ _ _ _ hB.out.1 hB.out.2.1).mono ?_); rintro e w3 ⟨rfl, hb3⟩; (have hB3 : Hid (Below w.heap.size w w3) := bthen hB.out.2.2 hb3); clear hb3 cE hB)
    | (go_at_call 26; (with_reducible refine (cS _).mono ?_); rintro e w4 ⟨rfl, hb4⟩; (have hB4 : Hid (Below w.heap.size w w4) := bthen hB3.out hb4); clear hb4 cS))
  go_ret
  exact ⟨rfl, hB4.out⟩
theorem applies_any (l : List Ev) (la : Option Addr) (lc : Nat) (ps : List Int) (pa : Option Addr) (pc : Nat) (w : World) (hl : EvsIn w la lc l) (hp : IntsIn w pa pc ps) : Calls Try.prog 5 #[.slice la l.length lc, .slice pa ps.length pc] w fun e w' => e = .returned (.bool true) ∧ Below w.heap.size w w' := by
  obtain ⟨c, hc⟩ := check_ex l
  by_cases h0 : c = 2 ∨ c = 7
  · exact applies_told _ _ [] (by simp) c w ((apply_err l la lc _ w hl.1 c hc h0).mono fun e w' ⟨he, hb⟩ => ⟨none, 0, he, rows_nil26 _, hb⟩) fun wx hb => (rapply_err l la lc _ wx (hl.1.later hb) c hc h0).mono fun e w' ⟨he, hb⟩ => ⟨none, 0, he, rows_nil26 _, hb⟩
  · have hz : l.length ≤ 256 ∧ (∀ x ∈ l, rightP x) ∧ c = 0 := by
      rcases hc with ⟨_, q⟩ | ⟨_, _, q⟩ | q
      · exact absurd (.inl q) h0
      · exact absurd (.inr q) h0
      · exact q
    obtain ⟨hlen, hrt, rfl⟩ := hz
    obtain ⟨R, hR, cP, cD⟩ := keeps_both l la lc ps pa pc w hl.1 hp hc hlen hrt
    refine applies_told _ _ (if R then arrE l ps else []) ?_ (if R then 0 else 1) w (apply_ok l la lc ps pa pc w hl.1 hp hc hlen R cP hR) fun wx hb => rapply_ok l la lc ps pa pc wx (hl.1.later hb) (hp.later hb) hc hlen R (fun wy hy => cD wy (bthen hb hy)) hR
    cases R with
    | false => simp
    | true =>
      intro e he
      have he : e ∈ arrE l ps := he
      unfold arrE at he
      rw [List.mem_map] at he
      obtain ⟨p, hpm, rfl⟩ := he
      have := (hR rfl).2 p hpm
      exact hl.2 _ (List.mem_of_getElem? (evf_at (show p.toNat < l.length by omega)))
end Go.Proofs.Ytkadlopcomjonaa.pg
/- Whether two traces are one: package canon's Same. -/
namespace Go.Proofs.Ytkadlopcomjonaa.pg
open Go.ChangeShapes Go.WideShapes Go.ChangeAt Go.RowKit Go.Shelf
set_option linter.unusedVariables false
set_option linter.unusedSimpArgs false
set_option maxRecDepth 100000
theorem guard_ne2 {x y : Ev} (hx : x.wf) (hy : y.wf) (R : Bool) (hR : R = true ↔ ¬ x = y) (p q : Operand) (w : World) : ((do
    eqGuard .neq 70 p q (.agg x.cells.toArray) (.agg y.cells.toArray)
    binOp .neq 70 (.agg x.cells.toArray) (.agg y.cells.toArray)) : Sem Value).run Try.prog w = .ok (.bool R) w := by
  have hm : Try.prog.eqGuardType Try.prog.depth 70 = false := by kernel_rfl
  simp only [Sem.run_bind, run_eqGuard_agg (P := Try.prog) w .neq 70 p q _ _ hm, Result.andThen_ok]
  exact ne_ev hx hy R hR w
theorem take_next {l m : List Ev} {k : Nat} {x : Ev} (h : l.take k = m.take k) (h1 : l[k]? = some x) (h2 : m[k]? = some x) : l.take (k + 1) = m.take (k + 1) := by
  rw [List.take_add_one, List.take_add_one, h, h1, h2]
set_option maxHeartbeats 1000000 in
theorem equal_in (l m : List Ev) (hwl : ∀ x ∈ l, x.wf) (hwm : ∀ x ∈ m, x.wf) (a b : Option Addr) (ca cb n : Nat) (w : World) (ha : Rows w 26 a ca (l.map Ev.cells)) (hb : Rows w 26 b cb (m.map Ev.cells)) (hln : Hid (l.length = n)) (hmn : Hid (m.length = n)) (R : Bool) (hR : Hid (R = true ↔ l = m)) :
    Calls Try.prog 63 #[.slice a n ca, .slice b n cb] w fun e w' => e = .returned (.bool R) ∧ Below w.heap.size w w' := by
  have hlI : (n : Int) ≤ 9223372036854775807 := by have := rows_len ha; rw [hln.out] at this; exact this
  have haH : Hid (Rows w 26 a ca (l.map Ev.cells)) := ha
  have hbHH : Hid (Rows w 26 b cb (m.map Ev.cells)) := hb
  clear ha hb
  go_enter Try.func63, Try.ntmps63
  go_wp2_with fail
  go_loopw [13] (fun u wr => ∃ k : Nat, k ≤ n ∧ u = .int .i64 k ∧ Hid (Below w.heap.size w wr ∧ l.take k = m.take k)) (fun u _ => n - (intOf u).toNat)
  case atStart => exact ⟨0, Nat.zero_le _, rfl, ⟨Below.refl _ _, by simp⟩⟩
  case round =>
    obtain ⟨k, hk, rfl, hbe⟩ := hrel
    by_cases hlt : k < n
    · have hkI : (k : Int) < n := by omega
      obtain ⟨x, hx, hxm⟩ := get_lt l k (by rw [hln.out]; exact hlt)
      obtain ⟨y, hy, hym⟩ := get_lt m k (by rw [hmn.out]; exact hlt)
      obtain ⟨b1, o1, x1, l1, r1⟩ := evs_ix (haH.out.later hbe.out.1) k x hx
      obtain ⟨b2, o2, x2, l2, r2⟩ := evs_ix (hbHH.out.later hbe.out.1) k y hy
      rw [hln.out] at x1
      rw [hmn.out] at x2
      have q1 : Hid (b1 < wr.heap.size ∧ wr.rangeAt b1 o1 x.cells) := ⟨l1, r1⟩
      have q2 : Hid (b2 < wr.heap.size ∧ wr.rangeAt b2 o2 y.cells) := ⟨l2, r2⟩
      have hbH : Hid (Below w.heap.size w wr) := hbe.out.1
      obtain ⟨N, hN⟩ : ∃ N : Bool, Hid (N = true ↔ ¬ x = y) := by
        by_cases e : x = y
        · exact ⟨false, ⟨fun q => (by cases q), fun q => absurd e q⟩⟩
        · exact ⟨true, ⟨fun _ => e, fun _ => rfl⟩⟩
      have hne := fun x1 x2 wx => guard_ne2 (hwl x hxm) (hwm y hym) N hN.out x1 x2 wx
      have hgo : Hid (N = false → l.take (k + 1) = m.take (k + 1)) := fun e => by
        have : x = y := by
          apply Classical.byContradiction
          intro q
          rw [hN.out.mpr q] at e; cases e
        rw [← this] at hy
        exact take_next hbe.out.2 hx hy
      have hst : Hid (N = true → R = false) := fun e => by
        rw [Bool.eq_false_iff]
        intro q
        have e2 := hR.out.mp q
        rw [e2] at hx
        rw [hx] at hy
        exact hN.out.mp e (Option.some.inj hy)
      clear hbe l1 r1 l2 r2 hx hy hxm hym hN
      go_wp2_with fail
      refine wp_region_noPanic ?_
      refine wp_region_held_drew (S := fun w' => Below wr.heap.size wr w') (by kernel_rfl) (bey_drew wr) (fun hS => ?_)
      refine reg_move (i := 0) rfl (by kernel_rfl) (by kernel_rfl) (by kernel_rfl) (fun _ _ _ _ h => h) rfl (.slice a n ca) (fun _ => by kernel_rfl) hS ?_
      simp only [Act.put, List.getElem_toArray, List.getElem_cons_succ, List.getElem_cons_zero, List.setIfInBounds_toArray, List.set_cons_zero, List.set_cons_succ]
      refine reg_move (i := 1) rfl (by kernel_rfl) (by kernel_rfl) (by kernel_rfl) (fun _ _ _ _ h => h) rfl (.int .i64 (k : Int)) (fun _ => by kernel_rfl) hS ?_
      simp only [Act.put, List.getElem_toArray, List.getElem_cons_succ, List.getElem_cons_zero, List.setIfInBounds_toArray, List.set_cons_zero, List.set_cons_succ]
      refine reg_move (i := 2) rfl (by kernel_rfl) (by kernel_rfl) (by kernel_rfl) (fun _ _ _ _ h => h) rfl (.pointer (some ⟨b1, o1, none⟩)) (fun wx => by unfold execOp; exact run_value_of (x1 wx)) hS ?_
      simp only [Act.put, List.getElem_toArray, List.getElem_cons_succ, List.getElem_cons_zero, List.setIfInBounds_toArray, List.set_cons_zero, List.set_cons_succ]
      refine reg_load (i := 3) rfl (by kernel_rfl) (by kernel_rfl) (by kernel_rfl) (fun _ _ _ _ h => h) rfl 70 _ rfl b1 o1 rfl x.cells _ (fun w' h' => range_later q1.out.2 q1.out.1 h') Try.underlying70 rfl infoE26 hS ?_
      simp only [Act.put, List.getElem_toArray, List.getElem_cons_succ, List.getElem_cons_zero, List.setIfInBounds_toArray, List.set_cons_zero, List.set_cons_succ]
      refine reg_move (i := 4) rfl (by kernel_rfl) (by kernel_rfl) (by kernel_rfl) (fun _ _ _ _ h => h) rfl (.slice b n cb) (fun _ => by kernel_rfl) hS ?_
      simp only [Act.put, List.getElem_toArray, List.getElem_cons_succ, List.getElem_cons_zero, List.setIfInBounds_toArray, List.set_cons_zero, List.set_cons_succ]
      refine reg_move (i := 5) rfl (by kernel_rfl) (by kernel_rfl) (by kernel_rfl) (fun _ _ _ _ h => h) rfl (.int .i64 (k : Int)) (fun _ => by kernel_rfl) hS ?_
      simp only [Act.put, List.getElem_toArray, List.getElem_cons_succ, List.getElem_cons_zero, List.setIfInBounds_toArray, List.set_cons_zero, List.set_cons_succ]
      refine reg_move (i := 6) rfl (by kernel_rfl) (by kernel_rfl) (by kernel_rfl) (fun _ _ _ _ h => h) rfl (.pointer (some ⟨b2, o2, none⟩)) (fun wx => by unfold execOp; exact run_value_of (x2 wx)) hS ?_
      simp only [Act.put, List.getElem_toArray, List.getElem_cons_succ, List.getElem_cons_zero, List.setIfInBounds_toArray, List.set_cons_zero, List.set_cons_succ]
      refine reg_load (i := 7) rfl (by kernel_rfl) (by kernel_rfl) (by kernel_rfl) (fun _ _ _ _ h => h) rfl 70 _ rfl b2 o2 rfl y.cells _ (fun w' h' => range_later q2.out.2 q2.out.1 h') Try.underlying70 rfl infoE26 hS ?_
      simp only [Act.put, List.getElem_toArray, List.getElem_cons_succ, List.getElem_cons_zero, List.setIfInBounds_toArray, List.set_cons_zero, List.set_cons_succ]
      refine reg_move (i := 8) rfl (by kernel_rfl) (by kernel_rfl) (by kernel_rfl) (fun _ _ _ _ h => h) rfl (.bool N) (fun wx => by unfold execOp; exact run_value_of (hne _ _ wx)) hS ?_
      simp only [Act.put, List.getElem_toArray, List.getElem_cons_succ, List.getElem_cons_zero, List.setIfInBounds_toArray, List.set_cons_zero, List.set_cons_succ]
      refine wpAnyH_done (by kernel_rfl) (NoPanic.normal ?_) _
      clear hS hne
      cases N with
      | false =>
        have hg2 := hgo.out rfl
        have hg3 : Hid (l.take (k + 1) = m.take (k + 1)) := hg2
        clear hg2 hgo hst
        go_wp2_with fail
        go_roundw
        case rel => exact ⟨k + 1, by omega, by go_num, ⟨bthen hbH.out (bey_drew wr), hg3.out⟩⟩
        case measure => simp [intOf]; omega
      | true =>
        have hr := hst.out rfl
        clear hgo hst
        go_wp2
        go_ret
        exact ⟨by rw [hr]; rfl, bthen hbH.out (bey_drew wr)⟩
    · have hk2 : k = n := by omega
      subst hk2
      have hr : R = true := hR.out.mpr (by
        have := hbe.out.2
        rwa [List.take_of_length_le (by rw [hln.out]; exact Nat.le_refl _), List.take_of_length_le (by rw [hmn.out]; exact Nat.le_refl _)] at this)
      have hbH : Hid (Below w.heap.size w wr) := hbe.out.1
      clear hbe
      go_wp2
      go_ret
      exact ⟨by rw [hr]; rfl, hbH.out⟩
set_option maxHeartbeats 1000000 in
theorem equal_out (a b : Option Addr) (ca cb n k : Nat) (w : World) (hn : (n : Int) ≤ 9223372036854775807) (hk : (k : Int) ≤ 9223372036854775807) (h : n ≠ k) :
    Calls Try.prog 63 #[.slice a n ca, .slice b k cb] w fun e w' => e = .returned (.bool false) ∧ Below w.heap.size w w' := by
  have d : ((n : Int) != (k : Int)) = true := by simp; omega
  have d2 : ¬ ((n : Int) = (k : Int)) := by omega
  go_enter Try.func63, Try.ntmps63
  go_wp2
  go_ret
  exact ⟨rfl, Below.refl _ _⟩
theorem equal_any (l m : List Ev) (hwl : ∀ x ∈ l, x.wf) (hwm : ∀ x ∈ m, x.wf) (a b : Option Addr) (ca cb : Nat) (w : World) (ha : Rows w 26 a ca (l.map Ev.cells)) (hb : Rows w 26 b cb (m.map Ev.cells)) (R : Bool) (hR : Hid (R = true ↔ l = m)) :
    Calls Try.prog 63 #[.slice a l.length ca, .slice b m.length cb] w fun e w' => e = .returned (.bool R) ∧ Below w.heap.size w w' := by
  by_cases h : l.length = m.length
  · rw [h]
    exact equal_in l m hwl hwm a b ca cb m.length w ha hb h rfl R hR
  · have hr : R = false := by
      rw [Bool.eq_false_iff]
      intro q
      exact h (by rw [hR.out.mp q])
    rw [hr]
    exact equal_out a b ca cb _ _ w (rows_len ha) (rows_len hb) h
theorem chk0 {l : List Ev} (hlen : l.length ≤ 256) (hrt : ∀ x ∈ l, rightP x) : checkP l 0 := .inr (.inr ⟨hlen, hrt, rfl⟩)
set_option maxHeartbeats 1000000 in
theorem canonical_ok (l : List Ev) (la : Option Addr) (lc : Nat) (w : World) (hl : Rows w 26 la lc (l.map Ev.cells)) (hlen : l.length ≤ 256) (hrt : ∀ x ∈ l, rightP x) {B : Nat → Nat → Bool} (hB : Tells (dpf l) B) :
    Calls Try.prog 62 #[.slice la l.length lc] w fun e w' => ∃ (L : List Nat) (A : Nat), e = .returned (.tuple #[.slice (some ⟨A, 0, none⟩) l.length l.length, .int .i64 0]) ∧ Hid (OrdL B (gof l) l.length L ∧ L.length = l.length ∧ Rows w' 26 (some ⟨A, 0, none⟩) l.length ((laidE l L).map Ev.cells) ∧ Below w.heap.size w w') := by
  have c1 := form_ok l la lc w hl hlen hrt hB
  have c2 : ∀ wx (L : List Nat) (A : Nat), Below w.heap.size w wx → L.length = l.length → (∀ x ∈ L, x < l.length) → Rows wx 1 (some ⟨A, 0, none⟩) l.length ((L.map fun x : Nat => (x : Int)).map chCells) → Calls Try.prog 53 #[.slice la l.length lc, .slice (some ⟨A, 0, none⟩) l.length l.length] wx fun e w' => ∃ A', e = .returned (.slice (some ⟨A', 0, none⟩) l.length l.length) ∧ Hid (Rows w' 26 (some ⟨A', 0, none⟩) l.length ((laidE l L).map Ev.cells) ∧ Below wx.heap.size wx w') := fun wx L A hb hL hlt hr => by
    have := arranged_any l la lc (L.map fun x : Nat => (x : Int)) (some ⟨A, 0, none⟩) l.length wx (hl.later hb) hr (by simp; omega) (fun p hp => by
      obtain ⟨x, hx, rfl⟩ := List.mem_map.mp hp
      have := hlt x hx
      omega)
    rw [List.length_map, hL, arr_laid] at this
    exact this.mono fun e w' ⟨A', he, hq⟩ => ⟨A', he, ⟨hq.out.2.1, hq.out.2.2⟩⟩
  have hlenH : Hid (l.length ≤ 256) := hlen
  clear hl hrt hB
  go_enter Try.func62, Try.ntmps62
  go_wp2_with (first
    | (go_at_call 19; (with_reducible refine c1.mono ?_); rintro e w1 ⟨L, A, rfl, h1, h2, h3, h4, h5⟩; (have hq : Hid (OrdL B (gof l) l.length L ∧ L.length = l.length ∧ (∀ x ∈ L, x < l.length) ∧ Rows w1 1 (some ⟨A, 0, none⟩) l.length ((L.map fun x : Nat => (x : Int)).map chCells) ∧ Below w.heap.size w w1) := ⟨h1, h2, h1.lin.lt, rows_fm h4 h2 hlenH.out, h5⟩); clear h1 h2 h3 h4 h5 c1)
    | (go_at_call 53; (refine (c2 _ L A hq.out.2.2.2.2 hq.out.2.1 hq.out.2.2.1 hq.out.2.2.2.1).mono ?_); rintro e w2 ⟨A', rfl, hr⟩; clear c2))
  go_ret2
  exact ⟨L, A', rfl, ⟨hq.out.1, hq.out.2.1, hr.out.1, bthen hq.out.2.2.2.2 hr.out.2⟩⟩
set_option maxHeartbeats 1000000 in
theorem same_ok (l m : List Ev) (la ma : Option Addr) (lc mc : Nat) (w : World) (hl : Rows w 26 la lc (l.map Ev.cells)) (hm : Rows w 26 ma mc (m.map Ev.cells)) (hwl : ∀ x ∈ l, x.wf) (hwm : ∀ x ∈ m, x.wf) (hlen : l.length ≤ 256) (hrt : ∀ x ∈ l, rightP x) (hlen2 : m.length ≤ 256) (hrt2 : ∀ x ∈ m, rightP x) {B B' : Nat → Nat → Bool} (hB : Tells (dpf l) B) (hB' : Tells (dpf m) B') (R : Bool) (hR : Hid (∀ L M, OrdL B (gof l) l.length L → L.length = l.length → OrdL B' (gof m) m.length M → M.length = m.length → (R = true ↔ laidE l L = laidE m M))) :
    Calls Try.prog 32 #[.slice la l.length lc, .slice ma m.length mc] w fun e w' => e = .returned (.tuple #[.bool R, .int .i64 0]) ∧ Below w.heap.size w w' := by
  have c1 := canonical_ok l la lc w hl hlen hrt hB
  have c2 : ∀ wx, Below w.heap.size w wx → Calls Try.prog 62 #[.slice ma m.length mc] wx _ := fun wx hb => canonical_ok m ma mc wx (hm.later hb) hlen2 hrt2 hB'
  have c3 : ∀ (wx : World) (L M : List Nat) (A A' : Nat), OrdL B (gof l) l.length L → L.length = l.length → OrdL B' (gof m) m.length M → M.length = m.length → Rows wx 26 (some ⟨A, 0, none⟩) l.length ((laidE l L).map Ev.cells) → Rows wx 26 (some ⟨A', 0, none⟩) m.length ((laidE m M).map Ev.cells) → Calls Try.prog 63 #[.slice (some ⟨A, 0, none⟩) l.length l.length, .slice (some ⟨A', 0, none⟩) m.length m.length] wx fun e w' => e = .returned (.bool R) ∧ Below wx.heap.size wx w' := fun wx L M A A' h1 h2 h3 h4 r1 r2 => by
    have := equal_any (laidE l L) (laidE m M) (laid_all hwl h1.lin.lt) (laid_all hwm h3.lin.lt) (some ⟨A, 0, none⟩) (some ⟨A', 0, none⟩) l.length m.length wx r1 r2 R (hR.out L M h1 h2 h3 h4)
    rw [laid_len, laid_len, h2, h4] at this
    exact this
  clear hl hm hrt hrt2 hB hB' hwl hwm hR
  go_enter Try.func32, Try.ntmps32
  go_upto_region 4 with (go_at_call 62; (with_reducible refine c1.mono ?_); rintro e w1 ⟨L, A, rfl, hq⟩; (have hb : Hid (Below w.heap.size w w1) := hq.out.2.2.2); clear c1)
  go_wp2_with (first
    | (go_at_call 62; (refine (c2 _ hb.out).mono ?_); rintro e w2 ⟨M, A', rfl, hr⟩; (have hb2 : Hid (Below w.heap.size w w2 ∧ Rows w2 26 (some ⟨A, 0, none⟩) l.length ((laidE l L).map Ev.cells)) := ⟨bthen hb.out hr.out.2.2.2, hq.out.2.2.1.later hr.out.2.2.2⟩); clear c2)
    | (go_at_call 63; (refine (c3 _ L M A A' hq.out.1 hq.out.2.1 hr.out.1 hr.out.2.1 hb2.out.2 hr.out.2.2.1).mono ?_); rintro e w3 ⟨rfl, hb3⟩; (have hb4 : Hid (Below w.heap.size w w3) := bthen hb2.out.1 hb3); clear hb3))
  go_ret2
  exact ⟨rfl, hb4.out⟩
end Go.Proofs.Ytkadlopcomjonaa.pg
