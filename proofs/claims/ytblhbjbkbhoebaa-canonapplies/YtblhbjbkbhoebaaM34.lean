/- Orders that keep what happens before what, by the document. -/
import Derived.Test.YtblhbjbkbhoebaaM33
import Derived.Test.YtblhbjbkbhoebaaM22
import Derived.Test.YtblhbjbkbhoebaaM30
import Derived.Test.YtblhbjbkbhoebaaM31
namespace Go.Proofs.Ytblhbjbkbhoebaa.pg
open Go.ChangeShapes Go.WideShapes Go.ChangeAt Go.RowKit Go.Shelf
set_option linter.unusedVariables false
set_option linter.unusedSimpArgs false
set_option maxRecDepth 100000
/-- Where each stands, so far. -/
def atM (n : Nat) (ps : List Int) : Nat → List Int
  | 0 => List.replicate n (-1)
  | k + 1 => (atM n ps k).set (ps.getD k 0).toNat (k : Int)
theorem atM_len (n : Nat) (ps : List Int) : ∀ k, (atM n ps k).length = n
  | 0 => by simp [atM]
  | k + 1 => by simp [atM, atM_len n ps k]
theorem atM_more {n : Nat} {ps : List Int} {k a : Nat} (h : ps[k]? = some (a : Int)) : (atM n ps k).set a (k : Int) = atM n ps (k + 1) := by
  show _ = (atM n ps k).set (ps.getD k 0).toNat (k : Int)
  rw [List.getD_eq_getElem?_getD, h]
  rfl
/-- A place that is none, or that came before. -/
def badM (n : Nat) (ps : List Int) (k : Nat) : Prop := ∃ x, ps[k]? = some x ∧ (x < 0 ∨ (n : Int) ≤ x ∨ 0 ≤ (atM n ps k).getD x.toNat 0)
def keepM (n : Nat) (B : Nat → Nat → Bool) (ps : List Int) : Prop := (∀ k, ¬ badM n ps k) ∧ ∀ i j, i < n → j < n → i < j → B i j = true → (atM n ps ps.length).getD i 0 ≤ (atM n ps ps.length).getD j 0
/-- A list of numbers at a block. -/
structure NsM (w : World) (A : Nat) (s : List Int) (wr : World) : Prop where
  h : wr.heap[A]? = some (.cells (s.map fun x => Value.int .i64 x).toArray 3)
  b : Below w.heap.size w wr
  lo : w.heap.size ≤ A
theorem NsM.later {w wr w' : World} {A : Nat} {s : List Int} (h : NsM w A s wr) (hb : Below wr.heap.size wr w') : NsM w A s w' :=
  ⟨(hb.block _ (Array.getElem?_eq_some_iff.mp h.h).1).trans h.h, bthen h.b hb, h.lo⟩
theorem NsM.cell {w wr : World} {A : Nat} {s : List Int} (h : NsM w A s wr) {a : Nat} (ha : a < s.length) : wr.cell? ⟨A, a, none⟩ = some (.int .i64 (s.getD a 0)) ∧ wr.frozen? ⟨A, a, none⟩ = false := by
  refine ⟨?_, frozen_of_row _ _ _ _ _ h.h⟩
  rw [cell_of_row wr A a _ _ _ h.h]
  simp [List.getElem?_eq_getElem ha]
theorem NsM.set {w wr : World} {A : Nat} {s : List Int} (h : NsM w A s wr) (a : Nat) (v : Int) : NsM w A (s.set a v) (wr.setCell ⟨A, a, none⟩ (.int .i64 v)) := by
  refine ⟨?_, h.b.setCell (p := ⟨A, a, none⟩) h.lo _, h.lo⟩
  rw [setCell_eq_setRow wr A a _ _ _ _ h.h, setRow_heap wr A _ _ _ _ h.h]
  rw [List.setIfInBounds_toArray, List.map_set]
theorem rep_set {n k : Nat} (h : k < n) : (List.replicate k (-1 : Int) ++ List.replicate (n - k) 0).set k (-1) = List.replicate (k + 1) (-1) ++ List.replicate (n - (k + 1)) 0 := by
  obtain ⟨m, hm⟩ : ∃ m, n - k = m + 1 := ⟨n - k - 1, by omega⟩
  rw [List.set_append, if_neg (by simp), List.length_replicate, Nat.sub_self, hm, show n - (k + 1) = m by omega, List.replicate_succ, List.set_cons_zero, List.replicate_succ']
  simp
set_option maxHeartbeats 1000000 in
theorem rkeeps_len (l : List Ev) (la : Option Addr) (lc : Nat) (ps : List Int) (pa : Option Addr) (pc : Nat) (w : World) (hlI : (l.length : Int) ≤ 9223372036854775807) (hpI : (ps.length : Int) ≤ 9223372036854775807) (hne : ps.length ≠ l.length) :
    Calls Try.prog 54 #[.slice la l.length lc, .slice pa ps.length pc] w fun e w' => e = .returned (.bool false) ∧ Below w.heap.size w w' := by
  have d : ((ps.length : Int) != (l.length : Int)) = true := by simp; omega
  go_enter Try.func54, Try.ntmps54
  go_wp2_with fail
  go_ret
  exact ⟨rfl, Below.refl _ _⟩
set_option maxHeartbeats 8000000 in
theorem rkeeps_any (l : List Ev) (la : Option Addr) (lc : Nat) (ps : List Int) (pa : Option Addr) (pc : Nat) (w : World) (hl : Rows w 26 la lc (l.map Ev.cells)) (hp : Rows w 1 pa pc (ps.map chCells)) (hlen : l.length ≤ 256) (heq : ps.length = l.length) (B : Nat → Nat → Bool) (hB : Tells (dpf l) B) (R : Bool) (hR : Hid (R = true ↔ keepM l.length B ps)) :
    Calls Try.prog 54 #[.slice la l.length lc, .slice pa ps.length pc] w fun e w' => e = .returned (.bool R) ∧ Below w.heap.size w w' := by
  obtain ⟨iN, hiN, hzN, hsN, hbN⟩ := info_q infoN_u
  have hiH : Hid (Try.prog.info? 3 = some iN ∧ iN.zero = some (.int .i64 0) ∧ iN.size = 1 ∧ iN.bytes * l.length ≤ 281474976710656) := ⟨hiN, hzN, hsN, by rw [hbN]; omega⟩
  have hlI : (l.length : Int) ≤ 256 := by omega
  have heI : (ps.length : Int) = l.length := by omega
  have hlH : Hid (Rows w 26 la lc (l.map Ev.cells)) := hl
  have hpH : Hid (Rows w 1 pa pc (ps.map chCells)) := hp
  have cB : Hid (∀ wx, Below w.heap.size w wx → Calls Try.prog 50 #[.slice la l.length lc] wx fun e w' => ∃ A rb, e = .returned (.slice (some ⟨A, 0, none⟩) l.length l.length) ∧ RbS wx w' A l.length l.length rb B) := fun wx hb => rbef_any l la lc wx (hlH.out.later hb) hlen B hB
  have hno : Hid (¬ keepM l.length B ps → R = false) := fun h => by
    cases R with
    | false => rfl
    | true => exact absurd (hR.out.mp rfl) h
  have hyes : Hid (keepM l.length B ps → R = true) := fun h => hR.out.mpr h
  clear hiN hzN hsN hbN hl hp hB hR
  go_enter Try.func54, Try.ntmps54
  go_wp2_with (refine wpList_mk _ rfl _ _ 39 rfl 3 iN (.int .i64 0) Try.underlying39 hiH.out.1 hiH.out.2.1 rfl hiH.out.2.2.1 l.length rfl rfl hiH.out.2.2.2 (by omega) ?_; intro W hwh hbW hsW)
  have s0 : Hid (NsM w w.heap.size (List.replicate 0 (-1) ++ List.replicate (l.length - 0) 0) W) := ⟨by rw [hwh]; simp, hbW, Nat.le_refl _⟩
  clear hwh hbW hsW hiH
  obtain ⟨A, hA⟩ : ∃ A, w.heap.size = A := ⟨_, rfl⟩
  have hAH : Hid (w.heap.size = A) := hA
  rw [hA] at s0
  rw [hA]
  clear hA
  go_loopw [22] (fun u wr => ∃ k : Nat, k ≤ l.length ∧ u = .int .i64 k ∧ Hid (NsM w A (List.replicate k (-1) ++ List.replicate (l.length - k) 0) wr)) (fun u _ => l.length - (intOf u).toNat)
  case atStart => exact ⟨0, Nat.zero_le _, rfl, s0⟩
  case round =>
    obtain ⟨k, hk, rfl, hs⟩ := hrel
    clear s0
    by_cases hlt : k < l.length
    · have hkI : (k : Int) < l.length := by omega
      have xA := ix_int A l.length k hlt
      have hcl : Hid _ := hs.out.cell (a := k) (by simp; omega)
      have hnx : Hid (NsM w A (List.replicate (k + 1) (-1) ++ List.replicate (l.length - (k + 1)) 0) (wr.setCell ⟨A, k, none⟩ (.int .i64 (-1)))) := by
        rw [← rep_set hlt]
        exact hs.out.set k (-1)
      clear hs
      go_wp2_with (refine wpList_puti rfl 3 _ _ rfl ⟨A, k, none⟩ rfl (-1) rfl (by kernel_rfl) _ hcl.out.1 hcl.out.2 ?_; intro W3 hW3; (have s3 : Hid (NsM w A (List.replicate (k + 1) (-1) ++ List.replicate (l.length - (k + 1)) 0) W3) := by (rw [hW3]; exact hnx.out)); clear hW3 hnx hcl)
      go_roundw
      case rel => exact ⟨k + 1, by omega, by go_num, s3⟩
      case measure => simp [intOf]; omega
    · have hk2 : k = l.length := by omega
      subst hk2
      have s1 : Hid (NsM w A (atM l.length ps 0) wr) := by
        have := hs.out
        rw [Nat.sub_self, List.replicate_zero, List.append_nil] at this
        exact this
      clear hs
      go_wp2_with fail
      go_loopw [31] (fun u wy => ∃ k : Nat, k ≤ ps.length ∧ u = .int .i64 k ∧ Hid (NsM w A (atM l.length ps k) wy ∧ ∀ j, j < k → ¬ badM l.length ps j)) (fun u _ => ps.length - (intOf u).toNat)
      case atStart => exact ⟨0, Nat.zero_le _, rfl, ⟨s1.out, fun j hj => by omega⟩⟩
      case round =>
        rename World => wy
        obtain ⟨k, hk, rfl, hs⟩ := hrel
        clear s1
        by_cases hlt : k < ps.length
        · have hkI : (k : Int) < l.length := by omega
          obtain ⟨x, hx, hxm⟩ := get_lt ps k hlt
          obtain ⟨b1, o1, x1, l1, c1⟩ := ch_ixK (hpH.out.later hs.out.1.b) k x hx
          rw [heq] at x1
          have hbe : Hid (Below w.heap.size w wy) := hs.out.1.b
          by_cases h0 : x < 0
          · have hRf : R = false := hno.out fun q => q.1 k ⟨x, hx, .inl h0⟩
            subst hRf
            clear hs
            go_wp2_with fail
            go_ret
            exact ⟨rfl, hbe.out⟩
          · by_cases h1 : (l.length : Int) ≤ x
            · have hRf : R = false := hno.out fun q => q.1 k ⟨x, hx, .inr (.inl h1)⟩
              subst hRf
              clear hs
              go_wp2_with fail
              go_ret
              exact ⟨rfl, hbe.out⟩
            · obtain ⟨a, rfl⟩ := Int.eq_ofNat_of_zero_le (show 0 ≤ x by omega)
              have ha : a < l.length := by omega
              have xA := ix_int A l.length a ha
              have hcl := hs.out.1.cell (a := a) (by rw [atM_len]; exact ha)
              obtain ⟨v, hv⟩ : ∃ v, (atM l.length ps k).getD a 0 = v := ⟨_, rfl⟩
              rw [hv] at hcl
              obtain ⟨hc1, hc2⟩ := hcl
              by_cases h2 : 0 ≤ v
              · have hRf : R = false := hno.out fun q => q.1 k ⟨_, hx, .inr (.inr (by rw [Int.toNat_natCast, hv]; exact h2))⟩
                subst hRf
                clear hs
                go_wp2_with fail
                go_ret
                exact ⟨rfl, hbe.out⟩
              · have hnx : Hid (NsM w A (atM l.length ps (k + 1)) (wy.setCell ⟨A, a, none⟩ (.int .i64 (k : Int))) ∧ ∀ j, j < k + 1 → ¬ badM l.length ps j) := by
                  refine ⟨?_, fun j hj => ?_⟩
                  · rw [← atM_more hx]
                    exact hs.out.1.set a k
                  · by_cases e : j = k
                    · subst e
                      rintro ⟨y, hy, q⟩
                      rw [hx] at hy
                      cases hy
                      rw [Int.toNat_natCast, hv] at q
                      rcases q with q | q | q <;> omega
                    · exact hs.out.2 j (by omega)
                clear hs hv
                go_wp2_with (refine wpList_puti rfl 3 _ _ rfl ⟨A, a, none⟩ rfl (k : Int) rfl (by kernel_rfl) _ hc1 hc2 ?_; intro W3 hW3; (have s3 : Hid (NsM w A (atM l.length ps (k + 1)) W3 ∧ ∀ j, j < k + 1 → ¬ badM l.length ps j) := by (rw [hW3]; exact hnx.out)); clear hW3 hnx)
                go_roundw
                case rel => exact ⟨k + 1, by omega, by go_num, s3⟩
                case measure => simp [intOf]; omega
        · have hk2 : k = ps.length := by omega
          subst hk2
          have hgd : Hid (∀ j, ¬ badM l.length ps j) := fun j => by
            by_cases hj : j < ps.length
            · exact hs.out.2 j hj
            · rintro ⟨y, hy, _⟩
              rw [List.getElem?_eq_none (by omega)] at hy
              cases hy
          have s2 : Hid (NsM w A (atM l.length ps ps.length) wy) := hs.out.1
          have cB2 := cB.out wy s2.out.b
          have hsl := atM_len l.length ps ps.length
          obtain ⟨s, hS⟩ : ∃ s, Hid (atM l.length ps ps.length = s) := ⟨_, rfl⟩
          rw [hS.out] at s2 hsl
          clear hs
          go_wp2_with (go_at_call 50; (refine cB2.mono ?_); rintro e w3 ⟨D, rb, rfl, hr3⟩; (have s3 : Hid (NsM w A s w3 ∧ Mat w3 wy.heap.size D l.length l.length rb B) := ⟨s2.out.later hr3.b, hr3.m⟩); clear hr3 cB2 s2)
          generalize wy.heap.size = lo at *
          go_loopw [60] (fun u wz => ∃ i : Nat, i ≤ l.length ∧ u = .int .i64 i ∧ Hid ((NsM w A s wz ∧ Mat wz lo D l.length l.length rb B) ∧ ∀ p q, p < i → q < l.length → p < q → B p q = true → s.getD p 0 ≤ s.getD q 0)) (fun u _ => l.length - (intOf u).toNat)
          case atStart => exact ⟨0, Nat.zero_le _, rfl, ⟨s3.out, fun p q hp => by omega⟩⟩
          case round =>
            rename World => wz
            obtain ⟨i, hi, rfl, hs⟩ := hrel
            clear s3
            by_cases hil : i < l.length
            · have hiI : (i : Int) < l.length := by omega
              go_wp2_with fail
              go_loopw [65] (fun u wv => ∃ j : Nat, j ≤ l.length ∧ u = .int .i64 j ∧ Hid ((NsM w A s wv ∧ Mat wv lo D l.length l.length rb B) ∧ (∀ p q, p < i → q < l.length → p < q → B p q = true → s.getD p 0 ≤ s.getD q 0) ∧ ∀ q, q < j → i < q → B i q = true → s.getD i 0 ≤ s.getD q 0)) (fun u _ => l.length - (intOf u).toNat)
              case atStart => exact ⟨0, Nat.zero_le _, rfl, ⟨hs.out.1, hs.out.2, fun q hq => by omega⟩⟩
              case round =>
                rename World => wv
                obtain ⟨j, hj, rfl, hs2⟩ := hrel
                clear hs
                by_cases hjl : j < l.length
                · have hjI : (j : Int) < l.length := by omega
                  have xD := ix_row D l.length i hil
                  have xR := ix_bool (rb i) l.length j hjl
                  have xi := ix_int A l.length i hil
                  have xj := ix_int A l.length j hjl
                  have cD := hs2.out.1.2.row hil hil
                  obtain ⟨cR, _⟩ := hs2.out.1.2.cell (i := i) (j := j) hil hjl
                  obtain ⟨ci, _⟩ := hs2.out.1.1.cell (a := i) (by rw [hsl]; exact hil)
                  obtain ⟨cj, _⟩ := hs2.out.1.1.cell (a := j) (by rw [hsl]; exact hjl)
                  have hon : Hid (¬ (i < j ∧ B i j = true ∧ s.getD j 0 < s.getD i 0) → ∀ nq, (NsM w A s (wv.drewN nq) ∧ Mat (wv.drewN nq) lo D l.length l.length rb B) ∧ (∀ p q, p < i → q < l.length → p < q → B p q = true → s.getD p 0 ≤ s.getD q 0) ∧ ∀ q, q < j + 1 → i < q → B i q = true → s.getD i 0 ≤ s.getD q 0) := fun hn nq => by
                    have hbq : Below wv.heap.size wv (wv.drewN nq) := below_drewN (Below.refl _ _) _
                    refine ⟨⟨hs2.out.1.1.later hbq, hs2.out.1.2.later hbq⟩, hs2.out.2.1, fun q hq h1 h2 => ?_⟩
                    by_cases e : q = j
                    · subst e
                      exact Int.not_lt.mp fun h3 => hn ⟨h1, h2, h3⟩
                    · exact hs2.out.2.2 q (by omega) h1 h2
                  have hbd : Hid ((i < j ∧ B i j = true ∧ s.getD j 0 < s.getD i 0) → R = false) := fun ⟨h1, h2, h3⟩ => hno.out fun q => by have h9 := q.2 i j hil hjl h1 h2; rw [hS.out] at h9; omega
                  have hbe : Hid (Below w.heap.size w wv) := hs2.out.1.1.b
                  clear hs2
                  generalize s.getD i 0 = vi at *
                  generalize s.getD j 0 = vj at *
                  generalize B i j = Q at *
                  generalize rb i = Rw at *
                  by_cases hij : i < j
                  · have hijI : (i : Int) < j := by omega
                    cases Q with
                    | false =>
                      clear hbd
                      go_wp2_with fail
                      go_quiet (fail)
                      rename_i nq
                      go_wp2
                      go_roundw
                      case rel => exact ⟨j + 1, by omega, by go_num, hon.out (by simp) nq⟩
                      case measure => simp [intOf]; omega
                    | true =>
                      by_cases hv : vj < vi
                      · have hRf : R = false := hbd.out ⟨hij, rfl, hv⟩
                        subst hRf
                        clear hon hbd
                        go_wp2_with fail
                        go_quiet (fail)
                        go_wp2
                        go_ret
                        exact ⟨rfl, below_drewN hbe.out _⟩
                      · have hvH : Hid (¬ vj < vi) := hv
                        clear hbd
                        go_wp2_with fail
                        go_quiet (fail)
                        rename_i nq
                        go_wp2
                        go_roundw
                        case rel => exact ⟨j + 1, by omega, by go_num, hon.out (fun q => by have h8 := hvH.out; have h9 := q.2.2; omega) nq⟩
                        case measure => simp [intOf]; omega
                  · have hijI : ¬ (i : Int) < j := by omega
                    have hijH : Hid (¬ i < j) := hij
                    clear hbd
                    go_wp2_with fail
                    go_quiet (fail)
                    rename_i nq
                    go_wp2
                    go_roundw
                    case rel => exact ⟨j + 1, by omega, by go_num, hon.out (fun q => hijH.out q.1) nq⟩
                    case measure => simp [intOf]; omega
                · have hj2 : j = l.length := by omega
                  subst hj2
                  have hnx : Hid ((NsM w A s wv ∧ Mat wv lo D l.length l.length rb B) ∧ ∀ p q, p < i + 1 → q < l.length → p < q → B p q = true → s.getD p 0 ≤ s.getD q 0) := ⟨hs2.out.1, fun p q hp hq h1 h2 => by
                    by_cases e : p = i
                    · subst e
                      exact hs2.out.2.2 q hq h1 h2
                    · exact hs2.out.2.1 p q (by omega) hq h1 h2⟩
                  clear hs2
                  go_wp2
                  go_roundw
                  case rel => exact ⟨i + 1, by omega, by go_num, hnx⟩
                  case measure => simp [intOf]; omega
            · have hi2 : i = l.length := by omega
              subst hi2
              have hRt : R = true := hyes.out ⟨hgd.out, fun p q hp hq h1 h2 => by rw [hS.out]; exact hs.out.2 p q hp hq h1 h2⟩
              subst hRt
              go_wp2
              go_ret
              exact ⟨rfl, hs.out.1.1.b⟩
end Go.Proofs.Ytblhbjbkbhoebaa.pg
/- The document's own look at a list of places. -/
namespace Go.Proofs.Ytblhbjbkbhoebaa.pg
open Go.ChangeShapes Go.WideShapes Go.ChangeAt Go.RowKit Go.Shelf
set_option linter.unusedVariables false
set_option linter.unusedSimpArgs false
set_option maxRecDepth 100000
attribute [local go_sem ↓] Go.wp_at_zero Go.wp_at_succ
def plBad (n : Nat) (ps : List Int) (al : Bool) (k : Nat) : Prop := ∃ x, ps[k]? = some x ∧ (¬ (0 ≤ x ∧ x < (n : Int)) ∨ (al = true ∧ fOf (ps.take k) x.toNat = true))
def plR (n : Nat) (ps : List Int) (al : Bool) (c : Int) : Prop :=
  (256 < ps.length ∧ c = 2) ∨ (ps.length ≤ 256 ∧ ((∃ k, plBad n ps al k) ∨ (al = true ∧ ps.length ≠ n)) ∧ c = 1) ∨ (ps.length ≤ 256 ∧ (∀ k, ¬ plBad n ps al k) ∧ (al = true → ps.length = n) ∧ c = 0)
/-- A block of bools. -/
structure BoB (w wr : World) (A n : Nat) (f : Nat → Bool) : Prop where
  a : wr.heap[A]? = some (.cells (boolRow n f) 4)
  b : Below w.heap.size w wr
  l : w.heap.size ≤ A
theorem BoB.cell {w wr : World} {A n : Nat} {f : Nat → Bool} (h : BoB w wr A n f) {j : Nat} (hj : j < n) : wr.cell? ⟨A, j, none⟩ = some (.bool (f j)) ∧ wr.frozen? ⟨A, j, none⟩ = false :=
  ⟨cell_of h.a (boolRow_at hj), frozen_of_row _ _ _ _ _ h.a⟩
theorem BoB.put {w wr : World} {A n : Nat} {f g : Nat → Bool} (h : BoB w wr A n f) (j : Nat) (hg : ∀ b, (if b = j then true else f b) = g b) : BoB w (wr.setCell ⟨A, j, none⟩ (.bool true)) A n g := by
  rw [setCell_eq_setRow wr A j _ _ _ _ h.a]
  refine ⟨?_, below_setRow h.b h.l _, h.l⟩
  rw [setRow_heap wr A _ _ _ _ h.a, boolRow_set, show (fun b => if b = j then true else f b) = g from funext hg]
theorem infoBo : (Try.prog.info? 4).map (fun i => (i.zero, i.size, i.bytes)) = some (some (.bool false), 1, 1) := by kernel_rfl
theorem plR_bad {n : Nat} {ps : List Int} {al : Bool} {c : Int} (h : plR n ps al c) (h2 : ps.length ≤ 256) {k : Nat} (hb : plBad n ps al k) : c = 1 := by
  rcases h with ⟨h, _⟩ | ⟨_, _, h⟩ | ⟨_, h, _⟩
  · omega
  · exact h
  · exact absurd hb (h k)
end Go.Proofs.Ytblhbjbkbhoebaa.pg
/- The document's own Closed and Cut. -/
namespace Go.Proofs.Ytblhbjbkbhoebaa.pg
open Go.ChangeShapes Go.WideShapes Go.ChangeAt Go.RowKit Go.Shelf
set_option linter.unusedVariables false
set_option linter.unusedSimpArgs false
set_option maxRecDepth 100000
attribute [local go_sem ↓] Go.wp_at_zero Go.wp_at_succ
def inTo (ps : List Int) (B : Nat → Nat → Bool) (i k : Nat) : Bool := (ps.take k).any fun x => ((i : Int) == x) || B i x.toNat
theorem inTo_more {ps : List Int} {B : Nat → Nat → Bool} {i k a : Nat} (h : ps[k]? = some (a : Int)) : inTo ps B i (k + 1) = (inTo ps B i k || (((i : Int) == (a : Int)) || B i a)) := by
  unfold inTo
  rw [take_one ps k _ h, List.any_append]
  simp
theorem plR_c {n : Nat} {ps : List Int} {al : Bool} {c : Int} (h : plR n ps al c) : c = 2 ∨ c = 1 ∨ c = 0 := by
  rcases h with ⟨_, h⟩ | ⟨_, _, h⟩ | ⟨_, _, _, h⟩ <;> simp [h]
end Go.Proofs.Ytblhbjbkbhoebaa.pg
