/- The document's own look at a list of places. -/
import Derived.Test.YtkhhkgfaakgdfaaM26
import Derived.Test.YtkhhkgfaakgdfaaM34
import Derived.Test.YtkhhkgfaakgdfaaM32
namespace Go.Proofs.Ytkhhkgfaakgdfaa.pg
open Go.ChangeShapes Go.WideShapes Go.ChangeAt Go.RowKit Go.Shelf
set_option linter.unusedVariables false
set_option linter.unusedSimpArgs false
set_option maxRecDepth 100000
attribute [local go_sem ↓] Go.wp_at_zero Go.wp_at_succ
def plBad (n : Nat) (ps : List Int) (al : Bool) (k : Nat) : Prop := ∃ x, ps[k]? = some x ∧ (¬ (0 ≤ x ∧ x < (n : Int)) ∨ (al = true ∧ fOf (ps.take k) x.toNat = true))
def plR (n : Nat) (ps : List Int) (al : Bool) (c : Int) : Prop :=
  (256 < ps.length ∧ c = 2) ∨ (ps.length ≤ 256 ∧ ((∃ k, plBad n ps al k) ∨ (al = true ∧ ps.length ≠ n)) ∧ c = 1) ∨ (ps.length ≤ 256 ∧ (∀ k, ¬ plBad n ps al k) ∧ (al = true → ps.length = n) ∧ c = 0)
/-- A block of bools. -/
structure BoB (w wr : World) (A n : Nat) (f : Nat → Bool) : Prop where
  a : wr.heap[A]? = some (.cells (boolRow n f) 4)
  b : Below w.heap.size w wr
  l : w.heap.size ≤ A
theorem BoB.cell {w wr : World} {A n : Nat} {f : Nat → Bool} (h : BoB w wr A n f) {j : Nat} (hj : j < n) : wr.cell? ⟨A, j, none⟩ = some (.bool (f j)) ∧ wr.frozen? ⟨A, j, none⟩ = false :=
  ⟨cell_of h.a (boolRow_at hj), frozen_of_row _ _ _ _ _ h.a⟩
theorem BoB.put {w wr : World} {A n : Nat} {f g : Nat → Bool} (h : BoB w wr A n f) (j : Nat) (hg : ∀ b, (if b = j then true else f b) = g b) : BoB w (wr.setCell ⟨A, j, none⟩ (.bool true)) A n g := by
  rw [setCell_eq_setRow wr A j _ _ _ _ h.a]
  refine ⟨?_, below_setRow h.b h.l _, h.l⟩
  rw [setRow_heap wr A _ _ _ _ h.a, boolRow_set, show (fun b => if b = j then true else f b) = g from funext hg]
theorem infoBo : (Try.prog.info? 4).map (fun i => (i.zero, i.size, i.bytes)) = some (some (.bool false), 1, 1) := by kernel_rfl
theorem plR_bad {n : Nat} {ps : List Int} {al : Bool} {c : Int} (h : plR n ps al c) (h2 : ps.length ≤ 256) {k : Nat} (hb : plBad n ps al k) : c = 1 := by
  rcases h with ⟨h, _⟩ | ⟨_, _, h⟩ | ⟨_, h, _⟩
  · omega
  · exact h
  · exact absurd hb (h k)
set_option maxHeartbeats 2000000 in
theorem rplaces_any (l : List Ev) (la : Option Addr) (lc : Nat) (ps : List Int) (pa : Option Addr) (pc : Nat) (al : Bool) (w : World) (hlen : l.length ≤ 256) (hp : Rows w 1 pa pc (ps.map chCells)) (c : Int) (hc : plR l.length ps al c) :
    Calls Try.prog 54 #[.slice la l.length lc, .slice pa ps.length pc, .bool al] w fun e w' => e = .returned (.int .i64 c) ∧ Below w.heap.size w w' := by
  have hpI := rows_len hp
  by_cases h256 : 256 < ps.length
  · have hI : decide ((256 : Int) < ps.length) = true := by rw [decide_eq_true_eq]; omega
    have hc2 : c = 2 := by rcases hc with ⟨_, h⟩ | ⟨h, _⟩ | ⟨h, _⟩ <;> omega
    subst hc2
    clear hc hp h256
    go_enter Try.func54, Try.ntmps54
    go_wp2
    go_ret
    exact ⟨rfl, Below.refl _ _⟩
  have hI : decide ((256 : Int) < ps.length) = false := by rw [decide_eq_false_iff_not]; omega
  have hle : ps.length ≤ 256 := by omega
  have hlI : (l.length : Int) ≤ 256 := by omega
  have hpH : Hid (Rows w 1 pa pc (ps.map chCells)) := hp
  have hcH : Hid (plR l.length ps al c) := hc
  have hbad : ∀ k, plBad l.length ps al k → Hid (c = 1) := fun k h => plR_bad hc hle h
  obtain ⟨iB, hiB, hzB, hsB, hbB⟩ := info_q infoBo
  have hb8 : iB.bytes * l.length ≤ 281474976710656 := by rw [hbB]; omega
  clear hp hc h256
  go_enter Try.func54, Try.ntmps54
  go_wp2_with (first
    | (refine wpList_mk _ rfl _ _ 52 rfl 4 iB (.bool false) Try.underlying52 hiB hzB rfl hsB l.length rfl rfl hb8 (by omega) ?_; intro W hwh hbW hsW))
  have s0 : Hid (BoB w W w.heap.size l.length (fOf (ps.take 0)) ∧ ∀ j, j < 0 → ¬ plBad l.length ps al j) := ⟨⟨by rw [hwh, boolRow_new]; rfl, hbW, Nat.le_refl _⟩, fun j hj => by omega⟩
  clear hwh hbW hsW
  obtain ⟨A, hA⟩ : ∃ A, w.heap.size = A := ⟨_, rfl⟩
  have hAH : Hid (w.heap.size = A) := hA
  rw [hA] at s0 ⊢
  clear hA
  go_loopw [8] (fun u wr => ∃ k : Nat, k ≤ ps.length ∧ u = .int .i64 k ∧ Hid (BoB w wr A l.length (fOf (ps.take k)) ∧ ∀ j, j < k → ¬ plBad l.length ps al j)) (fun u _ => ps.length - (intOf u).toNat)
  case atStart => exact ⟨0, Nat.zero_le _, rfl, s0⟩
  case round =>
    obtain ⟨k, hk, rfl, hs⟩ := hrel
    clear s0
    by_cases hlt : k < ps.length
    · obtain ⟨x, hx, hxm⟩ := get_lt ps k hlt
      have hkI : (k : Int) < ps.length := by omega
      obtain ⟨b1, o1, hix1, hbl1, c1⟩ := ch_ix (hpH.out.later hs.out.1.b) k x hx
      by_cases hx0 : x < 0
      · have hc1 := hbad k ⟨x, hx, .inl (by omega)⟩
        have hd : decide (x < 0) = true := by simp [hx0]
        clear hbad hx hxm hx0
        go_wp2
        go_ret
        exact ⟨by rw [hc1.out]; rfl, hs.out.1.b⟩
      have hd0 : decide (x < 0) = false := by simp; omega
      by_cases hxn : (l.length : Int) ≤ x
      · have hc1 := hbad k ⟨x, hx, .inl (by omega)⟩
        have hd : decide ((l.length : Int) ≤ x) = true := by simp [hxn]
        clear hbad hx hxm hx0 hxn
        go_wp2
        go_ret
        exact ⟨by rw [hc1.out]; rfl, hs.out.1.b⟩
      have hdn : decide ((l.length : Int) ≤ x) = false := by simp; omega
      obtain ⟨a, rfl⟩ := Int.eq_ofNat_of_zero_le (show 0 ≤ x by omega)
      have hdN : decide (l.length ≤ a) = false := by simp; omega
      have xA := ix_bool A l.length a (by omega)
      have hcl : Hid (wr.cell? ⟨A, a, none⟩ = some (.bool (fOf (ps.take k) a)) ∧ wr.frozen? ⟨A, a, none⟩ = false) := hs.out.1.cell (by omega)
      have hvv := hcl.out.1
      by_cases hsn : al = true ∧ fOf (ps.take k) a = true
      · have hc1 := hbad k ⟨a, hx, .inr hsn⟩
        obtain ⟨rfl, hv⟩ := hsn
        rw [hv] at hvv
        clear hbad hx hxm hx0 hxn hcl
        go_wp2
        go_ret
        exact ⟨by rw [hc1.out]; rfl, hs.out.1.b⟩
      · have hnx : Hid (BoB w (wr.setCell ⟨A, a, none⟩ (.bool true)) A l.length (fOf (ps.take (k + 1))) ∧ ∀ j, j < k + 1 → ¬ plBad l.length ps al j) := by
          refine ⟨hs.out.1.put a fun b => ?_, fun j hj => ?_⟩
          · rw [take_one ps k _ hx]; exact fOf_more (ps.take k) a b
          · by_cases hjk : j = k
            · subst hjk
              rintro ⟨y, hy, q⟩
              rw [hx, Option.some.injEq] at hy
              subst hy
              rcases q with q | q
              · omega
              · exact hsn q
            · exact hs.out.2 j (by omega)
        cases al with
        | true =>
          have hv : fOf (ps.take k) a = false := by rw [Bool.eq_false_iff]; exact fun q => hsn ⟨rfl, q⟩
          rw [hv] at hvv
          clear hbad hx hxm hx0 hxn hs hsn hv
          go_wp2_with (first
            | (refine wpList_putb rfl 4 _ _ rfl ⟨A, a, none⟩ rfl true rfl (by kernel_rfl) _ hcl.out.1 hcl.out.2 ?_; intro W3 hW3; (have s3 : Hid (BoB w W3 A l.length (fOf (ps.take (k + 1))) ∧ ∀ j, j < k + 1 → ¬ plBad l.length ps true j) := by (rw [hW3]; exact hnx.out)); clear hW3 hnx hcl))
          go_roundw
          case rel => exact ⟨k + 1, by omega, by go_num, s3⟩
          case measure => simp [intOf]; omega
        | false =>
          clear hbad hx hxm hx0 hxn hs hsn hvv
          go_wp2_with (first
            | (refine wpList_putb rfl 4 _ _ rfl ⟨A, a, none⟩ rfl true rfl (by kernel_rfl) _ hcl.out.1 hcl.out.2 ?_; intro W3 hW3; (have s3 : Hid (BoB w W3 A l.length (fOf (ps.take (k + 1))) ∧ ∀ j, j < k + 1 → ¬ plBad l.length ps false j) := by (rw [hW3]; exact hnx.out)); clear hW3 hnx hcl))
          go_roundw
          case rel => exact ⟨k + 1, by omega, by go_num, s3⟩
          case measure => simp [intOf]; omega
    · have hk2 : k = ps.length := by omega
      subst hk2
      have hno : ∀ j, ¬ plBad l.length ps al j := fun j => by
        by_cases hj : j < ps.length
        · exact hs.out.2 j hj
        · rintro ⟨y, hy, _⟩
          rw [List.getElem?_eq_none (by omega)] at hy
          cases hy
      by_cases hn : al = true ∧ ps.length ≠ l.length
      · have hc1 : Hid (c = 1) := by
          show _ = _
          rcases hcH.out with ⟨h, _⟩ | ⟨_, _, h⟩ | ⟨_, _, h, _⟩
          · omega
          · exact h
          · exact absurd (h hn.1) hn.2
        obtain ⟨rfl, hn2⟩ := hn
        have hd : ((ps.length : Int) != (l.length : Int)) = true := by simp; omega
        clear hbad hno hn2 hcH
        go_wp2
        go_ret
        exact ⟨by rw [hc1.out]; rfl, hs.out.1.b⟩
      · have hc0 : Hid (c = 0) := by
          show _ = _
          rcases hcH.out with ⟨h, _⟩ | ⟨_, h, _⟩ | ⟨_, _, _, h⟩
          · omega
          · rcases h with ⟨j, h⟩ | h
            · exact absurd h (hno j)
            · exact absurd h hn
          · exact h
        cases al with
        | true =>
          have hd : ((ps.length : Int) != (l.length : Int)) = false := by
            have : ps.length = l.length := by
              by_cases q : ps.length = l.length
              · exact q
              · exact absurd ⟨rfl, q⟩ hn
            rw [this]; simp
          clear hbad hno hn hcH
          go_wp2
          go_ret
          exact ⟨by rw [hc0.out]; rfl, hs.out.1.b⟩
        | false =>
          clear hbad hno hn hcH
          go_wp2
          go_ret
          exact ⟨by rw [hc0.out]; rfl, hs.out.1.b⟩
end Go.Proofs.Ytkhhkgfaakgdfaa.pg
/- What closing along edges, taken from the last one on, comes to. -/
namespace Go.Proofs.Ytkhhkgfaakgdfaa.pg
open Go.ChangeShapes Go.WideShapes Go.ChangeAt Go.RowKit Go.Shelf
set_option linter.unusedVariables false
set_option linter.unusedSimpArgs false
/-- With all of its past. -/
def cloB (B : Nat → Nat → Bool) (n : Nat) (f : Nat → Bool) (a : Nat) : Bool := f a || (List.range n).any fun b => B a b && f b
theorem cloB_iff (B : Nat → Nat → Bool) (n : Nat) (f : Nat → Bool) (a : Nat) : cloB B n f a = true ↔ f a = true ∨ ∃ b, b < n ∧ B a b = true ∧ f b = true := by
  unfold cloB
  rw [Bool.or_eq_true, List.any_eq_true]
  simp only [List.mem_range, Bool.and_eq_true]
def gC (E : List (Nat × Nat)) (f C : Nat → Bool) (m a : Nat) : Bool := f a || (E.drop m).any fun p => p.1 == a && C p.2
theorem gC_step {E : List (Nat × Nat)} (f C : Nat → Bool) {m : Nat} {p : Nat × Nat} (hp : E[m]? = some p) (a : Nat) : gC E f C m a = (f a || ((p.1 == a && C p.2) || (E.drop (m + 1)).any fun p => p.1 == a && C p.2)) := by
  unfold gC
  have hm : m < E.length := (List.getElem?_eq_some_iff.mp hp).1
  have : E.drop m = p :: E.drop (m + 1) := by
    rw [List.drop_eq_getElem_cons hm]
    congr 1
    exact (List.getElem?_eq_some_iff.mp hp).2
  rw [this, List.any_cons]
section
variable {d B : Nat → Nat → Bool} (hB : Tells d B) {n : Nat} {E : List (Nat × Nat)} (hE : ∀ p, p ∈ E ↔ p.1 < p.2 ∧ p.2 < n ∧ edgeB d B p.1 p.2 = true) (f : Nat → Bool)
include hB hE
theorem gC_zero (a : Nat) : gC E f (cloB B n f) 0 a = cloB B n f a := by
  rw [Bool.eq_iff_iff]
  unfold gC
  rw [List.drop_zero, Bool.or_eq_true, List.any_eq_true, cloB_iff]
  constructor
  · rintro (h | ⟨p, hp, h⟩)
    · exact .inl h
    · simp only [Bool.and_eq_true, beq_iff_eq] at h
      obtain ⟨h1, h2, h3⟩ := (hE p).mp hp
      have he := edgeB_hb hB h3
      rw [h.1] at he
      right
      rcases (cloB_iff B n f p.2).mp h.2 with q | ⟨b, b1, b2, b3⟩
      · exact ⟨p.2, h2, (hB a p.2).mpr he, q⟩
      · exact ⟨b, b1, (hB a b).mpr (.then he ((hB p.2 b).mp b2)), b3⟩
  · rintro (h | ⟨b, b1, b2, b3⟩)
    · exact .inl h
    · right
      obtain ⟨m, m1, m2⟩ := edge_first hB ((hB a b).mp b2)
      have hlt := ((edgeB_iff d B a m).mp m1).1
      have hmb : m ≤ b := by
        rcases m2 with rfl | m2
        · exact Nat.le_refl _
        · have := m2.lt; omega
      refine ⟨(a, m), (hE (a, m)).mpr ⟨hlt, by show m < n; omega, m1⟩, ?_⟩
      simp only [Bool.and_eq_true, beq_iff_eq, true_and]
      rw [cloB_iff]
      rcases m2 with rfl | m2
      · exact .inl b3
      · exact .inr ⟨b, b1, (hB m b).mpr m2, b3⟩
theorem gC_known (hs : E.Pairwise fun p q => p.2 ≤ q.2) {m : Nat} {p : Nat × Nat} (hp : E[m]? = some p) : gC E f (cloB B n f) (m + 1) p.2 = cloB B n f p.2 := by
  rw [← gC_zero hB hE f p.2]
  have key : ∀ q, q ≤ m + 1 → gC E f (cloB B n f) q p.2 = gC E f (cloB B n f) (m + 1) p.2 := by
    intro q
    induction h : m + 1 - q generalizing q with
    | zero => intro hq; have : q = m + 1 := by omega
              rw [this]
    | succ r ih =>
      intro hq
      have hql : q < E.length := by have := (List.getElem?_eq_some_iff.mp hp).1; omega
      obtain ⟨x, hx, hxm⟩ := get_lt E q hql
      have hlt := ((hE x).mp hxm).1
      rw [← ih (q + 1) (by omega) (by omega), gC_step f _ hx]
      have hle : x.2 ≤ p.2 := by
        by_cases e : q = m
        · subst e
          rw [hx, Option.some.injEq] at hp
          rw [hp]; exact Nat.le_refl _
        · have h1 := List.pairwise_iff_getElem.mp hs q m hql (List.getElem?_eq_some_iff.mp hp).1 (by omega)
          rw [(List.getElem?_eq_some_iff.mp hx).2, (List.getElem?_eq_some_iff.mp hp).2] at h1
          exact h1
      have : (x.1 == p.2) = false := by rw [beq_eq_false_iff_ne]; omega
      rw [this, Bool.false_and, Bool.false_or]
      rfl
  exact (key 0 (by omega)).symm
theorem cfd_is (hs : E.Pairwise fun p q => p.2 ≤ q.2) : ∀ k, k ≤ E.length → ∀ a, cfd E f (dn E.length k) a = gC E f (cloB B n f) (E.length - k) a
  | 0, _, a => by
    show f a = _
    unfold gC
    rw [Nat.sub_zero, List.drop_length]
    simp
  | k + 1, hk, a => by
    have ih := cfd_is hs k (by omega)
    have hlt : E.length - 1 - k < E.length := by omega
    have hp : E[E.length - 1 - k]? = some (E.getD (E.length - 1 - k) (0, 0)) := by rw [List.getD_eq_getElem?_getD, List.getElem?_eq_getElem hlt]; rfl
    have e1 : E.length - k = (E.length - 1 - k) + 1 := by omega
    have e2 : E.length - (k + 1) = E.length - 1 - k := by omega
    rw [dn_more (by omega), cfd_more, e2, gC_step f _ hp]
    show cst (cfd E f (dn E.length k)) (E.getD (E.length - 1 - k) (0, 0)) a = _
    have hkn := gC_known hB hE f hs hp
    generalize E.getD (E.length - 1 - k) (0, 0) = p at *
    rw [e1] at ih
    unfold cst
    rw [ih, ih, ih, hkn]
    by_cases h : a = p.1
    · subst h
      have : (p.1 == p.1) = true := by simp
      rw [if_pos rfl, this, Bool.true_and]
      unfold gC
      cases f p.1 <;> cases cloB B n f p.2 <;> cases ((E.drop (E.length - 1 - k + 1)).any fun q => q.1 == p.1 && cloB B n f q.2) <;> rfl
    · have : (p.1 == a) = false := by rw [beq_eq_false_iff_ne]; exact fun q => h q.symm
      rw [if_neg h, this, Bool.false_and, Bool.false_or]
      rfl
theorem cfd_end (hs : E.Pairwise fun p q => p.2 ≤ q.2) : cfd E f (dn E.length E.length) = cloB B n f := by
  funext a
  rw [cfd_is hB hE f hs E.length (Nat.le_refl _), Nat.sub_self, gC_zero hB hE]
end
/-- Closed once, closed for good. -/
theorem cloB_clo {d B : Nat → Nat → Bool} (hB : Tells d B) (n : Nat) (f : Nat → Bool) (a : Nat) : cloB B n (cloB B n f) a = cloB B n f a := by
  rw [Bool.eq_iff_iff, cloB_iff]
  constructor
  · rintro (h | ⟨b, b1, b2, b3⟩)
    · exact h
    · rw [cloB_iff] at b3 ⊢
      right
      rcases b3 with q | ⟨c, c1, c2, c3⟩
      · exact ⟨b, b1, b2, q⟩
      · exact ⟨c, c1, (hB a c).mpr (.then ((hB a b).mp b2) ((hB b c).mp c2)), c3⟩
  · exact .inl
end Go.Proofs.Ytkhhkgfaakgdfaa.pg
