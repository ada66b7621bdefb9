/- What closing along edges, taken from the last one on, comes to. -/
import Derived.Test.YtkhhkgfaakgdfaaM34
import Derived.Test.YtkhhkgfaakgdfaaM32
import Derived.Test.YtkhhkgfaakgdfaaM31
namespace Go.Proofs.Ytkhhkgfaakgdfaa.pg
open Go.ChangeShapes Go.WideShapes Go.ChangeAt Go.RowKit Go.Shelf
set_option linter.unusedVariables false
set_option linter.unusedSimpArgs false
/-- With all of its past. -/
def cloB (B : Nat → Nat → Bool) (n : Nat) (f : Nat → Bool) (a : Nat) : Bool := f a || (List.range n).any fun b => B a b && f b
theorem cloB_iff (B : Nat → Nat → Bool) (n : Nat) (f : Nat → Bool) (a : Nat) : cloB B n f a = true ↔ f a = true ∨ ∃ b, b < n ∧ B a b = true ∧ f b = true := by
  unfold cloB
  rw [Bool.or_eq_true, List.any_eq_true]
  simp only [List.mem_range, Bool.and_eq_true]
def gC (E : List (Nat × Nat)) (f C : Nat → Bool) (m a : Nat) : Bool := f a || (E.drop m).any fun p => p.1 == a && C p.2
theorem gC_step {E : List (Nat × Nat)} (f C : Nat → Bool) {m : Nat} {p : Nat × Nat} (hp : E[m]? = some p) (a : Nat) : gC E f C m a = (f a || ((p.1 == a && C p.2) || (E.drop (m + 1)).any fun p => p.1 == a && C p.2)) := by
  unfold gC
  have hm : m < E.length := (List.getElem?_eq_some_iff.mp hp).1
  have : E.drop m = p :: E.drop (m + 1) := by
    rw [List.drop_eq_getElem_cons hm]
    congr 1
    exact (List.getElem?_eq_some_iff.mp hp).2
  rw [this, List.any_cons]
section
variable {d B : Nat → Nat → Bool} (hB : Tells d B) {n : Nat} {E : List (Nat × Nat)} (hE : ∀ p, p ∈ E ↔ p.1 < p.2 ∧ p.2 < n ∧ edgeB d B p.1 p.2 = true) (f : Nat → Bool)
include hB hE
theorem gC_zero (a : Nat) : gC E f (cloB B n f) 0 a = cloB B n f a := by
  rw [Bool.eq_iff_iff]
  unfold gC
  rw [List.drop_zero, Bool.or_eq_true, List.any_eq_true, cloB_iff]
  constructor
  · rintro (h | ⟨p, hp, h⟩)
    · exact .inl h
    · simp only [Bool.and_eq_true, beq_iff_eq] at h
      obtain ⟨h1, h2, h3⟩ := (hE p).mp hp
      have he := edgeB_hb hB h3
      rw [h.1] at he
      right
      rcases (cloB_iff B n f p.2).mp h.2 with q | ⟨b, b1, b2, b3⟩
      · exact ⟨p.2, h2, (hB a p.2).mpr he, q⟩
      · exact ⟨b, b1, (hB a b).mpr (.then he ((hB p.2 b).mp b2)), b3⟩
  · rintro (h | ⟨b, b1, b2, b3⟩)
    · exact .inl h
    · right
      obtain ⟨m, m1, m2⟩ := edge_first hB ((hB a b).mp b2)
      have hlt := ((edgeB_iff d B a m).mp m1).1
      have hmb : m ≤ b := by
        rcases m2 with rfl | m2
        · exact Nat.le_refl _
        · have := m2.lt; omega
      refine ⟨(a, m), (hE (a, m)).mpr ⟨hlt, by show m < n; omega, m1⟩, ?_⟩
      simp only [Bool.and_eq_true, beq_iff_eq, true_and]
      rw [cloB_iff]
      rcases m2 with rfl | m2
      · exact .inl b3
      · exact .inr ⟨b, b1, (hB m b).mpr m2, b3⟩
theorem gC_known (hs : E.Pairwise fun p q => p.2 ≤ q.2) {m : Nat} {p : Nat × Nat} (hp : E[m]? = some p) : gC E f (cloB B n f) (m + 1) p.2 = cloB B n f p.2 := by
  rw [← gC_zero hB hE f p.2]
  have key : ∀ q, q ≤ m + 1 → gC E f (cloB B n f) q p.2 = gC E f (cloB B n f) (m + 1) p.2 := by
    intro q
    induction h : m + 1 - q generalizing q with
    | zero => intro hq; have : q = m + 1 := by omega
              rw [this]
    | succ r ih =>
      intro hq
      have hql : q < E.length := by have := (List.getElem?_eq_some_iff.mp hp).1; omega
      obtain ⟨x, hx, hxm⟩ := get_lt E q hql
      have hlt := ((hE x).mp hxm).1
      rw [← ih (q + 1) (by omega) (by omega), gC_step f _ hx]
      have hle : x.2 ≤ p.2 := by
        by_cases e : q = m
        · subst e
          rw [hx, Option.some.injEq] at hp
          rw [hp]; exact Nat.le_refl _
        · have h1 := List.pairwise_iff_getElem.mp hs q m hql (List.getElem?_eq_some_iff.mp hp).1 (by omega)
          rw [(List.getElem?_eq_some_iff.mp hx).2, (List.getElem?_eq_some_iff.mp hp).2] at h1
          exact h1
      have : (x.1 == p.2) = false := by rw [beq_eq_false_iff_ne]; omega
      rw [this, Bool.false_and, Bool.false_or]
      rfl
  exact (key 0 (by omega)).symm
theorem cfd_is (hs : E.Pairwise fun p q => p.2 ≤ q.2) : ∀ k, k ≤ E.length → ∀ a, cfd E f (dn E.length k) a = gC E f (cloB B n f) (E.length - k) a
  | 0, _, a => by
    show f a = _
    unfold gC
    rw [Nat.sub_zero, List.drop_length]
    simp
  | k + 1, hk, a => by
    have ih := cfd_is hs k (by omega)
    have hlt : E.length - 1 - k < E.length := by omega
    have hp : E[E.length - 1 - k]? = some (E.getD (E.length - 1 - k) (0, 0)) := by rw [List.getD_eq_getElem?_getD, List.getElem?_eq_getElem hlt]; rfl
    have e1 : E.length - k = (E.length - 1 - k) + 1 := by omega
    have e2 : E.length - (k + 1) = E.length - 1 - k := by omega
    rw [dn_more (by omega), cfd_more, e2, gC_step f _ hp]
    show cst (cfd E f (dn E.length k)) (E.getD (E.length - 1 - k) (0, 0)) a = _
    have hkn := gC_known hB hE f hs hp
    generalize E.getD (E.length - 1 - k) (0, 0) = p at *
    rw [e1] at ih
    unfold cst
    rw [ih, ih, ih, hkn]
    by_cases h : a = p.1
    · subst h
      have : (p.1 == p.1) = true := by simp
      rw [if_pos rfl, this, Bool.true_and]
      unfold gC
      cases f p.1 <;> cases cloB B n f p.2 <;> cases ((E.drop (E.length - 1 - k + 1)).any fun q => q.1 == p.1 && cloB B n f q.2) <;> rfl
    · have : (p.1 == a) = false := by rw [beq_eq_false_iff_ne]; exact fun q => h q.symm
      rw [if_neg h, this, Bool.false_and, Bool.false_or]
      rfl
theorem cfd_end (hs : E.Pairwise fun p q => p.2 ≤ q.2) : cfd E f (dn E.length E.length) = cloB B n f := by
  funext a
  rw [cfd_is hB hE f hs E.length (Nat.le_refl _), Nat.sub_self, gC_zero hB hE]
end
/-- Closed once, closed for good. -/
theorem cloB_clo {d B : Nat → Nat → Bool} (hB : Tells d B) (n : Nat) (f : Nat → Bool) (a : Nat) : cloB B n (cloB B n f) a = cloB B n f a := by
  rw [Bool.eq_iff_iff, cloB_iff]
  constructor
  · rintro (h | ⟨b, b1, b2, b3⟩)
    · exact h
    · rw [cloB_iff] at b3 ⊢
      right
      rcases b3 with q | ⟨c, c1, c2, c3⟩
      · exact ⟨b, b1, b2, q⟩
      · exact ⟨c, c1, (hB a c).mpr (.then ((hB a b).mp b2) ((hB b c).mp c2)), c3⟩
  · exact .inl
end Go.Proofs.Ytkhhkgfaakgdfaa.pg
/- The document's own Past. -/
namespace Go.Proofs.Ytkhhkgfaakgdfaa.pg
open Go.ChangeShapes Go.WideShapes Go.ChangeAt Go.RowKit Go.Shelf
set_option linter.unusedVariables false
set_option linter.unusedSimpArgs false
set_option maxRecDepth 100000
attribute [local go_sem ↓] Go.wp_at_zero Go.wp_at_succ
set_option maxHeartbeats 1000000 in
theorem rpast_any (lo A n : Nat) (rb : Nat → Nat) (B : Nat → Nat → Bool) (j : Nat) (w : World) (hm : Mat w lo A n n rb B) (hn : n ≤ 256) (hj : j < n) :
    Calls Try.prog 27 #[.slice (some ⟨A, 0, none⟩) n n, .int .i64 (j : Int)] w fun e w' => ∃ va vc, e = .returned (.slice va (lst (fun k => B k j) n).length vc) ∧ LsS w (lst (fun k => B k j) n) va vc w' := by
  obtain ⟨iN, hiN, hzN, hsN, hbN⟩ := info_q infoN_u
  have hmH : Hid (Mat w lo A n n rb B) := hm
  have hnI : (n : Int) ≤ 256 := by omega
  have s0 : Hid (LsS w (lst (fun k => B k j) 0) none 0 w) := ⟨Below.refl _ _, own_nil_q _ _ _ _⟩
  obtain ⟨f, hf⟩ : ∃ f : Nat → Bool, f = fun k => B k j := ⟨_, rfl⟩
  have hfH : Hid (∀ k, f k = B k j) := fun k => by rw [hf]
  rw [← hf] at s0 ⊢
  clear hm hf
  go_enter Try.func27, Try.ntmps27
  go_wp2_with fail
  go_loopw [5, 6] (fun o u wr => ∃ (k : Nat) (va : Option Addr) (vc : Nat), k ≤ n ∧ u = .int .i64 k ∧ o = .slice va (lst f k).length vc ∧ Hid (LsS w (lst f k) va vc wr)) (fun _ u _ => n - (intOf u).toNat)
  case atStart => exact ⟨0, none, 0, by omega, rfl, rfl, s0⟩
  case round =>
    obtain ⟨k, va, vc, hk, rfl, rfl, hs⟩ := hrel
    clear s0
    by_cases hlt : k < n
    · have hkI : (k : Int) < n := by omega
      have xA := ix_row A n k hlt
      have xR := ix_bool (rb k) n j hj
      have u1 := (hmH.out.later hs.out.be).row hlt hlt
      have u2 := ((hmH.out.later hs.out.be).cell (i := k) (j := j) hlt hj).1
      rw [← hfH.out k] at u2
      have hll := lst_len f k
      have hmore : Hid (lst f (k + 1) = lst f k ++ (if f k = true then [(k : Int)] else [])) := rfl
      obtain ⟨b, hb⟩ : ∃ b, f k = b := ⟨_, rfl⟩
      rw [hb] at u2
      cases b with
      | true =>
        have hN : Hid (lst f (k + 1) = lst f k ++ [(k : Int)]) := by show _ = _; rw [hmore.out, if_pos hb]
        clear hmore hb
        generalize lst f k = L at *
        go_wp2_with (first
          | (at_builtin; (refine wpList_app1 rfl (.tmp 20) (.tmp 22) 30 rfl w.heap.size 3 iN _ 1 8 Try.underlying30 hiN hzN hsN hbN rfl (by decide) va vc (L.map chCells) (by rw [List.length_map]; rfl) hs.out.ow (chCells (k : Int)) rfl rfl (one1u _) (by rw [List.length_map]; unfold maxLen; omega) (by rw [List.length_map]; omega) hs.out.be.size ?_); intro va' vc' w2 hg; rw [List.length_map]; (have hg2 : Hid (LsS w (L ++ [(k : Int)]) va' vc' w2) := hs.out.grown hg); clear hg))
        go_roundw
        case rel => exact ⟨k + 1, va', vc', by omega, by go_num, by rw [hN.out, List.length_append]; rfl, by rw [hN.out]; exact hg2⟩
        case measure => simp [intOf]; omega
      | false =>
        have hN : Hid (lst f (k + 1) = lst f k) := by show _ = _; rw [hmore.out, if_neg (by rw [hb]; exact Bool.false_ne_true), List.append_nil]
        clear hmore hb
        go_wp2
        go_roundw
        case rel => exact ⟨k + 1, va, vc, by omega, by go_num, by rw [hN.out], by rw [hN.out]; exact hs⟩
        case measure => simp [intOf]; omega
    · have hk2 : k = n := by omega
      subst hk2
      go_wp2
      go_ret
      exact ⟨va, vc, rfl, hs.out⟩
end Go.Proofs.Ytkhhkgfaakgdfaa.pg
