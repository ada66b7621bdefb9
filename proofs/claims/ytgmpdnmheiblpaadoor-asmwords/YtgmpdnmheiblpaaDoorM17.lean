/- The document's Number of any text. -/
import Derived.Test.YtgmpdnmheiblpaaDoorM16
import Derived.BigQuiet
namespace Go.Proofs.YtgmpdnmheiblpaaDoor.pg
open Go.ChangeShapes Go.WideShapes Go.ChangeAt Go.RowKit
set_option linter.unusedVariables false
set_option linter.unusedSimpArgs false
set_option maxRecDepth 100000
attribute [local go_sem ↓] Go.wp_at_zero Go.wp_at_succ
theorem dec_sz (k : Nat) : ∀ u, u < 10 ^ (k + 1) → (Lib.decDigits u).length ≤ k + 1 := by
  induction k with
  | zero => intro u h; rw [Lib.decDigits, dif_pos (by omega)]; simp
  | succ k ih =>
    intro u h
    rw [Lib.decDigits]
    by_cases h1 : u < 10
    · rw [dif_pos h1]; simp
    · rw [dif_neg h1, List.length_append]
      have := ih (u / 10) (by rw [Nat.pow_succ] at h; omega)
      simp; omega
theorem itoa_sz20 (X : Int) (h : I64 X) : (Lib.itoa X).length ≤ 20 := by
  obtain ⟨h0, h1⟩ := h
  unfold Lib.itoa
  split
  · have := dec_sz 18 X.natAbs (by omega); simp; omega
  · have := dec_sz 18 X.toNat (by omega); omega
/-- A number's digits. -/
def digs (l : List UInt8) : List UInt8 := if l.head? = some 45 then l.drop 1 else l
theorem dig_nil : digs [] = [] := rfl
theorem fold_mono : ∀ (b : List UInt8) (x : Nat), x ≤ b.foldl (fun a b => a * 10 + (b.toNat - 48)) x
  | [], x => Nat.le_refl _
  | c :: b, x => by
    rw [List.foldl_cons]
    exact Nat.le_trans (by omega) (fold_mono b _)
theorem dval_mono (a b : List UInt8) : dval a ≤ dval (a ++ b) := by
  unfold dval
  rw [List.foldl_append]
  exact fold_mono b _
theorem dec_head45 (u : Nat) : (Lib.decDigits u).head? ≠ some 45 := by
  intro h
  cases hd : Lib.decDigits u with
  | nil => rw [hd] at h; cases h
  | cons b r =>
    rw [hd] at h
    simp only [List.head?_cons, Option.some.injEq] at h
    have := (dec_all u).2 b (by rw [hd]; simp)
    rw [h] at this
    have e : (45 : UInt8).toNat = 45 := rfl
    omega
theorem digs_itoa (X : Int) : dval (digs (Lib.itoa X)) = X.natAbs ∧ ((Lib.itoa X).head? = some 45 ↔ X < 0) := by
  unfold Lib.itoa
  split
  · rename_i h
    refine ⟨?_, by simp [h]⟩
    unfold digs
    rw [if_pos (by simp)]
    simp only [List.drop_one, List.tail_cons]
    exact (dec_all _).1
  · rename_i h
    refine ⟨?_, ⟨fun q => absurd q (dec_head45 _), fun q => absurd q h⟩⟩
    unfold digs
    rw [if_neg (dec_head45 _)]
    rw [(dec_all _).1]
    omega
theorem itoa_at {X : Int} {i : Nat} {c : UInt8} (h : (Lib.itoa X)[i]? = some c) : (i = 0 ∧ c = 45) ∨ (48 ≤ c.toNat ∧ c.toNat ≤ 57) := by
  unfold Lib.itoa at h
  split at h
  · cases i with
    | zero => left; simpa [eq_comm] using h
    | succ i =>
      right
      rw [List.getElem?_cons_succ] at h
      exact (dec_all _).2 c (List.mem_of_getElem? h)
  · right
    exact (dec_all _).2 c (List.mem_of_getElem? h)
theorem digs_more {l : List UInt8} {i : Nat} {c : UInt8} (h : l[i]? = some c) (hc : ¬ (i = 0 ∧ c = 45)) : digs (l.take (i + 1)) = digs (l.take i) ++ [c] ∧ ((l.take (i + 1)).head? = some 45 ↔ (l.take i).head? = some 45) := by
  rw [take_oneT h]
  cases hq : l.take i with
  | nil =>
    have hi : i = 0 := by
      have h1 := (List.getElem?_eq_some_iff.mp h).1
      have h2 := congrArg List.length hq
      rw [List.length_take, List.length_nil] at h2
      omega
    have h45 : c ≠ 45 := fun e => hc ⟨hi, e⟩
    refine ⟨?_, by simp [h45]⟩
    unfold digs
    rw [List.nil_append, if_neg (by simp [h45])]
    rfl
  | cons b r =>
    refine ⟨?_, by simp⟩
    unfold digs
    by_cases hb : b = 45
    · rw [if_pos (by simp [hb]), if_pos (by simp [hb])]; rfl
    · rw [if_neg (by simp [hb]), if_neg (by simp [hb])]
/-- Why a text is no number. -/
theorem no_char {l : List UInt8} {i : Nat} {c : UInt8} (h : l[i]? = some c) (h1 : ¬ (i = 0 ∧ c = 45)) (h2 : ¬ (48 ≤ c.toNat ∧ c.toNat ≤ 57)) : NumR l 0 false :=
  .inr ⟨rfl, rfl, fun X _ q => by
    rw [← q] at h
    rcases itoa_at h with g | g
    · exact h1 g
    · exact h2 g⟩
theorem no_great {l : List UInt8} {i : Nat} {c : UInt8} (h : l[i]? = some c) (h1 : ¬ (i = 0 ∧ c = 45)) (h2 : 922337203685477580 < dval (digs (l.take i))) : NumR l 0 false :=
  .inr ⟨rfl, rfl, fun X hX q => by
    have e1 := (digs_more h h1).1
    have hpre : ∃ r, digs l = digs (l.take (i + 1)) ++ r := by
      have hl : l = l.take (i + 1) ++ l.drop (i + 1) := (List.take_append_drop _ _).symm
      cases hq : l.take (i + 1) with
      | nil =>
        rw [hq, dig_nil] at e1
        simp at e1
      | cons b r =>
        rw [hq] at hl
        refine ⟨l.drop (i + 1), ?_⟩
        unfold digs
        by_cases hb : b = 45
        · rw [if_pos (by rw [hl]; simp [hb]), if_pos (by simp [hb])]
          conv => lhs; rw [hl]
          rfl
        · rw [if_neg (by rw [hl]; simp [hb]), if_neg (by simp [hb])]
          exact hl
    obtain ⟨r, hr⟩ := hpre
    have m1 := dval_mono (digs (l.take (i + 1))) r
    rw [← hr, e1, dval_snoc] at m1
    have e2 := (digs_itoa X).1
    rw [q] at e2
    unfold I64 at hX
    omega⟩
theorem no_end {l : List UInt8} {v : Int} (h : 9223372036854775808 < dval (digs l) ∨ (Lib.itoa v ≠ l ∧ v = (if l.head? = some 45 then IntKind.i64.wrap (-(IntKind.i64.wrap (dval (digs l)))) else IntKind.i64.wrap (dval (digs l))))) : NumR l 0 false :=
  .inr ⟨rfl, rfl, fun X hX q => by
    have e2 := digs_itoa X
    rw [q] at e2
    unfold I64 at hX
    rcases h with h | ⟨h1, h2⟩
    · omega
    · apply h1
      rw [← q]
      congr 1
      rw [h2, e2.1]
      by_cases hn : X < 0
      · rw [if_pos (e2.2.mpr hn), IntKind.wrap_i64, IntKind.wrap_i64]; omega
      · rw [if_neg (fun g => hn (e2.2.mp g)), IntKind.wrap_i64]; omega⟩
def NuP (l : List UInt8) (w : World) (e : Ending) (w' : World) : Prop := ∃ v b, e = .returned (.tuple #[.int .i64 v, .bool b]) ∧ NumR l v b ∧ Below w.heap.size w w'
set_option maxHeartbeats 4000000 in
theorem rnum_any (s : ByteArray) (hs : s.size ≤ 2000000) (w : World) (hT : Tab w) : Calls Tryd.prog 6 #[.string s] w (NuP s.data.toList w) := by
  have hln : Hid (s.data.toList.length = s.size) := (Lib.size_eq s).symm
  by_cases hbig : 20 < s.size
  · have hI : (20 : Int) < s.size := by omega
    have hR : Hid (NumR s.data.toList 0 false) := .inr ⟨rfl, rfl, fun X hX q => by have := itoa_sz20 X hX; rw [q, hln.out] at this; omega⟩
    go_enter Tryd.func6, Tryd.ntmps6
    go_wp2
    go_ret2
    exact ⟨0, false, rfl, hR.out, Below.refl _ _⟩
  have hI : ¬ ((20 : Int) < s.size) := by omega
  have hTH : Hid (Tab w) := hT
  go_enter Tryd.func6, Tryd.ntmps6
  go_wp2
  go_loopw [4, 5, 6] (fun o t u wr => ∃ (i : Nat) (a : Int) (bl : Bool), i ≤ s.size ∧ o = .int .u64 a ∧ t = .bool bl ∧ u = .int .i64 (i : Int) ∧ wr = w ∧ Hid (0 ≤ a ∧ a ≤ 9223372036854775809 ∧ a = (dval (digs (s.data.toList.take i)) : Int) ∧ (bl = true ↔ (s.data.toList.take i).head? = some 45))) (fun _ _ u _ => s.size - (intOf u).toNat)
  case atStart => exact ⟨0, 0, false, Nat.zero_le _, rfl, rfl, rfl, rfl, by omega, by omega, rfl, by simp⟩
  case round =>
    obtain ⟨i, a, bl, hi, rfl, rfl, rfl, rfl, hq⟩ := hrel
    by_cases hlt : i < s.size
    · have hiI : (i : Int) < s.size := by omega
      obtain ⟨c, hc⟩ : ∃ c, s.data.toList[i]? = some c := ⟨_, List.getElem?_eq_getElem (by have := hln.out; omega)⟩
      obtain ⟨_, xI⟩ := byte_ix s i c hc
      have hcH : Hid (s.data.toList[i]? = some c) := hc
      have c256 : (c.toNat : Int) < 256 := by have := c.toNat_lt; omega
      clear hc
      by_cases hmin : i = 0 ∧ c = 45
      · obtain ⟨rfl, rfl⟩ := hmin
        have e45 : (((45 : UInt8).toNat : Nat) : Int) = 45 := rfl
        rw [e45, show ((0 : Nat) : Int) = 0 from rfl] at xI
        have hq2 : Hid (0 ≤ a ∧ a ≤ 9223372036854775809 ∧ a = (dval (digs (s.data.toList.take 1)) : Int) ∧ (true = true ↔ (s.data.toList.take 1).head? = some 45)) := by
          have e1 : s.data.toList.take 1 = [45] := by (have := take_oneT hcH.out; simpa using this)
          obtain ⟨q1, q2, q3, q4⟩ := hq.out
          rw [e1]
          exact ⟨q1, q2, q3, by simp⟩
        clear hq
        go_wp2_with fail
        go_roundw
        case rel => exact ⟨1, a, true, by omega, rfl, rfl, by go_num, by first | rfl | trivial, hq2.out⟩
        case measure => simp [intOf]; omega
      · have hmH : Hid (¬ (i = 0 ∧ c = 45)) := hmin
        have hnoc : Hid (¬ (48 ≤ c.toNat ∧ c.toNat ≤ 57) → NumR s.data.toList 0 false) := fun h => no_char hcH.out hmH.out h
        have hnog : Hid (922337203685477580 < a → NumR s.data.toList 0 false) := fun h => no_great hcH.out hmH.out (by have := hq.out.2.2.1; omega)
        have hgo : Hid (48 ≤ c.toNat → a ≤ 922337203685477580 → c.toNat ≤ 57 → 0 ≤ a * 10 + ((c.toNat : Int) - 48) ∧ a * 10 + ((c.toNat : Int) - 48) ≤ 9223372036854775809 ∧ a * 10 + ((c.toNat : Int) - 48) = (dval (digs (s.data.toList.take (i + 1))) : Int) ∧ (bl = true ↔ (s.data.toList.take (i + 1)).head? = some 45)) := fun g1 g2 g3 => by
          obtain ⟨q1, q2, q3, q4⟩ := hq.out
          obtain ⟨e1, e2⟩ := digs_more hcH.out hmH.out
          rw [e1, dval_snoc, e2]
          exact ⟨by omega, by omega, by omega, q4⟩
        have ha0 : 0 ≤ a ∧ a ≤ 9223372036854775809 := ⟨hq.out.1, hq.out.2.1⟩
        generalize hcv : (c.toNat : Int) = cv at *
        have hc48 : Hid ((48 ≤ c.toNat ↔ 48 ≤ cv) ∧ (c.toNat ≤ 57 ↔ cv ≤ 57)) := ⟨by omega, by omega⟩
        have cv0 : 0 ≤ cv := by omega
        have hm2 : i = 0 → cv ≠ 45 := fun h q => hmin ⟨h, UInt8.toNat_inj.mp (by show c.toNat = 45; omega)⟩
        clear hq hmin hcv
        by_cases hi0 : i = 0
        · have d45 : (cv == 45) = false := by (rw [beq_eq_false_iff_ne]; exact hm2 hi0)
          subst hi0
          rw [show ((0 : Nat) : Int) = 0 from rfl] at xI
          clear hm2
          by_cases g1 : 48 ≤ cv
          · have n1 : ¬ (cv < 48) := by omega
            by_cases g2 : cv ≤ 57
            · have n2 : ¬ (57 < cv) := by omega
              by_cases g3 : a ≤ 922337203685477580
              · have n3 : ¬ (922337203685477580 < a) := by omega
                have w1 : IntKind.u64.wrap (a * 10) = a * 10 := by (rw [IntKind.wrap_u64]; omega)
                have w2 : IntKind.u8.wrap (cv - 48) = cv - 48 := by (rw [IntKind.wrap_u8]; omega)
                have w3 : IntKind.u64.wrap (cv - 48) = cv - 48 := by (rw [IntKind.wrap_u64]; omega)
                have w4 : IntKind.u64.wrap (a * 10 + (cv - 48)) = a * 10 + (cv - 48) := by (rw [IntKind.wrap_u64]; omega)
                have hn := hgo.out (hc48.out.1.mpr g1) g3 (hc48.out.2.mpr g2)
                have hnH : Hid _ := hn
                clear hn hgo hnoc hnog
                go_wp2_with fail
                go_roundw
                case rel => exact ⟨0 + 1, a * 10 + (cv - 48), bl, by omega, rfl, rfl, by go_num, by first | rfl | trivial, hnH.out⟩
                case measure => simp [intOf]; omega
              · have n3 : 922337203685477580 < a := by omega
                have hR : Hid (NumR s.data.toList 0 false) := hnog.out n3
                clear hgo hnoc hnog
                go_wp2_with fail
                go_ret2
                exact ⟨0, false, rfl, hR.out, Below.refl _ _⟩
            · have n2 : 57 < cv := by omega
              have hR : Hid (NumR s.data.toList 0 false) := hnoc.out (fun h => g2 (hc48.out.2.mp h.2))
              clear hgo hnoc hnog
              go_wp2_with fail
              go_ret2
              exact ⟨0, false, rfl, hR.out, Below.refl _ _⟩
          · have n1 : cv < 48 := by omega
            have hR : Hid (NumR s.data.toList 0 false) := hnoc.out (fun h => g1 (hc48.out.1.mp h.1))
            clear hgo hnoc hnog
            go_wp2_with fail
            go_ret2
            exact ⟨0, false, rfl, hR.out, Below.refl _ _⟩
        · have d0 : ((i : Int) == 0) = false := by (rw [beq_eq_false_iff_ne]; omega)
          clear hm2 hi0
          by_cases g1 : 48 ≤ cv
          · have n1 : ¬ (cv < 48) := by omega
            by_cases g2 : cv ≤ 57
            · have n2 : ¬ (57 < cv) := by omega
              by_cases g3 : a ≤ 922337203685477580
              · have n3 : ¬ (922337203685477580 < a) := by omega
                have w1 : IntKind.u64.wrap (a * 10) = a * 10 := by (rw [IntKind.wrap_u64]; omega)
                have w2 : IntKind.u8.wrap (cv - 48) = cv - 48 := by (rw [IntKind.wrap_u8]; omega)
                have w3 : IntKind.u64.wrap (cv - 48) = cv - 48 := by (rw [IntKind.wrap_u64]; omega)
                have w4 : IntKind.u64.wrap (a * 10 + (cv - 48)) = a * 10 + (cv - 48) := by (rw [IntKind.wrap_u64]; omega)
                have hn := hgo.out (hc48.out.1.mpr g1) g3 (hc48.out.2.mpr g2)
                have hnH : Hid _ := hn
                clear hn hgo hnoc hnog
                go_wp2_with fail
                go_roundw
                case rel => exact ⟨i + 1, a * 10 + (cv - 48), bl, by omega, rfl, rfl, by go_num, by first | rfl | trivial, hnH.out⟩
                case measure => simp [intOf]; omega
              · have n3 : 922337203685477580 < a := by omega
                have hR : Hid (NumR s.data.toList 0 false) := hnog.out n3
                clear hgo hnoc hnog
                go_wp2_with fail
                go_ret2
                exact ⟨0, false, rfl, hR.out, Below.refl _ _⟩
            · have n2 : 57 < cv := by omega
              have hR : Hid (NumR s.data.toList 0 false) := hnoc.out (fun h => g2 (hc48.out.2.mp h.2))
              clear hgo hnoc hnog
              go_wp2_with fail
              go_ret2
              exact ⟨0, false, rfl, hR.out, Below.refl _ _⟩
          · have n1 : cv < 48 := by omega
            have hR : Hid (NumR s.data.toList 0 false) := hnoc.out (fun h => g1 (hc48.out.1.mp h.1))
            clear hgo hnoc hnog
            go_wp2_with fail
            go_ret2
            exact ⟨0, false, rfl, hR.out, Below.refl _ _⟩
    · have hie : i = s.size := by omega
      have hiI : ¬ ((i : Int) < s.size) := by omega
      have htk : s.data.toList.take i = s.data.toList := List.take_of_length_le (by have := hln.out; omega)
      rw [htk] at hq
      have hnE : ∀ v, Hid ((9223372036854775808 < a ∨ (Lib.itoa v ≠ s.data.toList ∧ v = (if bl = true then IntKind.i64.wrap (-(IntKind.i64.wrap a)) else IntKind.i64.wrap a))) → NumR s.data.toList 0 false) := fun v h => no_end (v := v) (by
        obtain ⟨q1, q2, q3, q4⟩ := hq.out
        rw [← q3]
        rcases h with h | ⟨h1, h2⟩
        · left; omega
        · right
          refine ⟨h1, h2.trans ?_⟩
          by_cases hb : bl = true
          · rw [if_pos hb, if_pos (q4.mp hb)]
          · rw [if_neg hb, if_neg (fun g => hb (q4.mpr g))])
      have ha0 : 0 ≤ a := hq.out.1
      clear hq htk hie
      cases bl with
      | true =>
        by_cases hbg : 9223372036854775808 < a
        · have hR : Hid (NumR s.data.toList 0 false) := (hnE 0).out (.inl hbg)
          clear hnE
          go_wp2_with fail
          go_ret2
          exact ⟨0, false, rfl, hR.out, Below.refl _ _⟩
        · obtain ⟨v, hv⟩ : ∃ v, wrap64 (-(wrap64 a)) = v := ⟨_, rfl⟩
          have hvI : I64 v := by (rw [← hv]; unfold I64 wrap64; omega)
          have hnv : Hid (Lib.itoa v ≠ s.data.toList → NumR s.data.toList 0 false) := fun h => (hnE v).out (.inr ⟨h, by rw [← hv, if_pos rfl, IntKind.wrap_i64, IntKind.wrap_i64]; unfold wrap64; rfl⟩)
          have cT := fmt_anyK v hvI wr hTH.out
          by_cases hsame : numK v = s
          · have hR : Hid (NumR s.data.toList v true) := .inl ⟨rfl, hvI, by rw [← hsame, numK_list]⟩
            rw [hsame] at cT
            clear hnE hnv hsame hvI
            go_wp2_with (first
              | (go_at_call 17; (with_reducible refine cT.mono ?_); rintro e w3 ⟨rfl, hb3⟩))
            go_ret2
            exact ⟨v, true, rfl, hR.out, hb3⟩
          · have hR : Hid (NumR s.data.toList 0 false) := hnv.out (fun q => hsame (by rw [← mkB_of s, ← q]; rfl))
            have hne : ((numK v).toList == s.toList) = false := by
              rw [Bool.eq_false_iff]
              intro q
              rw [bytes_beqW] at q
              exact hsame q
            generalize numK v = K at *
            clear hnE hnv hsame hvI
            go_wp2_with (first
              | (go_at_call 17; (with_reducible refine cT.mono ?_); rintro e w3 ⟨rfl, hb3⟩))
            go_ret2
            exact ⟨0, false, rfl, hR.out, hb3⟩
      | false =>
        by_cases hbg : 9223372036854775808 < a
        · have hR : Hid (NumR s.data.toList 0 false) := (hnE 0).out (.inl hbg)
          clear hnE
          go_wp2_with fail
          go_ret2
          exact ⟨0, false, rfl, hR.out, Below.refl _ _⟩
        · obtain ⟨v, hv⟩ : ∃ v, IntKind.i64.wrap a = v := ⟨_, rfl⟩
          have hvI : I64 v := by (rw [← hv, IntKind.wrap_i64]; unfold I64; omega)
          have hnv : Hid (Lib.itoa v ≠ s.data.toList → NumR s.data.toList 0 false) := fun h => (hnE v).out (.inr ⟨h, by rw [← hv]; rfl⟩)
          have cT := fmt_anyK v hvI wr hTH.out
          by_cases hsame : numK v = s
          · have hR : Hid (NumR s.data.toList v true) := .inl ⟨rfl, hvI, by rw [← hsame, numK_list]⟩
            rw [hsame] at cT
            clear hnE hnv hsame hvI
            go_wp2_with (first
              | (go_at_call 17; (with_reducible refine cT.mono ?_); rintro e w3 ⟨rfl, hb3⟩))
            go_ret2
            exact ⟨v, true, rfl, hR.out, hb3⟩
          · have hR : Hid (NumR s.data.toList 0 false) := hnv.out (fun q => hsame (by rw [← mkB_of s, ← q]; rfl))
            have hne : ((numK v).toList == s.toList) = false := by
              rw [Bool.eq_false_iff]
              intro q
              rw [bytes_beqW] at q
              exact hsame q
            generalize numK v = K at *
            clear hnE hnv hsame hvI
            go_wp2_with (first
              | (go_at_call 17; (with_reducible refine cT.mono ?_); rintro e w3 ⟨rfl, hb3⟩))
            go_ret2
            exact ⟨0, false, rfl, hR.out, hb3⟩
end Go.Proofs.YtgmpdnmheiblpaaDoor.pg
/- AsmWords, walked. -/
namespace Go.Proofs.YtgmpdnmheiblpaaDoor.pg
open Go.ChangeShapes Go.WideShapes Go.ChangeAt Go.RowKit
set_option linter.unusedVariables false
set_option linter.unusedSimpArgs false
set_option maxRecDepth 100000
attribute [local go_sem ↓] Go.wp_at_zero Go.wp_at_succ
theorem bs_ix {w : World} {a : Option Addr} {cap : Nat} {L : List ByteArray} (h : Rows w 1 a cap (L.map bsC)) (i : Nat) (x : ByteArray) (hi : L[i]? = some x) :
    ∃ b o, (∀ wx, (Instr.indexAt 24 (.slice a L.length cap) (.int .i64 (i : Int))).run Tryd.prog wx = .ok (.pointer (some ⟨b, o, none⟩)) wx) ∧ b < w.heap.size ∧ w.cell? ⟨b, o, none⟩ = some (.string x) := by
  obtain ⟨b, o, hr, hlt, hc⟩ := h.ix 24 9 Tryd.underlying24 (by kernel_rfl) (fun wx => Tryd.sizeOf9 wx) i (row := bsC x) (by simp [hi])
  rw [List.length_map] at hr
  exact ⟨b, o, hr, hlt, hc 0 _ rfl⟩
set_option maxHeartbeats 1000000 in
theorem sameTexts_any (L : List ByteArray) (a b : Option Addr) (ca cb : Nat) (w : World) (ha : Rows w 1 a ca (L.map bsC)) (hb : Rows w 1 b cb (L.map bsC)) :
    Calls Tryd.prog 8 #[.slice a L.length ca, .slice b L.length cb] w fun e w' => e = .returned (.bool true) ∧ Below w.heap.size w w' := by
  have hlI : (L.length : Int) ≤ 9223372036854775807 := by (have h1 := ha.1; have h2 := ha.2.1; rw [List.length_map] at h1; omega)
  go_enter Tryd.func8, Tryd.ntmps8
  go_wp2_with fail
  go_loopw [13] (fun u wr => ∃ k : Nat, k ≤ L.length ∧ u = .int .i64 k ∧ Below w.heap.size w wr) (fun u _ => L.length - (intOf u).toNat)
  case atStart => exact ⟨0, Nat.zero_le _, rfl, Below.refl _ _⟩
  case round =>
    obtain ⟨k, hk, rfl, hbe⟩ := hrel
    by_cases hlt : k < L.length
    · obtain ⟨y, hy, hym⟩ := get_lt L k hlt
      obtain ⟨b1, o1, hix1, hbl1, c1⟩ := bs_ix (ha.later hbe) k y hy
      obtain ⟨b2, o2, hix2, hbl2, c2⟩ := bs_ix (hb.later hbe) k y hy
      have hkI : (k : Int) < L.length := by omega
      have hsm : (y.toList == y.toList) = true := by simp
      go_wp2_with fail
      go_quiet (fail)
      go_wp2
      go_roundw
      case rel => exact ⟨k + 1, by omega, by go_num, below_drewN hbe _⟩
      case measure => simp [intOf]; omega
    · have hk2 : k = L.length := by omega
      subst hk2
      go_wp2
      go_ret
      exact ⟨rfl, hbe⟩
theorem two_words : (wdT (⟨#[97, 32, 98, 32, 59, 32, 99]⟩ : ByteArray).data.toList).length = 2 := by decide +kernel
set_option maxHeartbeats 2000000 in
theorem asmWords_any (s t : ByteArray) (w : World) (hs : s.size ≤ 2000000) (ht : t.size ≤ 2000000) (hV : Vars w) : Calls Tryd.prog 3 #[.string s, .string t] w fun e w' => e = .returned (.bool true) ∧ Below w.heap.size w w' := by
  have hVH : Hid (∀ W, Below w.heap.size w W → Vars W) := fun W h => hV.later h
  have c1 := anum_any t ht w hV
  have c2 : ∀ W, Below w.heap.size w W → Calls Tryd.prog 6 #[.string t] W (NuP t.data.toList W) := fun W h => rnum_any t ht W (hVH.out W h).tb
  have c3 : ∀ W, Below w.heap.size w W → Calls Tryd.prog 7 #[.string s] W _ := fun W h => awords_any s hs W (hVH.out W h)
  have c4 : ∀ W, Calls Tryd.prog 9 #[.string s] W _ := fun W => rwords_any s hs W
  have c5 : ∀ W, Below w.heap.size w W → Calls Tryd.prog 7 #[.string ⟨#[97, 32, 98, 32, 59, 32, 99]⟩] W fun e w' => ∃ va vc, e = .returned (.slice va 2 vc) ∧ Below W.heap.size W w' := fun W h => (awords_any ⟨#[97, 32, 98, 32, 59, 32, 99]⟩ (by decide) W (hVH.out W h)).mono fun e w' ⟨va, vc, he, _, hb⟩ => ⟨va, vc, by rw [he, two_words], hb⟩
  clear hV
  go_enter Tryd.func3, Tryd.ntmps3
  go_upto_region 2 with (go_at_call 5; (with_reducible refine c1.mono ?_); rintro e w2 ⟨v, b, rfl, hR, hb2⟩)
  have x2 := c2 w2 hb2
  go_upto_region 3 with (go_at_call 6; (with_reducible refine x2.mono ?_); rintro e w3 ⟨v', b', rfl, hR', hb3⟩)
  obtain ⟨rfl, rfl⟩ := hR.one hR'
  have h3 : Hid (Below w.heap.size w w3) := bthen hb2 hb3
  have x3 := c3 w3 h3.out
  clear hR hR' hb2 hb3 x2 c1 c2
  go_upto_region 4 with (go_at_call 7; (with_reducible refine x3.mono ?_); rintro e w4 ⟨va, vc, rfl, hr4, hb4⟩)
  have h4 : Hid (Below w.heap.size w w4 ∧ Rows w4 1 va vc ((wdT s.data.toList).map bsC)) := ⟨bthen h3.out hb4, hr4⟩
  have x4 := c4 w4
  generalize wdT s.data.toList = X at *
  clear hr4 hb4 x3 c3 h3 c4
  go_wp2_with (first
    | (go_at_call 9; (with_reducible refine x4.mono ?_); rintro e w5 ⟨ua, uc, rfl, hr5, hb5⟩; (have h5 : Hid (Below w.heap.size w w5) := bthen h4.out.1 hb5); (have x5 := sameTexts_any X va ua vc uc w5 (h4.out.2.later hb5) hr5); clear hr5 hb5 x4 h4)
    | (go_at_call 8; (with_reducible refine x5.mono ?_); rintro e w6 ⟨rfl, hb6⟩; (have h6 : Hid (Below w.heap.size w w6) := bthen h5.out hb6); (have x6 := c5 w6 h6.out); clear hb6 x5 h5)
    | (go_at_call 7; (with_reducible refine x6.mono ?_); rintro e w7 ⟨ta, tc, rfl, hb7⟩; (have h7 : Hid (Below w.heap.size w w7) := bthen h6.out hb7); clear hb7 x6))
  go_ret
  exact ⟨rfl, h7.out⟩
end Go.Proofs.YtgmpdnmheiblpaaDoor.pg
