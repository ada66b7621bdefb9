/- The texts of clocks, as plain mathematics: what is between the brackets, its pieces, their numbers. -/
import Derived.Test.YtodkmmmbomoheaaDoorCk9
import Derived.Lib.SlTrimSet
import Derived.Lib.Split
import Derived.Lib.SplitLaws
import Derived.Lib.CountLaws
import Derived.Lib.IndexBytes
import Derived.Lib.ParseIntBTie
namespace Go.Proofs.YtodkmmmbomoheaaDoor.pg
open Go.Lib
set_option linter.unusedVariables false
set_option linter.unusedSimpArgs false
set_option maxRecDepth 100000
theorem dig_toNat (d : Nat) (h : d < 10) : (UInt8.ofNat (48 + d)).toNat = 48 + d := by
  rw [UInt8.toNat_ofNat']; omega
theorem dig_all (u : Nat) : ∀ c ∈ decDigits u, 48 ≤ c.toNat ∧ c.toNat ≤ 57 := by
  induction u using Nat.strongRecOn with
  | _ u ih =>
    rw [decDigits]
    by_cases h : u < 10
    · rw [dif_pos h]; intro c hc; simp only [List.mem_singleton] at hc; rw [hc, dig_toNat u h]; omega
    · rw [dif_neg h]
      intro c hc
      rw [List.mem_append, List.mem_singleton] at hc
      rcases hc with hc | rfl
      · exact ih (u / 10) (by omega) c hc
      · rw [dig_toNat _ (by omega)]; omega
theorem dig_ne (u : Nat) : decDigits u ≠ [] := by
  rw [decDigits]; split <;> simp
theorem num_list (n : Int) : (numT n).data.toList = itoa n := by simp [numT]
theorem num_dec {n : Int} (h : okC n) : itoa n = decDigits n.toNat := by
  unfold itoa; rw [if_neg (by unfold okC at h; omega)]
theorem num_dig {n : Int} (h : okC n) : ∀ c ∈ itoa n, 48 ≤ c.toNat ∧ c.toNat ≤ 57 := by rw [num_dec h]; exact dig_all _
theorem num_ne {n : Int} (h : okC n) : itoa n ≠ [] := by rw [num_dec h]; exact dig_ne _
theorem mid_eq (x : Ck) : midT x = itoa x.c0 ++ 44 :: (itoa x.c1 ++ 44 :: (itoa x.c2 ++ 44 :: (itoa x.c3 ++ 44 :: (itoa x.c4 ++ 44 :: itoa x.c5)))) := by
  unfold midT Ck.list
  simp only [List.map_cons, List.map_nil, num_list]
  rw [join_cons]
  simp [joinTail]
theorem text_list (x : Ck) : (textK x).data.toList = 60 :: (midT x ++ [62]) := by
  unfold textK
  simp [ByteArray.data_append]
theorem not_44 {c : UInt8} (h : 48 ≤ c.toNat ∧ c.toNat ≤ 57) : c ≠ 44 := fun q => by subst q; simp at h
theorem in_set {c : UInt8} (h : 48 ≤ c.toNat ∧ c.toNat ≤ 57) : ([60, 62] : List UInt8).contains c = false := by
  rw [Bool.eq_false_iff]
  intro q
  simp only [List.contains_cons, List.contains_nil, Bool.or_false, Bool.or_eq_true, beq_iff_eq] at q
  rcases q with rfl | rfl
  · simp at h
  · simp at h
theorem drop_head {p : UInt8 → Bool} {c : UInt8} {l : List UInt8} (h : p c = false) : (c :: l).dropWhile p = c :: l := by
  rw [List.dropWhile_cons, h]; rfl
/-- Without its brackets. -/
theorem trim_text (x : Ck) (hx : x.ok) : trimS (textK x).data.toList [60, 62] = midT x := by
  rw [Ck.ok_iff] at hx
  obtain ⟨h0, _, _, _, _, h5⟩ := hx
  obtain ⟨c0, r0, e0⟩ : ∃ c r, itoa x.c0 = c :: r := List.exists_cons_of_ne_nil (num_ne h0)
  have hc0 := num_dig h0 c0 (by rw [e0]; simp)
  obtain ⟨r5, c5, e5⟩ : ∃ r c, itoa x.c5 = r ++ [c] := ⟨(itoa x.c5).dropLast, (itoa x.c5).getLast (num_ne h5), (List.dropLast_concat_getLast (num_ne h5)).symm⟩
  have hc5 := num_dig h5 c5 (by rw [e5]; simp)
  obtain ⟨m, hm⟩ : ∃ m, midT x = m ++ [c5] := ⟨itoa x.c0 ++ 44 :: (itoa x.c1 ++ 44 :: (itoa x.c2 ++ 44 :: (itoa x.c3 ++ 44 :: (itoa x.c4 ++ 44 :: r5)))), by rw [mid_eq, e5]; simp⟩
  have hh : ∃ m2, midT x = c0 :: m2 := ⟨_, by rw [mid_eq, e0]; rfl⟩
  have hR : trimRightS (60 :: (midT x ++ [62])) [60, 62] = 60 :: midT x := by
    unfold trimRightS
    rw [hm]
    simp only [List.reverse_cons, List.reverse_append, List.reverse_nil, List.nil_append, List.cons_append, List.append_assoc]
    rw [List.dropWhile_cons, if_pos (by decide), drop_head (in_set hc5)]
    simp
  unfold trimS
  rw [text_list, hR]
  unfold trimLeftS
  obtain ⟨m2, hm2⟩ := hh
  rw [List.dropWhile_cons, if_pos (by decide), hm2, drop_head (in_set hc0)]
theorem ix_dig (d r : List UInt8) (h : ∀ c ∈ d, c ≠ 44) : indexByte (d ++ 44 :: r) 44 = d.length := by
  induction d with
  | nil => simp [indexByte]
  | cons c d ih =>
    have ih' := ih fun x hx => h x (by simp [hx])
    have hc : (c == 44) = false := by simpa using h c (by simp)
    simp only [List.cons_append, indexByte, hc, Bool.false_eq_true, if_false, ih']
    rw [if_neg (by simp)]
    simp
theorem splitK_hit (d r : List UInt8) (k : Nat) (h : ∀ c ∈ d, c ≠ 44) : splitK [44] 0 (k + 1) (d ++ 44 :: r) = d :: splitK [44] 0 k r := by
  have e : index (d ++ 44 :: r) [44] = d.length := by rw [index_one]; exact ix_dig d r h
  conv => lhs; unfold splitK
  rw [e, if_neg (by simp)]
  simp
/-- The pieces of a text between its commas, without its brackets. -/
def inner (s : ByteArray) : ByteArray := ⟨(trimS s.data.toList [60, 62]).toArray⟩
def pieces (s : ByteArray) : List ByteArray := splitB ⟨#[44]⟩ 0 (countB (inner s) ⟨#[44]⟩) (inner s)
theorem pieces_len (s : ByteArray) : (pieces s).length = countB (inner s) ⟨#[44]⟩ + 1 := splitB_all _ (by decide) 0 _ _ rfl
theorem count_dig {d : List UInt8} (h : ∀ c ∈ d, c ≠ 44) : d.count 44 = 0 := List.count_eq_zero.mpr fun q => h 44 q rfl
theorem no44 {n : Int} (h : okC n) : ∀ c ∈ itoa n, c ≠ 44 := fun c hc => not_44 (num_dig h c hc)
theorem count_mid (x : Ck) (hx : x.ok) : (midT x).count 44 = 5 := by
  rw [Ck.ok_iff] at hx
  obtain ⟨h0, h1, h2, h3, h4, h5⟩ := hx
  rw [mid_eq]
  simp only [List.count_append, List.count_cons_self, count_dig (no44 h0), count_dig (no44 h1), count_dig (no44 h2), count_dig (no44 h3), count_dig (no44 h4), count_dig (no44 h5)]
theorem bytes_ext {a b : ByteArray} (h : a.data.toList = b.data.toList) : a = b := by
  cases a; cases b; simp at h; simp [h]
theorem map_ext {l m : List ByteArray} (h : l.map (·.data.toList) = m.map (·.data.toList)) : l = m := by
  induction l generalizing m with
  | nil => cases m with | nil => rfl | cons _ _ => simp at h
  | cons a l ih =>
    cases m with
    | nil => simp at h
    | cons b m =>
      simp only [List.map_cons, List.cons.injEq] at h
      rw [bytes_ext h.1, ih h.2]
theorem pieces_text (x : Ck) (hx : x.ok) : pieces (textK x) = x.list.map numT := by
  have hin : inner (textK x) = ⟨(midT x).toArray⟩ := by unfold inner; rw [trim_text x hx]
  have hc : countB (inner (textK x)) ⟨#[44]⟩ = 5 := by
    show count (inner (textK x)).data.toList [44] = 5
    rw [hin, count_one]; exact count_mid x hx
  unfold pieces
  rw [hc, hin]
  apply map_ext
  rw [splitB_data]
  show splitK [44] 0 5 (midT x) = _
  rw [Ck.ok_iff] at hx
  obtain ⟨h0, h1, h2, h3, h4, h5⟩ := hx
  rw [mid_eq, splitK_hit _ _ 4 (no44 h0), splitK_hit _ _ 3 (no44 h1), splitK_hit _ _ 2 (no44 h2), splitK_hit _ _ 1 (no44 h3), splitK_hit _ _ 0 (no44 h4)]
  simp [Ck.list, num_list, splitK]
theorem pm_dec (u : Nat) : ∀ r, u < 18446744073709551616 → parseUintM (2 ^ 64 - 1) 0 (decDigits u ++ r) = parseUintM (2 ^ 64 - 1) u r := by
  induction u using Nat.strongRecOn with
  | _ u ih =>
    intro r hu
    rw [decDigits]
    by_cases h : u < 10
    · rw [dif_pos h]
      simp only [List.cons_append, List.nil_append, parseUintM, dig_toNat u h]
      rw [if_pos (by omega), if_neg (by omega), if_neg (by omega)]
      rw [show 0 * 10 + (48 + u - 48) = u by omega]
    · rw [dif_neg h, List.append_assoc, ih (u / 10) (by omega) _ (by omega)]
      simp only [List.cons_append, List.nil_append, parseUintM, dig_toNat (u % 10) (by omega)]
      rw [if_pos (by omega), if_neg (by omega), if_neg (by omega)]
      rw [show u / 10 * 10 + (48 + u % 10 - 48) = u by omega]
theorem atoi_num {n : Int} (h : okC n) : atoiAll (itoa n) = .ok n := by
  rw [← parseIntB_64, num_dec h]
  have hb : 0 ≤ n ∧ n ≤ 1073741824 := h
  have e2 : parseUintB 64 (decDigits n.toNat) = .ok n.toNat := by
    rw [parseUintB, if_neg (dig_ne _)]
    have := pm_dec n.toNat [] (by omega)
    rw [List.append_nil] at this
    rw [this]; rfl
  obtain ⟨c, r, e⟩ : ∃ c r, decDigits n.toNat = c :: r := List.exists_cons_of_ne_nil (dig_ne _)
  have hc := dig_all n.toNat c (by rw [e]; simp)
  rw [e] at e2 ⊢
  have n43 : ¬ c.toNat = 43 := by omega
  have n45 : ¬ c.toNat = 45 := by omega
  simp only [parseIntB, n43, n45, or_self, if_false, e2, not_false_eq_true, true_and, false_and]
  rw [if_neg (by omega)]
  congr 1; omega
/-- The numbers of a text's pieces are a clock's. -/
def good (s : ByteArray) (a : Ck) : Prop := (pieces s).length = 6 ∧ ∀ (i : Nat) (d : ByteArray), (pieces s)[i]? = some d → ∃ v, a.list[i]? = some v ∧ atoiAll d.data.toList = .ok v
theorem good_text {x a : Ck} (hx : x.ok) (h : good (textK x) a) : a = x := by
  have hp := pieces_text x hx
  apply Ck.ext_list
  apply List.ext_getElem?
  intro i
  by_cases hi : i < 6
  · obtain ⟨n, hn, hm⟩ := get_lt x.list i (by rw [Ck.list_len]; exact hi)
    obtain ⟨v, hv, ha⟩ := h.2 i (numT n) (by rw [hp, List.getElem?_map, hn]; rfl)
    rw [num_list, atoi_num (hx n hm)] at ha
    cases ha
    rw [hv, hn]
  · rw [List.getElem?_eq_none (by rw [Ck.list_len]; omega), List.getElem?_eq_none (by rw [Ck.list_len]; omega)]
theorem good_self {x : Ck} (hx : x.ok) : good (textK x) x := by
  have hp := pieces_text x hx
  refine ⟨by rw [hp]; simp [Ck.list], fun i d hd => ?_⟩
  rw [hp, List.getElem?_map, Option.map_eq_some_iff] at hd
  obtain ⟨n, hn, rfl⟩ := hd
  exact ⟨n, hn, by rw [num_list, atoi_num (hx n (List.mem_of_getElem? hn))]⟩
theorem text_inj {x y : Ck} (hx : x.ok) (hy : y.ok) (h : textK x = textK y) : x = y := by
  have := good_self hx
  rw [h] at this
  exact good_text hy this
/-- What a text is read as. -/
def parseP (s : ByteArray) (R : Ck) (c : Int) : Prop := (65536 < s.size ∧ R = zeroK ∧ c = 2) ∨ (s.size ≤ 65536 ∧ R.ok ∧ s = textK R ∧ c = 0) ∨ (s.size ≤ 65536 ∧ (∀ x : Ck, x.ok → s ≠ textK x) ∧ R = zeroK ∧ c = 8)
theorem parse_some (s : ByteArray) : ∃ R c, parseP s R c := by
  by_cases h : 65536 < s.size
  · exact ⟨zeroK, 2, .inl ⟨h, rfl, rfl⟩⟩
  · by_cases h2 : ∃ x : Ck, x.ok ∧ s = textK x
    · obtain ⟨x, hx, e⟩ := h2
      exact ⟨x, 0, .inr (.inl ⟨by omega, hx, e, rfl⟩)⟩
    · exact ⟨zeroK, 8, .inr (.inr ⟨by omega, fun x hx e => h2 ⟨x, hx, e⟩, rfl, rfl⟩)⟩
theorem parse_text {x : Ck} (hx : x.ok) : parseP (textK x) x 0 := by
  refine .inr (.inl ⟨?_, hx, rfl, rfl⟩)
  have h1 : (textK x).size = (textK x).data.toList.length := size_eq _
  rw [h1, text_list]
  have := mid_len x hx
  simp only [List.length_cons, List.length_append, List.length_nil]
  omega
/-- Where no clock's text is read. -/
theorem parse_no {s : ByteArray} {R : Ck} {c : Int} (h : parseP s R c) (hs : s.size ≤ 65536) (hno : ∀ x : Ck, x.ok → s ≠ textK x) : R = zeroK ∧ c = 8 := by
  rcases h with ⟨q, _⟩ | ⟨_, q1, q2, _⟩ | ⟨_, _, q1, q2⟩
  · omega
  · exact absurd q2 (hno R q1)
  · exact ⟨q1, q2⟩
theorem parse_yes {s : ByteArray} {R a : Ck} {c : Int} (h : parseP s R c) (ha : a.ok) (hs : s = textK a) : R = a ∧ c = 0 := by
  rcases h with ⟨q, _⟩ | ⟨_, q1, q2, q3⟩ | ⟨_, q, _⟩
  · rcases parse_text ha with ⟨q', _, _⟩ | ⟨q', _⟩ | ⟨q', _⟩
    · rename_i hh; cases hh
    · rw [hs] at q; omega
    · rw [hs] at q; omega
  · exact ⟨text_inj q1 ha (q2.symm.trans hs), q3⟩
  · exact absurd hs (q a ha)
end Go.Proofs.YtodkmmmbomoheaaDoor.pg
