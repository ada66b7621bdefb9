/- How the document's own reader of clocks goes through a text, as plain mathematics. -/
import Derived.Test.YtodkmmmbomoheabDoorPa0
namespace Go.Proofs.YtodkmmmbomoheabDoor.pg
open Go.Lib
set_option linter.unusedVariables false
set_option linter.unusedSimpArgs false
set_option maxRecDepth 100000
def isDg (c : UInt8) : Bool := decide (48 ≤ c.toNat) && decide (c.toNat ≤ 57)
/-- What is left of the text, at the number n, digits seen or not, the clock so far: the clock at the end, if none is wrong. -/
def rp : List UInt8 → Nat → Bool → Ck → Option Ck
  | [], _, _, a => some a
  | c :: r, n, d, a =>
    if 6 ≤ n then some a
    else if isDg c then
      (if 1073741824 < (a.list[n]?.getD 0) * 10 + ((c.toNat : Int) - 48) then none else rp r n true (a.put n ((a.list[n]?.getD 0) * 10 + ((c.toNat : Int) - 48))))
    else if d then rp r (n + 1) false a else none
theorem put_get (a : Ck) (n : Nat) (hn : n < 6) (v : Int) : (a.put n v).list[n]? = some v := by
  rw [put_list, List.getElem?_set_self (by rw [Ck.list_len]; exact hn)]
theorem put_put (a : Ck) (n : Nat) (v w : Int) : (a.put n v).put n w = a.put n w := by
  apply Ck.ext_list
  rw [put_list, put_list, put_list, List.set_set]
theorem isDg_of {c : UInt8} (h : 48 ≤ c.toNat ∧ c.toNat ≤ 57) : isDg c = true := by simp [isDg, h]
theorem rp_dec (n : Nat) (hn : n < 6) (a : Ck) (ha : a.list[n]? = some 0) (u : Nat) : ∀ (d : Bool) (r : List UInt8), u ≤ 1073741824 → rp (decDigits u ++ r) n d a = rp r n true (a.put n (u : Int)) := by
  induction u using Nat.strongRecOn with
  | _ u ih =>
    intro d r hu
    rw [decDigits]
    by_cases h : u < 10
    · rw [dif_pos h]
      have hd : isDg (UInt8.ofNat (48 + u)) = true := isDg_of (by rw [dig_toNat u h]; omega)
      simp only [List.cons_append, List.nil_append, rp, hd, dig_toNat u h, ha, Option.getD_some]
      rw [if_neg (by omega), if_pos trivial, if_neg (by omega)]
      congr 2
      omega
    · rw [dif_neg h, List.append_assoc, ih (u / 10) (by omega) d _ (by omega)]
      have hd : isDg (UInt8.ofNat (48 + u % 10)) = true := isDg_of (by rw [dig_toNat _ (by omega)]; omega)
      simp only [List.cons_append, List.nil_append, rp, hd, dig_toNat (u % 10) (by omega), put_get a n hn, Option.getD_some, put_put]
      rw [if_neg (by omega), if_pos trivial, if_neg (by omega)]
      congr 2
      omega
theorem rp_num (n : Nat) (hn : n < 6) (a : Ck) (ha : a.list[n]? = some 0) (v : Int) (hv : okC v) (d : Bool) (r : List UInt8) : rp (itoa v ++ r) n d a = rp r n true (a.put n v) := by
  have hb : 0 ≤ v ∧ v ≤ 1073741824 := hv
  rw [num_dec hv, rp_dec n hn a ha v.toNat d r (by omega)]
  congr 2
  omega
theorem rp_sep (c : UInt8) (hc : isDg c = false) (n : Nat) (hn : n < 6) (a : Ck) (r : List UInt8) : rp (c :: r) n true a = rp r (n + 1) false a := by
  simp only [rp, hc]
  rw [if_neg (by omega)]
  simp
/-- The text of a clock is gone through to that clock. -/
theorem rp_text (x : Ck) (hx : x.ok) : rp (midT x ++ [62]) 0 false zeroK = some x := by
  rw [Ck.ok_iff] at hx
  obtain ⟨h0, h1, h2, h3, h4, h5⟩ := hx
  have e44 : isDg 44 = false := by decide
  have e62 : isDg 62 = false := by decide
  rw [mid_eq]
  simp only [List.append_assoc, List.cons_append]
  rw [rp_num 0 (by omega) zeroK rfl x.c0 h0, rp_sep 44 e44 0 (by omega)]
  rw [rp_num 1 (by omega) _ rfl x.c1 h1, rp_sep 44 e44 1 (by omega)]
  rw [rp_num 2 (by omega) _ rfl x.c2 h2, rp_sep 44 e44 2 (by omega)]
  rw [rp_num 3 (by omega) _ rfl x.c3 h3, rp_sep 44 e44 3 (by omega)]
  rw [rp_num 4 (by omega) _ rfl x.c4 h4, rp_sep 44 e44 4 (by omega)]
  rw [rp_num 5 (by omega) _ rfl x.c5 h5, rp_sep 62 e62 5 (by omega)]
  simp [rp, Ck.put]
/-- What is gone through stays right. -/
theorem put_ok {a : Ck} (ha : a.ok) (n : Nat) {v : Int} (hv : okC v) : (a.put n v).ok := by
  intro m hm
  rw [put_list] at hm
  rcases List.mem_or_eq_of_mem_set hm with h | rfl
  · exact ha m h
  · exact hv
theorem rp_ok : ∀ (l : List UInt8) (n : Nat) (d : Bool) (a b : Ck), a.ok → rp l n d a = some b → b.ok
  | [], n, d, a, b, ha, h => by simp only [rp, Option.some.injEq] at h; rw [← h]; exact ha
  | c :: r, n, d, a, b, ha, h => by
    rw [rp] at h
    by_cases h6 : 6 ≤ n
    · rw [if_pos h6] at h; cases h; exact ha
    · rw [if_neg h6] at h
      by_cases hd : isDg c = true
      · rw [if_pos hd] at h
        by_cases hv : 1073741824 < (a.list[n]?.getD 0) * 10 + ((c.toNat : Int) - 48)
        · rw [if_pos hv] at h; cases h
        · rw [if_neg hv] at h
          refine rp_ok r n true _ b (put_ok ha n ⟨?_, by omega⟩) h
          obtain ⟨m, hm, hmm⟩ := get_lt a.list n (by rw [Ck.list_len]; omega)
          have := ha m hmm
          unfold okC at this
          simp only [isDg, Bool.and_eq_true, decide_eq_true_eq] at hd
          rw [hm]
          simp only [Option.getD_some]
          omega
      · rw [if_neg hd] at h
        cases d with
        | true => exact rp_ok r (n + 1) false a b ha (by simpa using h)
        | false => simp at h
end Go.Proofs.YtodkmmmbomoheabDoor.pg
