/- The contracts of the document's own Bytes, Put and PutInt. -/
import Derived.Test.YtecimplpfghikaaPut
import Derived.Test.YtecimplpfghikaaZag
import Derived.Laws.AppendOwnNone
namespace Go.Proofs.Ytecimplpfghikaa.octet
open Go.ChangeShapes Go.WideShapes Go.ChangeAt Go.RowKit
open wrapped
set_option linter.unusedVariables false
theorem owns_shape {w : World} {base n : Nat} {v : Value} {f : Nat → Nat} (h : w.ownsRow base 5 1 v n (bl f n)) (hn : 0 < n) : ∃ g c, v = mine g n c ∧ Owns w base g n c f := by
  rcases h.2 with ⟨_, h0⟩ | ⟨g, c, cur, rfl, hr⟩
  · omega
  · exact ⟨g, c, rfl, h.1, .inr ⟨g, c, cur, rfl, hr⟩⟩
theorem owns_kept {w w' : World} {base n : Nat} {v : Value} {xs : List Value} (h : w.ownsRow base 5 1 v n xs) (hb : Below w.heap.size w w') : w'.ownsRow base 5 1 v n xs := by
  refine ⟨h.1, ?_⟩
  rcases h.2 with h' | ⟨g, c, cur, rfl, hbs, hg, hr⟩
  · exact .inl h'
  · exact .inr ⟨g, c, cur, rfl, hbs, (hb.block g (Array.getElem?_eq_some_iff.mp hg).1).trans hg, hr⟩
theorem Owns.cells {w : World} {base g n c : Nat} {f : Nat → Nat} (h : Owns w base g n c f) (j : Nat) (u : Value) (hj : (bl f n)[j]? = some u) : w.cell? ((⟨g, 0, none⟩ : Addr).add j) = some u := by
  have hjn : j < n := by
    have := (List.getElem?_eq_some_iff.mp hj).1
    rwa [bl_length] at this
  have := World.ownsRow.cellAt h j (by omega)
  rw [hj] at this
  rw [← this]
  by_cases h0 : j = 0
  · subst h0; rfl
  · simp [Addr.add, h0]
theorem ownBlock_ge {w : World} {base n : Nat} {v : Value} {xs : List Value} (h : w.ownsRow base 5 1 v n xs) : ∀ k, v.ownBlock = some k → base ≤ k := by
  intro k hk
  rcases h.2 with ⟨rfl, _⟩ | ⟨g, c, cur, rfl, hbs, _⟩
  · simp [Value.ownBlock] at hk
  · simp [Value.ownBlock] at hk; omega
theorem more_bl {w : World} {base k : Nat} {v : Value} {g : Nat → Nat} (h : w.ownsRow base 5 1 v (k + 1) (bl g k ++ [Value.int .u8 ((g k : Nat) : Int)])) : w.ownsRow base 5 1 v (k + 1) (bl g (k + 1)) := by
  rw [one_bl, bl_cat] at h
  have e : bl (cat g k fun _ => g k) (k + 1) = bl g (k + 1) := bl_congr _ _ _ fun i hi => by
    unfold cat
    by_cases h1 : i < k
    · rw [if_pos h1]
    · rw [if_neg h1, show i = k by omega]
  rw [e] at h
  exact h
set_option maxHeartbeats 1000000 in
set_option maxRecDepth 100000 in
theorem refbytes_walk (g : Nat → Nat) (S : Nat) (q : Nat → Int) (w : World) (hb1 : 1 ≤ S) (hb2 : S ≤ 10) (hq : ∀ k, 0 ≤ q k ∧ q k < 18446744073709551616) (hqs : ∀ k, Hid (q k / 128 = q (k + 1)))
    (hmore : ∀ k, k + 1 < S → 128 ≤ q k ∧ q k % 128 + 128 = ((g k : Nat) : Int)) (hlast : q (S - 1) < 128 ∧ q (S - 1) = ((g (S - 1) : Nat) : Int)) :
    Calls Try.prog 16 #[.int .u64 (q 0)] w fun e w' => ∃ b c, e = .returned (mine b S c) ∧ Owns w' w.heap.size b S c g ∧ Below w.heap.size w w' := by
  obtain ⟨i0, hi, hz0, hz1, hz2⟩ := info_parts info5
  go_enter Try.func16, Try.ntmps16
  go_wp2
  go_loopw [0, 3] (fun x out wr => ∃ k : Nat, k + 1 ≤ S ∧ x = .int .u64 (q k) ∧ wr.ownsRow w.heap.size 5 1 out k (bl g k) ∧ Below w.heap.size w wr) (fun x _ _ => (intOf x).toNat)
  case atStart => exact ⟨0, by omega, rfl, World.ownsRow_nil _ _ _ _, Below.refl _ _⟩
  case round =>
    rename_i out
    obtain ⟨k, hk, rfl, ho, hbl⟩ := hrel
    obtain ⟨q0, q1⟩ := hq k
    have hqk := hqs k
    have hsz := hbl.size
    by_cases hkS : k + 1 < S
    · obtain ⟨hge, hby⟩ := hmore k hkS
      clear hmore hlast hq hqs
      go_wp2_with (at_builtin; (refine wpList_append_own _ rfl (.tmp 6) (.tmp 11) 22 rfl w.heap.size 5 i0 (.int .u8 0) 1 1 Try.underlying22 hi hz0 hz1 hz2 rfl (by decide) _ k (bl g k) rfl (ho.alloc _) ⟨wr.heap.size, 0, none⟩ 1 1 [.int .u8 ((g k : Nat) : Int)] rfl rfl (one_cell _ _ _) (one_one _) (by unfold maxLen; omega) (by omega) (by simp; omega) ?_; intro v3 w3 ho3 hg3 hn3))
      have ho4 := more_bl (g := g) ho3
      have hb4 : Below w.heap.size w w3 := (hbl.alloc hsz _).grown hg3 (by simp; omega) (ownBlock_ge ho)
      clear ho3 hg3 ho hbl hn3
      go_roundw
      case rel => exact ⟨k + 1, by omega, by rw [hqk.out], ho4, hb4⟩
      case measure => simp [intOf]; omega
    · have hkS2 : k = S - 1 := by omega
      subst hkS2
      obtain ⟨hl1, hl2⟩ := hlast
      have hl3 : Hid (q (S - 1) = ((g (S - 1) : Nat) : Int)) := hl2
      obtain ⟨qq, hqq⟩ : ∃ qq, Hid (q (S - 1) = qq) := ⟨_, rfl⟩
      have hq4 : qq = ((g (S - 1) : Nat) : Int) := by rw [← hqq.out]; exact hl2
      rw [hqq.out] at q0 q1 hl1 ⊢
      have hmod : qq % 256 = ((g (S - 1) : Nat) : Int) := by omega
      have hq5 : Hid (qq = ((g (S - 1) : Nat) : Int)) := hq4
      clear hmore hq hqs hl2 hl3 hqk hq4 hqq hmod
      go_wp2_with (at_builtin; (refine wpList_append_own _ rfl (.tmp 15) (.tmp 18) 22 rfl w.heap.size 5 i0 (.int .u8 0) 1 1 Try.underlying22 hi hz0 hz1 hz2 rfl (by decide) _ (S - 1) (bl g (S - 1)) rfl (ho.alloc _) ⟨wr.heap.size, 0, none⟩ 1 1 [.int .u8 qq] rfl rfl (one_cell _ _ _) (one_one _) (by unfold maxLen; omega) (by omega) (by simp; omega) ?_; intro v3 w3 ho3 hg3 hn3))
      rw [hq5.out] at ho3
      have ho4 := more_bl (g := g) ho3
      have hb4 : Below w.heap.size w w3 := (hbl.alloc hsz _).grown hg3 (by simp; omega) (ownBlock_ge ho)
      rw [show S - 1 + 1 = S by omega] at ho4
      obtain ⟨b, c, rfl, ho5⟩ := owns_shape ho4 (by omega)
      clear ho3 hg3 ho hbl hn3 ho4
      go_ret
      exact ⟨b, c, rfl, ho5, hb4⟩
theorem refbytes_any (x : Nat) (X : Int) (w : World) (hx : x < 18446744073709551616) (hX : X = ((x : Nat) : Int)) :
    Calls Try.prog 16 #[.int .u64 X] w fun e w' => ∃ b c, e = .returned (mine b (szN x) c) ∧ Owns w' w.heap.size b (szN x) c (gr x) ∧ Below w.heap.size w w' := by
  subst hX
  obtain ⟨hb1, hb2⟩ := szN_bd x hx
  obtain ⟨gl1, gl2⟩ := gr_last x hx
  have e0 : ((x : Nat) : Int) = (fun k => ((x / 128 ^ k : Nat) : Int)) 0 := by
    show ((x : Nat) : Int) = ((x / 128 ^ 0 : Nat) : Int)
    rw [Nat.pow_zero, Nat.div_one]
  rw [e0]
  refine refbytes_walk (gr x) (szN x) (fun k => ((x / 128 ^ k : Nat) : Int)) w hb1 hb2 ?_ ?_ ?_ ?_
  · intro k
    have := Nat.div_le_self x (128 ^ k)
    show (0 : Int) ≤ ((x / 128 ^ k : Nat) : Int) ∧ ((x / 128 ^ k : Nat) : Int) < 18446744073709551616
    generalize x / 128 ^ k = d at *
    omega
  · intro k
    show ((x / 128 ^ k : Nat) : Int) / 128 = ((x / 128 ^ (k + 1) : Nat) : Int)
    rw [Nat.pow_succ, ← Nat.div_div_eq_div_mul]
    rfl
  · intro k hk
    have h1 := (sz_pow x hx).2 (by omega)
    have h2 : 128 ≤ x / 128 ^ k := by
      rw [Nat.le_div_iff_mul_le (Nat.pow_pos (by decide)), Nat.mul_comm, ← Nat.pow_succ]
      exact Nat.le_trans (Nat.pow_le_pow_right (by decide) (by omega)) h1
    show (128 : Int) ≤ ((x / 128 ^ k : Nat) : Int) ∧ ((x / 128 ^ k : Nat) : Int) % 128 + 128 = _
    rw [gr_more x k hk]
    generalize x / 128 ^ k = d at *
    omega
  · show ((x / 128 ^ (szN x - 1) : Nat) : Int) < 128 ∧ ((x / 128 ^ (szN x - 1) : Nat) : Int) = _
    rw [gl1]
    generalize x / 128 ^ (szN x - 1) = d at *
    omega
set_option maxHeartbeats 1000000 in
set_option maxRecDepth 100000 in
theorem refput_any (a : Option Addr) (n c : Nat) (f : Nat → Nat) (x : Nat) (X : Int) (w : World) (hr : Row w a n f) (hn : a = none → n = 0 ∧ c = 0) (hl : n ≤ 140737488353000) (hx : x < 18446744073709551616) (hX : X = ((x : Nat) : Int)) :
    Calls Try.prog 13 #[.slice a n c, .int .u64 X] w fun e w' => ∃ b c, e = .returned (mine b (n + szN x) c) ∧ Owns w' w.heap.size b (n + szN x) c (cat f n (gr x)) ∧ Below w.heap.size w w' := by
  obtain ⟨i0, hi, hz0, hz1, hz2⟩ := info_parts info5
  obtain ⟨hb1, hb2⟩ := szN_bd x hx
  have c1 := fun w => refbytes_any x X w hx hX
  generalize szN x = S at *
  generalize gr x = g at *
  clear hx hX
  have src := fun ad ha => Row.cells hr ad ha
  have fin : ∀ v1 w1, w1.ownsRow w.heap.size 5 1 v1 n (bl f n) → Below w.heap.size w w1 → ∀ (b c2 : Nat) (w2 : World), Owns w2 w1.heap.size b S c2 g → Below w1.heap.size w1 w2 → w2.ownsRow w.heap.size 5 1 v1 n (bl f n) ∧ Below w.heap.size w w2 := fun v1 w1 h1 h2 b c2 w2 h3 h4 => ⟨owns_kept h1 h4, h2.trans (h4.mono h2.size)⟩
  cases a with
  | none =>
    obtain ⟨rfl, rfl⟩ := hn rfl
    have o0 : w.ownsRow w.heap.size 5 1 (.slice none 0 0) 0 (bl f 0) := World.ownsRow_nil _ _ _ _
    clear hr hn hl src
    go_enter Try.func13, Try.ntmps13
    go_wp2_with (first
      | (at_builtin; refine wpList_append_own_none rfl (.tmp 6) (.tmp 7) 22 rfl w.heap.size 5 i0 1 Try.underlying22 hi _ 0 (bl f 0) rfl o0 rfl ?_)
      | (go_at_call 16; refine (c1 _).mono ?_; rintro e w2 ⟨b, c2, rfl, ho2, hb2⟩)
      | (at_builtin; refine wpList_append_own _ rfl (.tmp 9) (.tmp 11) 22 rfl w.heap.size 5 i0 (.int .u8 0) 1 1 Try.underlying22 hi hz0 hz1 hz2 rfl (by decide) (.slice none 0 0) 0 (bl f 0) rfl (owns_kept o0 hb2) ⟨b, 0, none⟩ S c2 (bl g S) rfl (by rw [bl_length]; omega) (Owns.cells ho2) (bl_one g S) (by unfold maxLen; omega) (by omega) hb2.size ?_; intro v3 w3 ho3 hg3 hn3))
    rw [bl_cat, Nat.zero_add] at ho3
    have hb4 : Below w.heap.size w w3 := hb2.grown hg3 hb2.size (ownBlock_ge o0)
    obtain ⟨b3, c3, rfl, ho5⟩ := owns_shape ho3 (by omega)
    clear ho3 hg3 hn3
    go_ret
    exact ⟨b3, c3, rfl, ho5, hb4⟩
  | some ad =>
    have o0 : w.ownsRow w.heap.size 5 1 (.slice none 0 0) 0 [] := World.ownsRow_nil _ _ _ _
    have src' := src ad rfl
    have hlI : (n : Int) ≤ 140737488353000 := by omega
    clear hr hn hl src
    go_enter Try.func13, Try.ntmps13
    go_wp2_with (first
      | (at_builtin; refine wpList_append_own _ rfl (.tmp 6) (.tmp 7) 22 rfl w.heap.size 5 i0 (.int .u8 0) 1 1 Try.underlying22 hi hz0 hz1 hz2 rfl (by decide) (.slice none 0 0) 0 [] rfl o0 ad n c (bl f n) rfl (by rw [bl_length]; omega) src' (bl_one f n) (by unfold maxLen; omega) (by omega) (Nat.le_refl _) ?_; intro v1 w1 ho1 hg1 hn1; simp only [Nat.zero_add, List.nil_append] at ho1; have hb1w : Below w.heap.size w w1 := (Below.refl _ w).grown hg1 (Nat.le_refl _) (ownBlock_ge o0))
      | (go_at_call 16; refine (c1 _).mono ?_; rintro e w2 ⟨b, c2, rfl, ho2, hb2⟩)
      | (at_builtin; refine wpList_append_own _ rfl (.tmp 9) (.tmp 11) 22 rfl w.heap.size 5 i0 (.int .u8 0) 1 1 Try.underlying22 hi hz0 hz1 hz2 rfl (by decide) _ n (bl f n) rfl (owns_kept ho1 hb2) ⟨b, 0, none⟩ S c2 (bl g S) rfl (by rw [bl_length]; omega) (Owns.cells ho2) (bl_one g S) (by unfold maxLen; omega) (by omega) (Nat.le_trans hb1w.size hb2.size) ?_; intro v3 w3 ho3 hg3 hn3))
    rw [bl_cat] at ho3
    have hbw2 : Below w.heap.size w w2 := hb1w.trans (hb2.mono hb1w.size)
    have hb4 : Below w.heap.size w w3 := hbw2.grown hg3 hbw2.size (ownBlock_ge ho1)
    obtain ⟨b3, c3, rfl, ho5⟩ := owns_shape ho3 (by omega)
    clear ho3 hg3 hn3
    go_ret
    exact ⟨b3, c3, rfl, ho5, hb4⟩
theorem refputint_any (a : Option Addr) (n c : Nat) (f : Nat → Nat) (y : Int) (z : Nat) (w : World) (hr : Row w a n f) (hn : a = none → n = 0 ∧ c = 0) (hl : n ≤ 140737488353000) (h : -9223372036854775808 ≤ y) (g : y ≤ 9223372036854775807) (hz : z = (zg y).toNat) :
    Calls Try.prog 14 #[.slice a n c, .int .i64 y] w fun e w' => ∃ b c, e = .returned (mine b (n + szN z) c) ∧ Owns w' w.heap.size b (n + szN z) c (cat f n (gr z)) ∧ Below w.heap.size w w' := by
  have hb := zg_bd y h g
  have c1 := refzig_any y h g
  have c2 := refput_any a n c f z (zg y) w hr hn hl (by omega) (by omega)
  obtain ⟨Z, hZ⟩ : ∃ Z, Hid (zg y = Z) := ⟨_, rfl⟩
  rw [hZ.out] at c1 c2
  clear hb hz hr hl hn
  go_enter Try.func14, Try.ntmps14
  go_wp2_with (first | (go_at_call 37; with_reducible refine (c1 _).mono ?_; rintro e w' ⟨rfl, hw⟩; replace hw := hw.symm; subst hw) | (go_at_call 13; with_reducible refine c2.mono ?_; rintro e w2 ⟨b2, c2, rfl, ho2, hb2⟩))
  go_ret
  exact ⟨b2, c2, rfl, ho2, hb2⟩
end Go.Proofs.Ytecimplpfghikaa.octet
