/- What the document's Read reads of a witness's bytes, and what package witness reads: pure. -/
import Derived.Test.YtikkgfmhnmoalaaM21
import Derived.Test.YtikkgfmhnmoalaaM13
import Derived.Test.YtikkgfmhnmoalaaM14
import Derived.Deep.QuietTactic
import Derived.BigQuiet
import Derived.WalkSmall
namespace Go.Proofs.Ytikkgfmhnmoalaa.pg
open Go.ChangeShapes Go.WideShapes Go.ChangeAt Go.RowKit
set_option linter.unusedVariables false
set_option linter.unusedSimpArgs false
set_option maxRecDepth 100000
theorem gotten_part {f : Nat → Nat} {n k : Nat} (hn : 12 ≤ n) (hk : k ≤ n - 12) {X E R : Int} (h : octet.gotten (partF f) (n - 12) (k : Int) = (X, E, R)) : octet.gotten f (n - 4) ((8 + k : Nat) : Int) = (X, if R = 0 then 8 + E else 0, R) := by
  unfold octet.gotten at h ⊢
  rw [if_pos (by omega)] at h
  rw [if_pos (by omega)]
  simp only [Int.toNat_natCast] at h ⊢
  have e1 : (fun i => f (8 + k + i)) = fun i => partF f (k + i) := by funext i; show f _ = f (8 + (k + i)); rw [Nat.add_assoc]
  rw [e1, show n - 4 - (8 + k) = n - 12 - k by omega]
  generalize octet.run (fun i => partF f (k + i)) (n - 12 - k) 10 0 = r at *
  unfold octet.res at h ⊢
  simp only [Prod.mk.injEq] at h ⊢
  obtain ⟨rfl, rfl, rfl⟩ := h
  refine ⟨rfl, ?_, rfl⟩
  by_cases hr : r.2.2 = 0
  · rw [if_pos hr, if_pos hr, if_pos (by omega)]; omega
  · rw [if_neg hr, if_neg (by omega)]
theorem gotten_nat {f : Nat → Nat} {n : Nat} {k X E R : Int} (h : octet.gotten f n k = (X, E, R)) : 0 ≤ X ∧ 0 ≤ E ∧ 0 ≤ R := by
  unfold octet.gotten at h
  split at h
  · unfold octet.res at h
    simp only [Prod.mk.injEq] at h
    obtain ⟨rfl, rfl, rfl⟩ := h
    refine ⟨by omega, ?_, by omega⟩
    split <;> omega
  · simp only [Prod.mk.injEq] at h
    omega
theorem take_drop_at {α : Type} {B : List α} {i : Nat} {b : α} (h : B[i]? = some b) : B = B.take i ++ b :: B.drop (i + 1) := by
  obtain ⟨hi, e⟩ := List.getElem?_eq_some_iff.mp h
  rw [← e, List.getElem_cons_drop, List.take_append_drop]
section
variable {f : Nat → Nat} {n : Nat} {B : List (Int × Int)} {i : Nat} {b : Int × Int} {a k : Nat} {X E R : Int}
theorem rdL_next_err (hb : B[i]? = some b) (h0 : (rdL f n (B.take i) a k).e = 0) (hG : octet.gotten f n ((rdL f n (B.take i) a k).k : Int) = (X, E, R)) (hR : R ≠ 0) : (rdL f n B a k).e = R ∧ (rdL f n B a k).at_ = (rdL f n (B.take i) a k).k := by
  have e := rdL_app f n (B.take i) (b :: B.drop (i + 1)) a k
  rw [← take_drop_at hb, if_pos h0, rdL_err hG hR] at e
  rw [e]
  exact ⟨rfl, rfl⟩
theorem rdL_next_bad (hb : B[i]? = some b) (h0 : (rdL f n (B.take i) a k).e = 0) (hG : octet.gotten f n ((rdL f n (B.take i) a k).k : Int) = (X, E, 0)) (hX : ¬ (b.1 ≤ capI X ∧ capI X ≤ b.2)) : (rdL f n B a k).e = 1 ∧ (rdL f n B a k).at_ = (rdL f n (B.take i) a k).k := by
  have e := rdL_app f n (B.take i) (b :: B.drop (i + 1)) a k
  rw [← take_drop_at hb, if_pos h0, rdL_bad hG hX] at e
  rw [e]
  exact ⟨rfl, rfl⟩
theorem rdL_next_ok (hb : B[i]? = some b) (h0 : (rdL f n (B.take i) a k).e = 0) (hG : octet.gotten f n ((rdL f n (B.take i) a k).k : Int) = (X, E, 0)) (hX : b.1 ≤ capI X ∧ capI X ≤ b.2) : rdL f n (B.take (i + 1)) a k = ⟨0, (rdL f n (B.take i) a k).k, (rdL f n (B.take i) a k).vs ++ [capI X], E.toNat⟩ := by
  rw [List.take_add_one, hb, Option.toList_some, rdL_app, if_pos h0, rdL_ok hG hX]
  rfl
end
/-- All numbers ahead of the picks. -/
abbrev allB : List (Int × Int) := headB ++ [(0, 256)]
abbrev rdA (f : Nat → Nat) (n : Nat) : RL := rdL (partF f) (n - 12) allB 0 0
abbrev rdQ (f : Nat → Nat) (n : Nat) : RL := rdL (partF f) (n - 12) (repB ((rdA f n).vs.getD 10 0).toNat) (rdA f n).at_ (rdA f n).k
theorem rdE_head {f : Nat → Nat} {n : Nat} (hu : (unfP f n).1 = 0) (h : (rdA f n).e ≠ 0) : rdE f n = ((rdA f n).e, 8 + ((rdA f n).at_ : Int)) := by
  have e : rdA f n = _ := rdL_app (partF f) (n - 12) headB [(0, 256)] 0 0
  unfold rdE
  rw [if_neg (by rw [hu]; simp)]
  by_cases h1 : (rdL (partF f) (n - 12) headB 0 0).e = 0
  · rw [if_pos h1] at e
    rw [e] at h ⊢
    rw [if_neg (by simpa using h1)]
    unfold rdP
    rw [if_neg h]
    rw [if_pos h]
  · rw [if_neg h1] at e
    rw [e] at h ⊢
    rw [if_pos h]
theorem rdE_rest {f : Nat → Nat} {n : Nat} (hu : (unfP f n).1 = 0) (h : (rdA f n).e = 0) : rdM f n = fillW (sumW f) (rdA f n).vs ∧ (rdP (partF f) (n - 12) (rdL (partF f) (n - 12) headB 0 0).at_ (rdL (partF f) (n - 12) headB 0 0).k).vs = (rdQ f n).vs ∧ rdE f n = if (rdQ f n).e ≠ 0 then ((rdQ f n).e, 8 + ((rdQ f n).at_ : Int)) else if (rdQ f n).k < n - 12 then (13, 8 + ((rdQ f n).k : Int)) else (0, 0) := by
  have e := rdL_app (partF f) (n - 12) headB [(0, 256)] 0 0
  by_cases h1 : (rdL (partF f) (n - 12) headB 0 0).e = 0
  · rw [if_pos h1] at e
    have hl := rdL_len (partF f) (n - 12) headB 0 0 h1
    have hP : rdP (partF f) (n - 12) (rdL (partF f) (n - 12) headB 0 0).at_ (rdL (partF f) (n - 12) headB 0 0).k = rdQ f n := by
      unfold rdQ rdP
      unfold rdA at h ⊢
      rw [e] at h ⊢
      dsimp only at h ⊢
      rw [if_pos h]
      congr 3
      rw [List.getD_eq_getElem?_getD, List.getD_eq_getElem?_getD, List.getElem?_append_right (by rw [hl]; decide), hl]
      rfl
    refine ⟨?_, by rw [hP], ?_⟩
    · unfold rdM rdA
      rw [e]
      dsimp only
      generalize rdL (partF f) (n - 12) headB 0 0 = D at *
      have hD : D.vs.length = 10 := hl
      have key : ∀ j, j < 10 → (D.vs ++ (rdL (partF f) (n - 12) [(0, 256)] D.at_ D.k).vs).getD j 0 = D.vs.getD j 0 := fun j hj => by
        rw [List.getD_eq_getElem?_getD, List.getD_eq_getElem?_getD, List.getElem?_append_left (by omega)]
      unfold fillW
      simp only [key 0 (by omega), key 1 (by omega), key 2 (by omega), key 3 (by omega), key 4 (by omega), key 5 (by omega), key 6 (by omega), key 7 (by omega), key 8 (by omega), key 9 (by omega)]
    · unfold rdE
      rw [if_neg (by rw [hu]; simp), if_neg (by rw [h1]; simp), hP]
  · rw [if_neg h1] at e
    unfold rdA at h
    rw [e] at h
    exact absurd h h1
/-- Picks out of numbers, the last of which may lack its second one. -/
def pk2 : List Int → List (Int × Int)
  | [] => []
  | [a] => [(a, 0)]
  | a :: b :: t => (a, b) :: pk2 t
theorem pk2_even : ∀ (m : Nat) (vs : List Int) (v : Int), vs.length = 2 * m → pk2 (vs ++ [v]) = pk2 vs ++ [(v, 0)] ∧ (pk2 vs).length = m
  | 0, [], v, _ => ⟨rfl, rfl⟩
  | 0, _ :: _, v, h => by simp at h
  | m + 1, [], v, h => by simp at h
  | m + 1, [a], v, h => by have : (1 : Nat) = _ := h; omega
  | m + 1, a :: b :: t, v, h => by
    obtain ⟨h1, h2⟩ := pk2_even m t v (by simp at h; omega)
    constructor
    · show (a, b) :: pk2 (t ++ [v]) = (a, b) :: pk2 t ++ [(v, 0)]
      rw [h1]; rfl
    · show (pk2 t).length + 1 = m + 1
      rw [h2]
theorem pk2_odd : ∀ (m : Nat) (vs : List Int) (v : Int), vs.length = 2 * m + 1 → ∃ u, (pk2 vs)[m]? = some (u, 0) ∧ pk2 (vs ++ [v]) = (pk2 vs).set m (u, v) ∧ (pk2 vs).length = m + 1
  | 0, [], v, h => by simp at h
  | 0, [a], v, _ => ⟨a, rfl, rfl, rfl⟩
  | 0, _ :: _ :: _, v, h => by simp at h
  | m + 1, [], v, h => by simp at h
  | m + 1, [a], v, h => by have : (1 : Nat) = _ := h; omega
  | m + 1, a :: b :: t, v, h => by
    obtain ⟨u, h1, h2, h3⟩ := pk2_odd m t v (by simp at h; omega)
    refine ⟨u, h1, ?_, ?_⟩
    · show (a, b) :: pk2 (t ++ [v]) = _
      rw [h2]; rfl
    · show (pk2 t).length + 1 = m + 1 + 1
      rw [h3]
theorem pk2_flat : ∀ (m : Nat) (vs : List Int), vs.length = 2 * m → (pk2 vs).flatMap (fun p => [p.1, p.2]) = vs
  | 0, [], _ => rfl
  | 0, _ :: _, h => by simp at h
  | m + 1, [], h => by simp at h
  | m + 1, [a], h => by have : (1 : Nat) = _ := h; omega
  | m + 1, a :: b :: t, h => by
    have h1 := pk2_flat m t (by simp at h; omega)
    show a :: b :: (pk2 t).flatMap _ = _
    rw [h1]
theorem repB_len : ∀ c : Nat, (repB c).length = 2 * c
  | 0 => rfl
  | c + 1 => by rw [repB_more, List.length_append, repB_len c]; show 2 + 2 * c = _; omega
theorem repB_at : ∀ (c m : Nat), m < c → (repB c)[2 * m]? = some (0, 5) ∧ (repB c)[2 * m + 1]? = some (0, 4)
  | 0, m, h => by omega
  | c + 1, 0, _ => by rw [repB_more]; exact ⟨rfl, rfl⟩
  | c + 1, m + 1, h => by
    obtain ⟨h1, h2⟩ := repB_at c m (by omega)
    rw [repB_more]
    exact ⟨h1, h2⟩
theorem all_at (i : Nat) (h : i < 11) : ∃ m : Int, allB[i]? = some ((if i = 0 then 1 else 0), m) ∧ mostL[i]? = some m ∧ 0 ≤ m ∧ m ≤ 65536 := by
  match i, h with
  | 0, _ => exact ⟨5, rfl, rfl, by decide, by decide⟩
  | 1, _ => exact ⟨64, rfl, rfl, by decide, by decide⟩
  | 2, _ => exact ⟨64, rfl, rfl, by decide, by decide⟩
  | 3, _ => exact ⟨64, rfl, rfl, by decide, by decide⟩
  | 4, _ => exact ⟨64, rfl, rfl, by decide, by decide⟩
  | 5, _ => exact ⟨255, rfl, rfl, by decide, by decide⟩
  | 6, _ => exact ⟨255, rfl, rfl, by decide, by decide⟩
  | 7, _ => exact ⟨256, rfl, rfl, by decide, by decide⟩
  | 8, _ => exact ⟨4096, rfl, rfl, by decide, by decide⟩
  | 9, _ => exact ⟨65536, rfl, rfl, by decide, by decide⟩
  | 10, _ => exact ⟨256, rfl, rfl, by decide, by decide⟩
  | j + 11, h => omega
theorem cap_fit {X lo hi : Int} (h0 : 0 ≤ X) (hh : hi ≤ 65536) : (lo ≤ capI X ∧ capI X ≤ hi) ↔ (lo ≤ X ∧ X ≤ hi) ∨ (lo ≤ capI X ∧ False) := by
  unfold capI
  constructor
  · intro ⟨h1, h2⟩
    left
    omega
  · rintro (⟨h1, h2⟩ | ⟨_, h⟩)
    · omega
    · exact h.elim
theorem cap_same {X hi : Int} (hh : hi ≤ 65536) (h : X ≤ hi) : capI X = X := by unfold capI; omega
/-- When the sum at the end is right, as the document asks. -/
theorem sumK_big {f : Nat → Nat} (hf : ∀ i, f i < 256) {n : Nat} (hn : 12 ≤ n) : sumK f n = true ↔ octet.big (fun i => f (n - 4 + i)) 4 = sumOf f (n - 4) := by
  rw [sumK_iff hf (by omega)]
  constructor
  · intro h
    exact sumB_big (sumOf_lt _ _) h
  · intro h
    have := (sumB_there hf (n := n) (k := n - 4) (by omega)).1
    rwa [h] at this
theorem magB_four {f : Nat → Nat} (hf : ∀ i, f i < 256) {n : Nat} : magB f n = true ↔ 4 ≤ n ∧ f 0 = 115 ∧ f 1 = 99 ∧ f 2 = 97 ∧ f 3 = 119 := by
  rw [magB_iff hf]
  constructor
  · intro ⟨h1, h2⟩
    have k0 := h2 0 115 rfl
    have k1 := h2 1 99 rfl
    have k2 := h2 2 97 rfl
    have k3 := h2 3 119 rfl
    exact ⟨by simpa using h1, by simpa using k0, by simpa using k1, by simpa using k2, by simpa using k3⟩
  · rintro ⟨h1, k0, k1, k2, k3⟩
    refine ⟨by simpa using h1, fun i b hb => ?_⟩
    rw [Nat.zero_add]
    match i, hb with
    | 0, hb => cases hb; exact k0
    | 1, hb => cases hb; exact k1
    | 2, hb => cases hb; exact k2
    | 3, hb => cases hb; exact k3
    | i + 4, hb => simp at hb
end Go.Proofs.Ytikkgfmhnmoalaa.pg
/- The contracts of the document's own Get and GetInt. -/
namespace Go.Proofs.Ytikkgfmhnmoalaa.octet
open Go.ChangeShapes Go.WideShapes Go.ChangeAt Go.RowKit
open wrapped
set_option linter.unusedVariables false
def pw (k : Nat) : Nat := 128 ^ k
theorem pw_lt (k : Nat) (h : k ≤ 9) : pw k ≤ 9223372036854775808 := Nat.le_trans (Nat.pow_le_pow_right (by decide) h) (by decide)
theorem wrap_small (z : Int) (h : 0 ≤ z) (g : z < 18446744073709551616) : IntKind.u64.wrap z = z := by rw [IntKind.wrap_u64]; omega
theorem step_mul (C k m : Nat) (hm : m ≤ 127) (h : k ≤ 8 ∨ (k = 9 ∧ m ≤ 1)) (D : Int) (hD : D = (m : Int)) : IntKind.u64.wrap (D * ((pw k : Nat) : Int)) = ((m * pw k : Nat) : Int) ∧ m * pw k ≤ 9223372036854775808 := by
  have hb : m * pw k ≤ 9223372036854775808 := by
    rcases h with h | ⟨rfl, h⟩
    · exact Nat.le_trans (Nat.mul_le_mul hm (Nat.pow_le_pow_right (by decide) h : pw k ≤ 128 ^ 8)) (by decide)
    · exact Nat.le_trans (Nat.mul_le_mul_right _ h) (by decide)
  subst hD
  refine ⟨?_, hb⟩
  rw [← Int.natCast_mul]
  exact wrap_small _ (by omega) (by omega)
set_option maxHeartbeats 1000000 in
set_option maxRecDepth 100000 in
theorem refget_walk (a : Option Addr) (n c s : Nat) (f : Nat → Nat) (w : World) (hr : Row w a n f) (hs : s ≤ n) (hnI : (n : Int) ≤ 9223372036854775807) (X E R : Int) (hR : Hid (res s (run (fun i => f (s + i)) (n - s) 10 0) = (X, E, R))) :
    Calls Try.prog 52 #[.slice a n c, .int .i64 ((s : Nat) : Int)] w fun e w' => e = .returned (.tuple #[.int .u64 X, .int .i64 E, .int .i64 R]) ∧ w' = w := by
  obtain ⟨hlen, hf, hcells⟩ := hr
  have hsI : (s : Int) ≤ n := by omega
  clear hlen
  go_enter Try.func52, Try.ntmps52
  go_wp2
  go_loop [7, 8, 9] (fun x u i => ∃ k : Nat, k ≤ 9 ∧ s + k ≤ n ∧ i = .int .i64 k ∧ x = .int .u64 ((val (fun i => f (s + i)) k : Nat) : Int) ∧ u = .int .u64 ((pw k : Nat) : Int) ∧ Hid (res s (run (fun i => f (s + i)) (n - s) (10 - k) k) = (X, E, R))) (fun _ _ i => 10 - (intOf i).toNat)
  case atStart => exact ⟨0, by omega, by omega, rfl, rfl, rfl, hR⟩
  case round =>
    obtain ⟨k, hk, hkn, rfl, rfl, rfl, hrun⟩ := hrel
    by_cases h1 : s + k = n
    · obtain ⟨rfl, rfl, rfl⟩ := res_at hk hrun.out (r := (0, 0, 10)) (by unfold out; rw [if_pos (by omega)])
      have h1I : (n : Int) ≤ (s : Int) + (k : Int) := by omega
      clear hrun hR
      go_wp2
      go_ret3
      exact ⟨rfl, rfl⟩
    · rcases hcells with h0 | ⟨b, off, rfl, hcell⟩
      · omega
      · have hc := hcell (s + k) (by omega)
        have hfk := hf (s + k)
        have hc2 : w.cell? ⟨b, off + s + k, none⟩ = some (.int .u8 ((f (s + k) : Nat) : Int)) := by rw [Nat.add_assoc]; exact hc
        have h1I : (s : Int) + (k : Int) < n := by omega
        have hout : out (fun i => f (s + i)) (n - s) k = if k = 9 ∧ 1 < f (s + k) then some (0, 0, 11) else if 128 ≤ f (s + k) then none else if f (s + k) = 0 ∧ 0 < k then some (0, 0, 12) else some (val (fun i => f (s + i)) (k + 1), k + 1, 0) := by
          unfold out; rw [if_neg (by omega)]
        have hvs : val (fun i => f (s + i)) (k + 1) = val (fun i => f (s + i)) k + f (s + k) % 128 * pw k := rfl
        generalize f (s + k) = C at *
        obtain ⟨V, hV⟩ : ∃ V, Hid (val (fun i => f (s + i)) k = V) := ⟨_, rfl⟩
        obtain ⟨W, hW⟩ : ∃ W, Hid (val (fun i => f (s + i)) (k + 1) = W) := ⟨_, rfl⟩
        obtain ⟨U, hU⟩ : ∃ U, Hid (pw k = U) := ⟨_, rfl⟩
        rw [hV.out, hU.out]
        rw [hV.out, hW.out, hU.out] at hvs
        rw [hW.out] at hout
        clear hcell hf hR h1
        by_cases h2 : k = 9 ∧ 1 < C
        · rw [if_pos h2] at hout
          obtain ⟨rfl, rfl, rfl⟩ := res_at hk hrun.out hout
          obtain ⟨rfl, h2⟩ := h2
          clear hrun hout hvs
          go_wp2
          go_ret3
          exact ⟨rfl, rfl⟩
        · rw [if_neg h2] at hout
          by_cases h3 : 128 ≤ C
          · rw [if_pos h3] at hout
            have hrun2 := hrun.out
            rw [run_none hk hout] at hrun2
            have hrun3 : Hid (res s (run (fun i => f (s + i)) (n - s) (10 - (k + 1)) (k + 1)) = (X, E, R)) := hrun2
            have hk9 : ¬ (k : Int) = 9 := by omega
            obtain ⟨hm, hmb⟩ := step_mul C k (C - 128) (by omega) (by omega) ((C : Int) - 128) (by omega)
            have hpk := pw_lt k hk
            have hpl : pw k ≤ 72057594037927936 := Nat.le_trans (Nat.pow_le_pow_right (by decide) (show k ≤ 8 by omega)) (by decide)
            have hpn : IntKind.u64.wrap ((pw k : Int) * 128) = ((pw (k + 1) : Nat) : Int) := by
              rw [show pw (k + 1) = pw k * 128 from Nat.pow_succ _ _, wrap_small _ (by omega) (by omega)]; omega
            have hvl : V ≤ 9223372036854775807 := by have := val_lt (fun i => f (s + i)) k; have h5 : pw k = 128 ^ k := rfl; rw [← h5, hV.out] at this; omega
            have hW2 : W = V + (C - 128) * pw k := by rw [hvs, hU.out, show C % 128 = C - 128 by omega]
            have ha : IntKind.u64.wrap ((V : Int) + (((C - 128) * pw k : Nat) : Int)) = (W : Int) := by rw [wrap_small _ (by omega) (by omega), hW2]; omega
            rw [hU.out] at hm ha hpn
            generalize (((C - 128) * U : Nat) : Int) = M at hm ha
            generalize hPP : ((pw (k + 1) : Nat) : Int) = PP at hpn
            have hPH : Hid (((pw (k + 1) : Nat) : Int) = PP) := hPP
            clear hrun hout hrun2 h2 hvs hmb hpk hpl hvl hW2 hV hU hPP
            go_wp2
            go_round
            case rel => exact ⟨u4, u5, u6, .int .u64 (W : Int), .int .u64 PP, .int .i64 (k + 1), ⟨k + 1, by omega, by omega, by go_num, by rw [hW.out], by rw [hPH.out], hrun3⟩, rfl, rfl, rfl, rfl, rfl, rfl⟩
            case measure => simp [intOf]; omega
          · rw [if_neg h3] at hout
            by_cases h4 : C = 0 ∧ 0 < k
            · rw [if_pos h4] at hout
              obtain ⟨rfl, rfl, rfl⟩ := res_at hk hrun.out hout
              obtain ⟨rfl, h4⟩ := h4
              clear hrun hout h2 h3 hvs
              go_wp2
              all_goals go_ret3
              all_goals exact ⟨rfl, rfl⟩
            · rw [if_neg h4] at hout
              obtain ⟨rfl, rfl, rfl⟩ := res_at hk hrun.out hout
              obtain ⟨hm, hmb⟩ := step_mul C k C (by omega) (by omega) (C : Int) rfl
              have hvl : V ≤ 9223372036854775807 := by have := val_lt (fun i => f (s + i)) k; have h5 : pw k = 128 ^ k := rfl; rw [← h5, hV.out] at this; have := pw_lt k hk; omega
              have hW2 : W = V + C * pw k := by rw [hvs, hU.out, show C % 128 = C by omega]
              have ha : IntKind.u64.wrap ((V : Int) + ((C * pw k : Nat) : Int)) = (W : Int) := by rw [wrap_small _ (by omega) (by omega), hW2]; omega
              have hV0 : Hid (C = 0 → IntKind.u64.wrap (V : Int) = (W : Int)) := fun h => by rw [wrap_small _ (by omega) (by omega), hW2, h]; simp
              rw [hU.out] at hm ha
              generalize ((C * U : Nat) : Int) = M at hm ha
              clear hrun hout hvs hmb hvl hW2 hV hU hW
              go_wp2
              all_goals go_ret3
              all_goals exact ⟨ret_three (by first | rfl | exact hV0.out (by omega)) (by show _ = ((s + (k + 1) : Nat) : Int); omega) rfl, rfl⟩
theorem refget_any (a : Option Addr) (n c : Nat) (at_ : Int) (f : Nat → Nat) (w : World) (hr : Row w a n f) (X E R : Int) (h : gotten f n at_ = (X, E, R)) (l1 : -9223372036854775808 ≤ at_) (l2 : at_ ≤ 9223372036854775807) :
    Calls Try.prog 52 #[.slice a n c, .int .i64 at_] w fun e w' => e = .returned (.tuple #[.int .u64 X, .int .i64 E, .int .i64 R]) ∧ w' = w := by
  unfold gotten at h
  by_cases hb : 0 ≤ at_ ∧ at_ ≤ n
  · rw [if_pos hb] at h
    have e : at_ = ((at_.toNat : Nat) : Int) := by omega
    have := refget_walk a n c at_.toNat f w hr (by omega) (by have := hr.1; omega) X E R h
    rwa [← e] at this
  · rw [if_neg hb] at h
    simp only [Prod.mk.injEq] at h
    obtain ⟨rfl, rfl, rfl⟩ := h
    have hn : (n : Int) ≤ 9223372036854775807 := by have := hr.1; omega
    clear hr
    by_cases h0 : at_ < 0
    · clear hb
      go_enter Try.func52, Try.ntmps52
      go_wp2
      go_ret3
      exact ⟨rfl, rfl⟩
    · have h1 : (n : Int) < at_ := by omega
      clear hb
      go_enter Try.func52, Try.ntmps52
      go_wp2
      go_ret3
      exact ⟨rfl, rfl⟩
theorem gotten_err (f : Nat → Nat) (n : Nat) (a X E R : Int) (h : gotten f n a = (X, E, R)) (hR : R ≠ 0) : X = 0 ∧ E = 0 := by
  unfold gotten at h
  by_cases hb : 0 ≤ a ∧ a ≤ n
  · rw [if_pos hb] at h
    rcases run_spec (fun i => f (a.toNat + i)) (n - a.toNat) 10 0 (by omega) (by omega) (fun i hi => by omega) with ⟨_, c, _, h9, hm, h1, h2, h3, h4, e⟩ | ⟨e', _, _, e⟩
    · rw [e] at h
      unfold res at h
      simp only [Prod.mk.injEq] at h
      omega
    · rw [e] at h
      unfold res at h
      simp only [Prod.mk.injEq] at h
      obtain ⟨hX, hE, hR⟩ := h
      rw [if_neg (by omega)] at hE
      omega
  · rw [if_neg hb] at h
    simp only [Prod.mk.injEq] at h
    omega
end Go.Proofs.Ytikkgfmhnmoalaa.octet
/- A reader in memory: the contracts of the document's own reader, but for Take. -/
namespace Go.Proofs.Ytikkgfmhnmoalaa.octet
open Go.ChangeShapes Go.WideShapes Go.ChangeAt Go.RowKit
open wrapped
set_option linter.unusedVariables false
theorem Rd.drewN {w : World} {b : Nat} {t : TypeId} {S : Value} {k : Int} (h : Rd w b t S k) (m : Nat) : Rd (w.drewN m) b t S k := h
theorem Row.drewN {w : World} {a : Option Addr} {n : Nat} {f : Nat → Nat} (h : Row w a n f) (m : Nat) : Row (w.drewN m) a n f := h
theorem refend_any (b : Nat) (a : Option Addr) (n c k : Nat) (w : World) (h : Rd w b 81 (.slice a n c) k) (hk : k ≤ n) : Calls Try.prog 34 #[rp b] w fun e w' => e = .returned (.int .i64 (endOf n k)) ∧ ∃ m, w' = w.drewN m := by
  have c0 := h.c0
  have c1 := h.c1
  unfold endOf
  by_cases hlt : k < n
  · rw [if_pos hlt]
    have hd : (k : Int) < (n : Int) := by omega
    clear h hk hlt
    go_enter Try.func34, Try.ntmps34
    go_wp2_with fail
    go_quiet (fail)
    go_wp2
    go_ret
    exact ⟨rfl, _, rfl⟩
  · rw [if_neg hlt]
    have hd : (n : Int) ≤ (k : Int) := by omega
    clear h hk hlt
    go_enter Try.func34, Try.ntmps34
    go_wp2_with fail
    go_quiet (fail)
    go_wp2
    go_ret
    exact ⟨rfl, _, rfl⟩
theorem refuint_err (b : Nat) (a : Option Addr) (n c k : Nat) (f : Nat → Nat) (w : World) (h : Rd w b 81 (.slice a n c) k) (hr : Row w a n f) (X E R : Int) (hG : gotten f n k = (X, E, R)) (hR : ¬ R = 0) (hk : k ≤ n) :
    Calls Try.prog 33 #[rp b] w fun e w' => e = .returned (.tuple #[.int .u64 0, .int .i64 R]) ∧ ∃ m, w' = w.drewN m := by
  have cG : ∀ m, Calls Try.prog 52 #[.slice a n c, .int .i64 k] (w.drewN m) _ := fun m => refget_any a n c k f (w.drewN m) (hr.drewN m) X E R hG (by omega) (by have := hr.1; omega)
  obtain ⟨rfl, rfl⟩ := gotten_err f n k X E R hG hR
  have c0 := h.c0
  have c1 := h.c1
  have hR1 : (R == 0) = false := by simpa using hR
  clear h hr hG hk hR
  go_enter Try.func33, Try.ntmps33
  go_wp2_with fail
  go_quiet ((go_at_call 52; exact Calls.quiet_of_same (cG _)))
  go_wp2
  go_ret2
  exact ⟨rfl, _, rfl⟩
theorem refuint_ok (b : Nat) (a : Option Addr) (n c k : Nat) (f : Nat → Nat) (w : World) (h : Rd w b 81 (.slice a n c) k) (hr : Row w a n f) (X E : Int) (hG : gotten f n k = (X, E, 0)) (hk : k ≤ n) :
    Calls Try.prog 33 #[rp b] w fun e w' => e = .returned (.tuple #[.int .u64 X, .int .i64 0]) ∧ ∃ m, w' = (w.drewN m).setCell ⟨b, 1, none⟩ (.int .i64 E) := by
  have cG : ∀ m, Calls Try.prog 52 #[.slice a n c, .int .i64 k] (w.drewN m) _ := fun m => refget_any a n c k f (w.drewN m) (hr.drewN m) X E 0 hG (by omega) (by have := hr.1; omega)
  have c0 := h.c0
  have c1 := h.c1
  have fz := h.fz 1
  clear h hr hG hk
  go_enter Try.func33, Try.ntmps33
  go_wp2_with fail
  go_quiet ((go_at_call 52; exact Calls.quiet_of_same (cG _)))
  go_wp2
  go_ret2
  exact ⟨rfl, _, rfl⟩
end Go.Proofs.Ytikkgfmhnmoalaa.octet
