/- The contracts of the document's own Get and GetInt. -/
import Derived.Test.YtecimplpfghikaaBack
namespace Go.Proofs.Ytecimplpfghikaa.octet
open Go.ChangeShapes Go.WideShapes Go.ChangeAt Go.RowKit
open wrapped
set_option linter.unusedVariables false
def pw (k : Nat) : Nat := 128 ^ k
theorem pw_lt (k : Nat) (h : k ≤ 9) : pw k ≤ 9223372036854775808 := Nat.le_trans (Nat.pow_le_pow_right (by decide) h) (by decide)
theorem wrap_small (z : Int) (h : 0 ≤ z) (g : z < 18446744073709551616) : IntKind.u64.wrap z = z := by rw [IntKind.wrap_u64]; omega
theorem step_mul (C k m : Nat) (hm : m ≤ 127) (h : k ≤ 8 ∨ (k = 9 ∧ m ≤ 1)) (D : Int) (hD : D = (m : Int)) : IntKind.u64.wrap (D * ((pw k : Nat) : Int)) = ((m * pw k : Nat) : Int) ∧ m * pw k ≤ 9223372036854775808 := by
  have hb : m * pw k ≤ 9223372036854775808 := by
    rcases h with h | ⟨rfl, h⟩
    · exact Nat.le_trans (Nat.mul_le_mul hm (Nat.pow_le_pow_right (by decide) h : pw k ≤ 128 ^ 8)) (by decide)
    · exact Nat.le_trans (Nat.mul_le_mul_right _ h) (by decide)
  subst hD
  refine ⟨?_, hb⟩
  rw [← Int.natCast_mul]
  exact wrap_small _ (by omega) (by omega)
set_option maxHeartbeats 1000000 in
set_option maxRecDepth 100000 in
theorem refget_walk (a : Option Addr) (n c s : Nat) (f : Nat → Nat) (w : World) (hr : Row w a n f) (hs : s ≤ n) (hnI : (n : Int) ≤ 9223372036854775807) (X E R : Int) (hR : Hid (res s (run (fun i => f (s + i)) (n - s) 10 0) = (X, E, R))) :
    Calls Try.prog 18 #[.slice a n c, .int .i64 ((s : Nat) : Int)] w fun e w' => e = .returned (.tuple #[.int .u64 X, .int .i64 E, .int .i64 R]) ∧ w' = w := by
  obtain ⟨hlen, hf, hcells⟩ := hr
  have hsI : (s : Int) ≤ n := by omega
  clear hlen
  go_enter Try.func18, Try.ntmps18
  go_wp2
  go_loop [7, 8, 9] (fun x u i => ∃ k : Nat, k ≤ 9 ∧ s + k ≤ n ∧ i = .int .i64 k ∧ x = .int .u64 ((val (fun i => f (s + i)) k : Nat) : Int) ∧ u = .int .u64 ((pw k : Nat) : Int) ∧ Hid (res s (run (fun i => f (s + i)) (n - s) (10 - k) k) = (X, E, R))) (fun _ _ i => 10 - (intOf i).toNat)
  case atStart => exact ⟨0, by omega, by omega, rfl, rfl, rfl, hR⟩
  case round =>
    obtain ⟨k, hk, hkn, rfl, rfl, rfl, hrun⟩ := hrel
    by_cases h1 : s + k = n
    · obtain ⟨rfl, rfl, rfl⟩ := res_at hk hrun.out (r := (0, 0, 10)) (by unfold out; rw [if_pos (by omega)])
      have h1I : (n : Int) ≤ (s : Int) + (k : Int) := by omega
      clear hrun hR
      go_wp2
      go_ret3
      exact ⟨rfl, rfl⟩
    · rcases hcells with h0 | ⟨b, off, rfl, hcell⟩
      · omega
      · have hc := hcell (s + k) (by omega)
        have hfk := hf (s + k)
        have hc2 : w.cell? ⟨b, off + s + k, none⟩ = some (.int .u8 ((f (s + k) : Nat) : Int)) := by rw [Nat.add_assoc]; exact hc
        have h1I : (s : Int) + (k : Int) < n := by omega
        have hout : out (fun i => f (s + i)) (n - s) k = if k = 9 ∧ 1 < f (s + k) then some (0, 0, 11) else if 128 ≤ f (s + k) then none else if f (s + k) = 0 ∧ 0 < k then some (0, 0, 12) else some (val (fun i => f (s + i)) (k + 1), k + 1, 0) := by
          unfold out; rw [if_neg (by omega)]
        have hvs : val (fun i => f (s + i)) (k + 1) = val (fun i => f (s + i)) k + f (s + k) % 128 * pw k := rfl
        generalize f (s + k) = C at *
        obtain ⟨V, hV⟩ : ∃ V, Hid (val (fun i => f (s + i)) k = V) := ⟨_, rfl⟩
        obtain ⟨W, hW⟩ : ∃ W, Hid (val (fun i => f (s + i)) (k + 1) = W) := ⟨_, rfl⟩
        obtain ⟨U, hU⟩ : ∃ U, Hid (pw k = U) := ⟨_, rfl⟩
        rw [hV.out, hU.out]
        rw [hV.out, hW.out, hU.out] at hvs
        rw [hW.out] at hout
        clear hcell hf hR h1
        by_cases h2 : k = 9 ∧ 1 < C
        · rw [if_pos h2] at hout
          obtain ⟨rfl, rfl, rfl⟩ := res_at hk hrun.out hout
          obtain ⟨rfl, h2⟩ := h2
          clear hrun hout hvs
          go_wp2
          go_ret3
          exact ⟨rfl, rfl⟩
        · rw [if_neg h2] at hout
          by_cases h3 : 128 ≤ C
          · rw [if_pos h3] at hout
            have hrun2 := hrun.out
            rw [run_none hk hout] at hrun2
            have hrun3 : Hid (res s (run (fun i => f (s + i)) (n - s) (10 - (k + 1)) (k + 1)) = (X, E, R)) := hrun2
            have hk9 : ¬ (k : Int) = 9 := by omega
            obtain ⟨hm, hmb⟩ := step_mul C k (C - 128) (by omega) (by omega) ((C : Int) - 128) (by omega)
            have hpk := pw_lt k hk
            have hpl : pw k ≤ 72057594037927936 := Nat.le_trans (Nat.pow_le_pow_right (by decide) (show k ≤ 8 by omega)) (by decide)
            have hpn : IntKind.u64.wrap ((pw k : Int) * 128) = ((pw (k + 1) : Nat) : Int) := by
              rw [show pw (k + 1) = pw k * 128 from Nat.pow_succ _ _, wrap_small _ (by omega) (by omega)]; omega
            have hvl : V ≤ 9223372036854775807 := by have := val_lt (fun i => f (s + i)) k; have h5 : pw k = 128 ^ k := rfl; rw [← h5, hV.out] at this; omega
            have hW2 : W = V + (C - 128) * pw k := by rw [hvs, hU.out, show C % 128 = C - 128 by omega]
            have ha : IntKind.u64.wrap ((V : Int) + (((C - 128) * pw k : Nat) : Int)) = (W : Int) := by rw [wrap_small _ (by omega) (by omega), hW2]; omega
            rw [hU.out] at hm ha hpn
            generalize (((C - 128) * U : Nat) : Int) = M at hm ha
            generalize hPP : ((pw (k + 1) : Nat) : Int) = PP at hpn
            have hPH : Hid (((pw (k + 1) : Nat) : Int) = PP) := hPP
            clear hrun hout hrun2 h2 hvs hmb hpk hpl hvl hW2 hV hU hPP
            go_wp2
            go_round
            case rel => exact ⟨u4, u5, u6, .int .u64 (W : Int), .int .u64 PP, .int .i64 (k + 1), ⟨k + 1, by omega, by omega, by go_num, by rw [hW.out], by rw [hPH.out], hrun3⟩, rfl, rfl, rfl, rfl, rfl, rfl⟩
            case measure => simp [intOf]; omega
          · rw [if_neg h3] at hout
            by_cases h4 : C = 0 ∧ 0 < k
            · rw [if_pos h4] at hout
              obtain ⟨rfl, rfl, rfl⟩ := res_at hk hrun.out hout
              obtain ⟨rfl, h4⟩ := h4
              clear hrun hout h2 h3 hvs
              go_wp2
              all_goals go_ret3
              all_goals exact ⟨rfl, rfl⟩
            · rw [if_neg h4] at hout
              obtain ⟨rfl, rfl, rfl⟩ := res_at hk hrun.out hout
              obtain ⟨hm, hmb⟩ := step_mul C k C (by omega) (by omega) (C : Int) rfl
              have hvl : V ≤ 9223372036854775807 := by have := val_lt (fun i => f (s + i)) k; have h5 : pw k = 128 ^ k := rfl; rw [← h5, hV.out] at this; have := pw_lt k hk; omega
              have hW2 : W = V + C * pw k := by rw [hvs, hU.out, show C % 128 = C by omega]
              have ha : IntKind.u64.wrap ((V : Int) + ((C * pw k : Nat) : Int)) = (W : Int) := by rw [wrap_small _ (by omega) (by omega), hW2]; omega
              have hV0 : Hid (C = 0 → IntKind.u64.wrap (V : Int) = (W : Int)) := fun h => by rw [wrap_small _ (by omega) (by omega), hW2, h]; simp
              rw [hU.out] at hm ha
              generalize ((C * U : Nat) : Int) = M at hm ha
              clear hrun hout hvs hmb hvl hW2 hV hU hW
              go_wp2
              all_goals go_ret3
              all_goals exact ⟨ret_three (by first | rfl | exact hV0.out (by omega)) (by show _ = ((s + (k + 1) : Nat) : Int); omega) rfl, rfl⟩
theorem refget_any (a : Option Addr) (n c : Nat) (at_ : Int) (f : Nat → Nat) (w : World) (hr : Row w a n f) (X E R : Int) (h : gotten f n at_ = (X, E, R)) (l1 : -9223372036854775808 ≤ at_) (l2 : at_ ≤ 9223372036854775807) :
    Calls Try.prog 18 #[.slice a n c, .int .i64 at_] w fun e w' => e = .returned (.tuple #[.int .u64 X, .int .i64 E, .int .i64 R]) ∧ w' = w := by
  unfold gotten at h
  by_cases hb : 0 ≤ at_ ∧ at_ ≤ n
  · rw [if_pos hb] at h
    have e : at_ = ((at_.toNat : Nat) : Int) := by omega
    have := refget_walk a n c at_.toNat f w hr (by omega) (by have := hr.1; omega) X E R h
    rwa [← e] at this
  · rw [if_neg hb] at h
    simp only [Prod.mk.injEq] at h
    obtain ⟨rfl, rfl, rfl⟩ := h
    have hn : (n : Int) ≤ 9223372036854775807 := by have := hr.1; omega
    clear hr
    by_cases h0 : at_ < 0
    · clear hb
      go_enter Try.func18, Try.ntmps18
      go_wp2
      go_ret3
      exact ⟨rfl, rfl⟩
    · have h1 : (n : Int) < at_ := by omega
      clear hb
      go_enter Try.func18, Try.ntmps18
      go_wp2
      go_ret3
      exact ⟨rfl, rfl⟩
theorem gotten_err (f : Nat → Nat) (n : Nat) (a X E R : Int) (h : gotten f n a = (X, E, R)) (hR : R ≠ 0) : X = 0 ∧ E = 0 := by
  unfold gotten at h
  by_cases hb : 0 ≤ a ∧ a ≤ n
  · rw [if_pos hb] at h
    rcases run_spec (fun i => f (a.toNat + i)) (n - a.toNat) 10 0 (by omega) (by omega) (fun i hi => by omega) with ⟨_, c, _, h9, hm, h1, h2, h3, h4, e⟩ | ⟨e', _, _, e⟩
    · rw [e] at h
      unfold res at h
      simp only [Prod.mk.injEq] at h
      omega
    · rw [e] at h
      unfold res at h
      simp only [Prod.mk.injEq] at h
      obtain ⟨hX, hE, hR⟩ := h
      rw [if_neg (by omega)] at hE
      omega
  · rw [if_neg hb] at h
    simp only [Prod.mk.injEq] at h
    omega
theorem refgetint_any (a : Option Addr) (n c : Nat) (at_ : Int) (f : Nat → Nat) (w : World) (hr : Row w a n f) (X E R : Int) (h : gotten f n at_ = (X, E, R)) (l1 : -9223372036854775808 ≤ at_) (l2 : at_ ≤ 9223372036854775807) (Y : Int) (hY : zb X = Y) :
    Calls Try.prog 20 #[.slice a n c, .int .i64 at_] w fun e w' => e = .returned (.tuple #[.int .i64 Y, .int .i64 E, .int .i64 R]) ∧ w' = w := by
  have c1 := refget_any a n c at_ f w hr X E R h l1 l2
  obtain ⟨b0, b1⟩ := gotten_bd f hr.2.1 n at_ X E R h
  have c2 := refzag_any X b0 b1
  rw [hY] at c2
  by_cases hR : R = 0
  · subst hR
    clear h hr hY l1 l2
    go_enter Try.func20, Try.ntmps20
    go_wp2_with (first | (go_at_call 18; with_reducible refine c1.mono ?_; rintro e w' ⟨rfl, hw⟩; replace hw := hw.symm; subst hw) | (go_at_call 40; with_reducible refine (c2 _).mono ?_; rintro e w' ⟨rfl, hw⟩; replace hw := hw.symm; subst hw))
    go_ret3
    exact ⟨rfl, rfl⟩
  · obtain ⟨rfl, rfl⟩ := gotten_err f n at_ X E R h hR
    have hY0 : Y = 0 := by rw [← hY]; rfl
    subst hY0
    clear h hr hY l1 l2
    go_enter Try.func20, Try.ntmps20
    go_wp2_with (first | (go_at_call 18; with_reducible refine c1.mono ?_; rintro e w' ⟨rfl, hw⟩; replace hw := hw.symm; subst hw))
    go_ret3
    exact ⟨rfl, rfl⟩
end Go.Proofs.Ytecimplpfghikaa.octet
