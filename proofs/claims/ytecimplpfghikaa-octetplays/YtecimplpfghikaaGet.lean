/- What is read of a number's bytes, on plain numbers, and the contracts of package octet's Get and GetInt. -/
import Derived.Test.YtecimplpfghikaaPut
import Derived.Test.YtecimplpfghikaaZag
namespace Go.Proofs.Ytecimplpfghikaa.octet
open Go.ChangeShapes Go.WideShapes Go.ChangeAt Go.RowKit
open wrapped
set_option linter.unusedVariables false
/-- The number of the first k groups. -/
def val (g : Nat → Nat) : Nat → Nat
  | 0 => 0
  | k + 1 => val g k + g k % 128 * 128 ^ k
theorem val_lt (g : Nat → Nat) (k : Nat) : val g k < 128 ^ k := by
  induction k with
  | zero => show (0 : Nat) < 1; decide
  | succ k ih =>
    show val g k + g k % 128 * 128 ^ k < 128 ^ (k + 1)
    rw [Nat.pow_succ]
    have h : g k % 128 * 128 ^ k ≤ 127 * 128 ^ k := Nat.mul_le_mul_right _ (by omega)
    omega
theorem val_or (g : Nat → Nat) (k : Nat) : val g k ||| g k % 128 * 128 ^ k = val g (k + 1) := by
  have e := Nat.two_pow_add_eq_or_of_lt (i := 7 * k) (b := val g k) (by rw [Nat.pow_mul]; exact val_lt g k) (g k % 128)
  rw [Nat.pow_mul] at e
  rw [Nat.or_comm, Nat.mul_comm (g k % 128)]
  show _ = val g k + g k % 128 * 128 ^ k
  rw [Nat.mul_comm (g k % 128), Nat.add_comm]
  exact e.symm
/-- What is told at place i, of m bytes: value, how many bytes, error; nothing: one goes on. -/
def out (g : Nat → Nat) (m i : Nat) : Option (Nat × Nat × Nat) :=
  if i = m then some (0, 0, 10) else if i = 9 ∧ 1 < g i then some (0, 0, 11) else if 128 ≤ g i then none else if g i = 0 ∧ 0 < i then some (0, 0, 12) else some (val g (i + 1), i + 1, 0)
def run (g : Nat → Nat) (m : Nat) : Nat → Nat → Nat × Nat × Nat
  | 0, _ => (0, 0, 11)
  | fuel + 1, i => match out g m i with
    | some r => r
    | none => run g m fuel (i + 1)
theorem run_some {g : Nat → Nat} {m k : Nat} (hk : k ≤ 9) {r : Nat × Nat × Nat} (h : out g m k = some r) : run g m (10 - k) k = r := by
  rw [show 10 - k = (9 - k) + 1 by omega]; simp [run, h]
theorem run_none {g : Nat → Nat} {m k : Nat} (hk : k ≤ 9) (h : out g m k = none) : run g m (10 - k) k = run g m (10 - (k + 1)) (k + 1) := by
  rw [show 10 - k = (9 - k) + 1 by omega, show 10 - (k + 1) = 9 - k by omega]; simp [run, h]
theorem mask (c : Nat) (h : c < 256) : bits .and .u8 (c : Int) 127 = ((c % 128 : Nat) : Int) := by
  have e := u8_and_nat c 127 h (by decide)
  rw [show c &&& 127 = c % 128 from Nat.and_two_pow_sub_one_eq_mod c 7] at e
  exact e
theorem or_step (g : Nat → Nat) (V C k W : Nat) (hV : val g k = V) (hC : g k = C) (h : k ≤ 8 ∨ (k = 9 ∧ C ≤ 1)) (hW : val g (k + 1) = W) :
    bits .or .u64 (V : Int) (IntKind.u64.wrap ((C : Int) % 128 * 2 ^ (7 * k))) = ((W : Nat) : Int) := by
  subst hV hC hW
  have hp : ((2 : Int) ^ (7 * k)) = ((128 ^ k : Nat) : Int) := by
    rw [show (128 : Nat) ^ k = 2 ^ (7 * k) by rw [Nat.pow_mul]]
    push_cast; rfl
  have e : ((g k : Nat) : Int) % 128 * 2 ^ (7 * k) = ((g k % 128 * 128 ^ k : Nat) : Int) := by rw [hp]; push_cast; rfl
  have hb : g k % 128 * 128 ^ k < 18446744073709551616 := by
    rcases h with h | ⟨h, h2⟩
    · have h3 : 128 ^ k ≤ 128 ^ 8 := Nat.pow_le_pow_right (by decide) h
      exact Nat.lt_of_le_of_lt (Nat.mul_le_mul (show g k % 128 ≤ 127 by omega) h3) (by decide)
    · subst h
      exact Nat.lt_of_le_of_lt (Nat.mul_le_mul_right (128 ^ 9) (show g 9 % 128 ≤ 1 by omega)) (by decide)
  have hv : val g k < 18446744073709551616 := by
    have h1 := val_lt g k
    exact Nat.lt_of_lt_of_le h1 (Nat.le_trans (Nat.pow_le_pow_right (by decide) (show k ≤ 9 by omega)) (by decide))
  rw [e, IntKind.wrap_u64]
  generalize hd : g k % 128 * 128 ^ k = d at *
  rw [show ((d : Nat) : Int) % 18446744073709551616 = ((d : Nat) : Int) by omega, u64_or_nat _ _ hv hb, ← hd, val_or]
/-- The three answers, as the call gives them. -/
def res (s : Nat) (r : Nat × Nat × Nat) : Int × Int × Int := (((r.1 : Nat) : Int), if r.2.2 = 0 then ((s + r.2.1 : Nat) : Int) else 0, ((r.2.2 : Nat) : Int))
theorem ret_three {k l m : IntKind} {a b c d e f : Int} (h1 : a = b) (h2 : c = d) (h3 : e = f) : Ending.returned (.tuple #[.int k a, .int l c, .int m e]) = .returned (.tuple #[.int k b, .int l d, .int m f]) := by rw [h1, h2, h3]
theorem res_at {s k m : Nat} {g : Nat → Nat} {X E R : Int} {r : Nat × Nat × Nat} (hk : k ≤ 9) (h : res s (run g m (10 - k) k) = (X, E, R)) (ho : out g m k = some r) : X = (res s r).1 ∧ E = (res s r).2.1 ∧ R = (res s r).2.2 := by
  rw [run_some hk ho] at h
  rw [h]; exact ⟨rfl, rfl, rfl⟩
set_option maxHeartbeats 1000000 in
set_option maxRecDepth 100000 in
theorem get_walk (a : Option Addr) (n c s : Nat) (f : Nat → Nat) (w : World) (hr : Row w a n f) (hs : s ≤ n) (hnI : (n : Int) ≤ 9223372036854775807) (X E R : Int) (hR : Hid (res s (run (fun i => f (s + i)) (n - s) 10 0) = (X, E, R))) :
    Calls Try.prog 17 #[.slice a n c, .int .i64 ((s : Nat) : Int)] w fun e w' => e = .returned (.tuple #[.int .u64 X, .int .i64 E, .int .i64 R]) ∧ w' = w := by
  obtain ⟨hlen, hf, hcells⟩ := hr
  have hsI : (s : Int) ≤ n := by omega
  clear hlen
  go_enter Try.func17, Try.ntmps17
  go_wp2_with (go_in)
  go_loop [7, 14] (fun x i => ∃ k : Nat, k ≤ 9 ∧ s + k ≤ n ∧ i = .int .i64 k ∧ x = .int .u64 ((val (fun i => f (s + i)) k : Nat) : Int) ∧ Hid (res s (run (fun i => f (s + i)) (n - s) (10 - k) k) = (X, E, R))) (fun _ i => 10 - (intOf i).toNat)
  case atStart => exact ⟨0, by omega, by omega, rfl, rfl, hR⟩
  case round =>
    obtain ⟨k, hk, hkn, rfl, rfl, hrun⟩ := hrel
    by_cases h1 : s + k = n
    · obtain ⟨rfl, rfl, rfl⟩ := res_at hk hrun.out (r := (0, 0, 10)) (by unfold out; rw [if_pos (by omega)])
      clear hrun hR
      go_wp2
      go_ret3
      exact ⟨rfl, rfl⟩
    · rcases hcells with h0 | ⟨b, off, rfl, hcell⟩
      · omega
      · have hc := hcell (s + k) (by omega)
        have hfk := hf (s + k)
        have hmk := mask (f (s + k)) hfk
        have hc2 : w.cell? ⟨b, off + s + k, none⟩ = some (.int .u8 ((f (s + k) : Nat) : Int)) := by rw [Nat.add_assoc]; exact hc
        have hor := fun V W hV hW h => or_step (fun i => f (s + i)) V (f (s + k)) k W hV rfl h hW
        have h1I : ((s + k : Nat) : Int) < n := by omega
        have hout : out (fun i => f (s + i)) (n - s) k = if k = 9 ∧ 1 < f (s + k) then some (0, 0, 11) else if 128 ≤ f (s + k) then none else if f (s + k) = 0 ∧ 0 < k then some (0, 0, 12) else some (val (fun i => f (s + i)) (k + 1), k + 1, 0) := by
          unfold out; rw [if_neg (by omega)]
        generalize f (s + k) = C at *
        obtain ⟨V, hV⟩ : ∃ V, Hid (val (fun i => f (s + i)) k = V) := ⟨_, rfl⟩
        obtain ⟨W, hW⟩ : ∃ W, Hid (val (fun i => f (s + i)) (k + 1) = W) := ⟨_, rfl⟩
        replace hor := hor V W hV.out hW.out
        rw [hV.out]
        rw [hW.out] at hout
        clear hcell hf hR h1 hV
        by_cases h2 : k = 9 ∧ 1 < C
        · rw [if_pos h2] at hout
          obtain ⟨rfl, rfl, rfl⟩ := res_at hk hrun.out hout
          obtain ⟨rfl, h2⟩ := h2
          clear hrun hout hor
          go_wp2
          go_ret3
          exact ⟨rfl, rfl⟩
        · replace hor := hor (by omega)
          rw [if_neg h2] at hout
          by_cases h3 : 128 ≤ C
          · rw [if_pos h3] at hout
            have hrun2 := hrun.out
            rw [run_none hk hout] at hrun2
            have hrun3 : Hid (res s (run (fun i => f (s + i)) (n - s) (10 - (k + 1)) (k + 1)) = (X, E, R)) := hrun2
            have hk9 : ¬ (k : Int) = 9 := by omega
            clear hrun hout hrun2 h2
            go_wp2
            go_round
            case rel => exact ⟨u4, u5, u6, .int .u64 ((W : Nat) : Int), .int .i64 k, .int .u8 C, .int .i64 (k + 1), ⟨k + 1, by omega, by omega, by go_num, by rw [hW.out], hrun3⟩, rfl, rfl, rfl, rfl, rfl, rfl, rfl⟩
            case measure => simp [intOf]; omega
          · rw [if_neg h3] at hout
            by_cases h4 : C = 0 ∧ 0 < k
            · rw [if_pos h4] at hout
              obtain ⟨rfl, rfl, rfl⟩ := res_at hk hrun.out hout
              obtain ⟨rfl, h4⟩ := h4
              clear hrun hout h2 h3
              go_wp2
              all_goals go_ret3
              all_goals exact ⟨rfl, rfl⟩
            · rw [if_neg h4] at hout
              obtain ⟨rfl, rfl, rfl⟩ := res_at hk hrun.out hout
              clear hrun hout hW
              by_cases h9 : k = 9
              · subst h9
                have e9 : IntKind.u64.wrap ((C : Int) % 128 * 2 ^ (7 * 9)) = (C : Int) % 128 * 9223372036854775808 := by
                  rw [IntKind.wrap_u64, show (2 : Int) ^ (7 * 9) = 9223372036854775808 from by decide]; omega
                rw [e9] at hor
                have hC1 : ¬ (1 < C) := by omega
                have hC0 : ¬ (C = 0) := by omega
                clear h2 h4 e9
                go_wp2
                go_ret3
                exact ⟨ret_three rfl (by show _ = ((s + (9 + 1) : Nat) : Int); omega) rfl, rfl⟩
              · have h9I : ¬ (k : Int) = 9 := by omega
                clear h2 h9
                go_wp2
                all_goals go_ret3
                all_goals exact ⟨ret_three (by first | rfl | exact hor) (by show _ = ((s + (k + 1) : Nat) : Int); omega) rfl, rfl⟩
end Go.Proofs.Ytecimplpfghikaa.octet
