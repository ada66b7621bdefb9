/- What is read of a number's bytes, on plain numbers, and the contracts of package octet's Get and GetInt. -/
import Derived.Test.YtonkcnaijcpfdaaGreatDoorM10
import Derived.Test.YtonkcnaijcpfdaaGreatDoorM14
import Derived.Test.YtonkcnaijcpfdaaGreatDoorM11
namespace Go.Proofs.YtonkcnaijcpfdaaGreatDoor.octet
open Go.ChangeShapes Go.WideShapes Go.ChangeAt Go.RowKit
open wrapped
set_option linter.unusedVariables false
/-- The number of the first k groups. -/
def val (g : Nat → Nat) : Nat → Nat
  | 0 => 0
  | k + 1 => val g k + g k % 128 * 128 ^ k
theorem val_lt (g : Nat → Nat) (k : Nat) : val g k < 128 ^ k := by
  induction k with
  | zero => show (0 : Nat) < 1; decide
  | succ k ih =>
    show val g k + g k % 128 * 128 ^ k < 128 ^ (k + 1)
    rw [Nat.pow_succ]
    have h : g k % 128 * 128 ^ k ≤ 127 * 128 ^ k := Nat.mul_le_mul_right _ (by omega)
    omega
theorem val_or (g : Nat → Nat) (k : Nat) : val g k ||| g k % 128 * 128 ^ k = val g (k + 1) := by
  have e := Nat.two_pow_add_eq_or_of_lt (i := 7 * k) (b := val g k) (by rw [Nat.pow_mul]; exact val_lt g k) (g k % 128)
  rw [Nat.pow_mul] at e
  rw [Nat.or_comm, Nat.mul_comm (g k % 128)]
  show _ = val g k + g k % 128 * 128 ^ k
  rw [Nat.mul_comm (g k % 128), Nat.add_comm]
  exact e.symm
/-- What is told at place i, of m bytes: value, how many bytes, error; nothing: one goes on. -/
def out (g : Nat → Nat) (m i : Nat) : Option (Nat × Nat × Nat) :=
  if i = m then some (0, 0, 10) else if i = 9 ∧ 1 < g i then some (0, 0, 11) else if 128 ≤ g i then none else if g i = 0 ∧ 0 < i then some (0, 0, 12) else some (val g (i + 1), i + 1, 0)
def run (g : Nat → Nat) (m : Nat) : Nat → Nat → Nat × Nat × Nat
  | 0, _ => (0, 0, 11)
  | fuel + 1, i => match out g m i with
    | some r => r
    | none => run g m fuel (i + 1)
theorem run_some {g : Nat → Nat} {m k : Nat} (hk : k ≤ 9) {r : Nat × Nat × Nat} (h : out g m k = some r) : run g m (10 - k) k = r := by
  rw [show 10 - k = (9 - k) + 1 by omega]; simp [run, h]
theorem run_none {g : Nat → Nat} {m k : Nat} (hk : k ≤ 9) (h : out g m k = none) : run g m (10 - k) k = run g m (10 - (k + 1)) (k + 1) := by
  rw [show 10 - k = (9 - k) + 1 by omega, show 10 - (k + 1) = 9 - k by omega]; simp [run, h]
theorem mask (c : Nat) (h : c < 256) : bits .and .u8 (c : Int) 127 = ((c % 128 : Nat) : Int) := by
  have e := u8_and_nat c 127 h (by decide)
  rw [show c &&& 127 = c % 128 from Nat.and_two_pow_sub_one_eq_mod c 7] at e
  exact e
theorem or_step (g : Nat → Nat) (V C k W : Nat) (hV : val g k = V) (hC : g k = C) (h : k ≤ 8 ∨ (k = 9 ∧ C ≤ 1)) (hW : val g (k + 1) = W) :
    bits .or .u64 (V : Int) (IntKind.u64.wrap ((C : Int) % 128 * 2 ^ (7 * k))) = ((W : Nat) : Int) := by
  subst hV hC hW
  have hp : ((2 : Int) ^ (7 * k)) = ((128 ^ k : Nat) : Int) := by
    rw [show (128 : Nat) ^ k = 2 ^ (7 * k) by rw [Nat.pow_mul]]
    push_cast; rfl
  have e : ((g k : Nat) : Int) % 128 * 2 ^ (7 * k) = ((g k % 128 * 128 ^ k : Nat) : Int) := by rw [hp]; push_cast; rfl
  have hb : g k % 128 * 128 ^ k < 18446744073709551616 := by
    rcases h with h | ⟨h, h2⟩
    · have h3 : 128 ^ k ≤ 128 ^ 8 := Nat.pow_le_pow_right (by decide) h
      exact Nat.lt_of_le_of_lt (Nat.mul_le_mul (show g k % 128 ≤ 127 by omega) h3) (by decide)
    · subst h
      exact Nat.lt_of_le_of_lt (Nat.mul_le_mul_right (128 ^ 9) (show g 9 % 128 ≤ 1 by omega)) (by decide)
  have hv : val g k < 18446744073709551616 := by
    have h1 := val_lt g k
    exact Nat.lt_of_lt_of_le h1 (Nat.le_trans (Nat.pow_le_pow_right (by decide) (show k ≤ 9 by omega)) (by decide))
  rw [e, IntKind.wrap_u64]
  generalize hd : g k % 128 * 128 ^ k = d at *
  rw [show ((d : Nat) : Int) % 18446744073709551616 = ((d : Nat) : Int) by omega, u64_or_nat _ _ hv hb, ← hd, val_or]
/-- The three answers, as the call gives them. -/
def res (s : Nat) (r : Nat × Nat × Nat) : Int × Int × Int := (((r.1 : Nat) : Int), if r.2.2 = 0 then ((s + r.2.1 : Nat) : Int) else 0, ((r.2.2 : Nat) : Int))
theorem ret_three {k l m : IntKind} {a b c d e f : Int} (h1 : a = b) (h2 : c = d) (h3 : e = f) : Ending.returned (.tuple #[.int k a, .int l c, .int m e]) = .returned (.tuple #[.int k b, .int l d, .int m f]) := by rw [h1, h2, h3]
theorem res_at {s k m : Nat} {g : Nat → Nat} {X E R : Int} {r : Nat × Nat × Nat} (hk : k ≤ 9) (h : res s (run g m (10 - k) k) = (X, E, R)) (ho : out g m k = some r) : X = (res s r).1 ∧ E = (res s r).2.1 ∧ R = (res s r).2.2 := by
  rw [run_some hk ho] at h
  rw [h]; exact ⟨rfl, rfl, rfl⟩
set_option maxHeartbeats 1000000 in
set_option maxRecDepth 100000 in
theorem get_walk (a : Option Addr) (n c s : Nat) (f : Nat → Nat) (w : World) (hr : Row w a n f) (hs : s ≤ n) (hnI : (n : Int) ≤ 9223372036854775807) (X E R : Int) (hR : Hid (res s (run (fun i => f (s + i)) (n - s) 10 0) = (X, E, R))) :
    Calls Tryz.prog 127 #[.slice a n c, .int .i64 ((s : Nat) : Int)] w fun e w' => e = .returned (.tuple #[.int .u64 X, .int .i64 E, .int .i64 R]) ∧ w' = w := by
  obtain ⟨hlen, hf, hcells⟩ := hr
  have hsI : (s : Int) ≤ n := by omega
  clear hlen
  go_enter Tryz.func127, Tryz.ntmps127
  go_wp2_with (go_in)
  go_loop [7, 14] (fun x i => ∃ k : Nat, k ≤ 9 ∧ s + k ≤ n ∧ i = .int .i64 k ∧ x = .int .u64 ((val (fun i => f (s + i)) k : Nat) : Int) ∧ Hid (res s (run (fun i => f (s + i)) (n - s) (10 - k) k) = (X, E, R))) (fun _ i => 10 - (intOf i).toNat)
  case atStart => exact ⟨0, by omega, by omega, rfl, rfl, hR⟩
  case round =>
    obtain ⟨k, hk, hkn, rfl, rfl, hrun⟩ := hrel
    by_cases h1 : s + k = n
    · obtain ⟨rfl, rfl, rfl⟩ := res_at hk hrun.out (r := (0, 0, 10)) (by unfold out; rw [if_pos (by omega)])
      clear hrun hR
      go_wp2
      go_ret3
      exact ⟨rfl, rfl⟩
    · rcases hcells with h0 | ⟨b, off, rfl, hcell⟩
      · omega
      · have hc := hcell (s + k) (by omega)
        have hfk := hf (s + k)
        have hmk := mask (f (s + k)) hfk
        have hc2 : w.cell? ⟨b, off + s + k, none⟩ = some (.int .u8 ((f (s + k) : Nat) : Int)) := by rw [Nat.add_assoc]; exact hc
        have hor := fun V W hV hW h => or_step (fun i => f (s + i)) V (f (s + k)) k W hV rfl h hW
        have h1I : ((s + k : Nat) : Int) < n := by omega
        have hout : out (fun i => f (s + i)) (n - s) k = if k = 9 ∧ 1 < f (s + k) then some (0, 0, 11) else if 128 ≤ f (s + k) then none else if f (s + k) = 0 ∧ 0 < k then some (0, 0, 12) else some (val (fun i => f (s + i)) (k + 1), k + 1, 0) := by
          unfold out; rw [if_neg (by omega)]
        generalize f (s + k) = C at *
        obtain ⟨V, hV⟩ : ∃ V, Hid (val (fun i => f (s + i)) k = V) := ⟨_, rfl⟩
        obtain ⟨W, hW⟩ : ∃ W, Hid (val (fun i => f (s + i)) (k + 1) = W) := ⟨_, rfl⟩
        replace hor := hor V W hV.out hW.out
        rw [hV.out]
        rw [hW.out] at hout
        clear hcell hf hR h1 hV
        by_cases h2 : k = 9 ∧ 1 < C
        · rw [if_pos h2] at hout
          obtain ⟨rfl, rfl, rfl⟩ := res_at hk hrun.out hout
          obtain ⟨rfl, h2⟩ := h2
          clear hrun hout hor
          go_wp2
          go_ret3
          exact ⟨rfl, rfl⟩
        · replace hor := hor (by omega)
          rw [if_neg h2] at hout
          by_cases h3 : 128 ≤ C
          · rw [if_pos h3] at hout
            have hrun2 := hrun.out
            rw [run_none hk hout] at hrun2
            have hrun3 : Hid (res s (run (fun i => f (s + i)) (n - s) (10 - (k + 1)) (k + 1)) = (X, E, R)) := hrun2
            have hk9 : ¬ (k : Int) = 9 := by omega
            clear hrun hout hrun2 h2
            go_wp2
            go_round
            case rel => exact ⟨u4, u5, u6, .int .u64 ((W : Nat) : Int), .int .i64 k, .int .u8 C, .int .i64 (k + 1), ⟨k + 1, by omega, by omega, by go_num, by rw [hW.out], hrun3⟩, rfl, rfl, rfl, rfl, rfl, rfl, rfl⟩
            case measure => simp [intOf]; omega
          · rw [if_neg h3] at hout
            by_cases h4 : C = 0 ∧ 0 < k
            · rw [if_pos h4] at hout
              obtain ⟨rfl, rfl, rfl⟩ := res_at hk hrun.out hout
              obtain ⟨rfl, h4⟩ := h4
              clear hrun hout h2 h3
              go_wp2
              all_goals go_ret3
              all_goals exact ⟨rfl, rfl⟩
            · rw [if_neg h4] at hout
              obtain ⟨rfl, rfl, rfl⟩ := res_at hk hrun.out hout
              clear hrun hout hW
              by_cases h9 : k = 9
              · subst h9
                have e9 : IntKind.u64.wrap ((C : Int) % 128 * 2 ^ (7 * 9)) = (C : Int) % 128 * 9223372036854775808 := by
                  rw [IntKind.wrap_u64, show (2 : Int) ^ (7 * 9) = 9223372036854775808 from by decide]; omega
                rw [e9] at hor
                have hC1 : ¬ (1 < C) := by omega
                have hC0 : ¬ (C = 0) := by omega
                clear h2 h4 e9
                go_wp2
                go_ret3
                exact ⟨ret_three rfl (by show _ = ((s + (9 + 1) : Nat) : Int); omega) rfl, rfl⟩
              · have h9I : ¬ (k : Int) = 9 := by omega
                clear h2 h9
                go_wp2
                all_goals go_ret3
                all_goals exact ⟨ret_three (by first | rfl | exact hor) (by show _ = ((s + (k + 1) : Nat) : Int); omega) rfl, rfl⟩
end Go.Proofs.YtonkcnaijcpfdaaGreatDoor.octet
/- Numbers there and back on plain numbers: what Put writes is read as it was; what is read is what Put writes. And Get, at every place. -/
namespace Go.Proofs.YtonkcnaijcpfdaaGreatDoor.octet
open Go.ChangeShapes Go.WideShapes Go.ChangeAt Go.RowKit
open wrapped
set_option linter.unusedVariables false
theorem val_congr (g h : Nat → Nat) (k : Nat) (e : ∀ i, i < k → g i = h i) : val g k = val h k := by
  induction k with
  | zero => rfl
  | succ k ih => show val g k + _ = val h k + _; rw [ih fun i hi => e i (by omega), e k (by omega)]
theorem gr_mod (x i : Nat) : gr x i % 128 = x / 128 ^ i % 128 := by unfold gr; split <;> omega
theorem val_gr (x k : Nat) : val (gr x) k = x % 128 ^ k := by
  induction k with
  | zero => show 0 = x % 1; omega
  | succ k ih => show val (gr x) k + gr x k % 128 * 128 ^ k = _; rw [ih, gr_mod, Nat.pow_succ, Nat.mod_mul, Nat.mul_comm (128 ^ k)]
theorem out_gr_more (x k : Nat) (hx : x < 18446744073709551616) (h : k + 1 < szN x) : out (gr x) (szN x) k = none := by
  have hb := szN_bd x hx
  unfold out
  rw [if_neg (by omega), if_neg (by omega), if_pos (by rw [gr_more x k h]; omega)]
theorem out_gr_last (x : Nat) (hx : x < 18446744073709551616) : out (gr x) (szN x) (szN x - 1) = some (x, szN x, 0) := by
  have hb := szN_bd x hx
  obtain ⟨e, hl⟩ := gr_last x hx
  obtain ⟨p1, p2⟩ := sz_pow x hx
  have h9 : ¬ (szN x - 1 = 9 ∧ 1 < gr x (szN x - 1)) := by
    rintro ⟨h1, h2⟩
    rw [e, h1] at h2
    have : x / 128 ^ 9 ≤ 1 := by
      have h3 : (128 : Nat) ^ 9 = 9223372036854775808 := by decide
      rw [h3]; omega
    omega
  have h0 : ¬ (gr x (szN x - 1) = 0 ∧ 0 < szN x - 1) := by
    rintro ⟨h1, h2⟩
    have h3 := p2 (by omega)
    rw [e] at h1
    have h4 : 0 < x / 128 ^ (szN x - 1) := Nat.div_pos h3 (Nat.pow_pos (by decide))
    omega
  unfold out
  rw [if_neg (by omega), if_neg h9, if_neg (by omega), if_neg h0, show szN x - 1 + 1 = szN x by omega, val_gr, Nat.mod_eq_of_lt p1]
theorem run_gr (x : Nat) (hx : x < 18446744073709551616) : run (gr x) (szN x) 10 0 = (x, szN x, 0) := by
  have hb := szN_bd x hx
  have h : ∀ k, k ≤ szN x - 1 → run (gr x) (szN x) (10 - k) k = run (gr x) (szN x) 10 0 := by
    intro k
    induction k with
    | zero => intro _; rfl
    | succ k ih => intro hk; rw [← run_none (by omega) (out_gr_more x k hx (by omega))]; exact ih (by omega)
  rw [← h (szN x - 1) (Nat.le_refl _), run_some (by omega) (out_gr_last x hx)]
theorem run_congr (g h : Nat → Nat) (m : Nat) (e : ∀ i, i < m → g i = h i) (fuel k : Nat) (hk : k ≤ m) : run g m fuel k = run h m fuel k := by
  induction fuel generalizing k with
  | zero => rfl
  | succ fuel ih =>
    have ho : out g m k = out h m k := by
      by_cases h1 : k = m
      · unfold out; rw [if_pos h1, if_pos h1]
      · unfold out; rw [if_neg h1, if_neg h1, e k (by omega), val_congr g h (k + 1) fun i hi => e i (by omega)]
    show (match out g m k with | some r => r | none => run g m fuel (k + 1)) = (match out h m k with | some r => r | none => run h m fuel (k + 1))
    rw [← ho]
    by_cases h1 : k = m
    · have : out g m k = some (0, 0, 10) := by unfold out; rw [if_pos h1]
      rw [this]
    · rw [ih (k + 1) (by omega)]
/-- What Put wrote behind n bytes is read there. -/
theorem run_back (f : Nat → Nat) (n x : Nat) (hx : x < 18446744073709551616) : run (fun i => cat f n (gr x) (n + i)) (n + szN x - n) 10 0 = (x, szN x, 0) := by
  rw [show n + szN x - n = szN x by omega, ← run_gr x hx]
  refine run_congr _ _ _ (fun i _ => ?_) 10 0 (by omega)
  show cat f n (gr x) (n + i) = _
  unfold cat; rw [if_neg (by omega), show n + i - n = i by omega]
theorem sz_unique (x k : Nat) (hx : x < 18446744073709551616) (h1 : k = 0 ∨ 128 ^ k ≤ x) (h2 : x < 128 ^ (k + 1)) : szN x = k + 1 := by
  have hb := szN_bd x hx
  obtain ⟨p1, p2⟩ := sz_pow x hx
  rcases Nat.lt_trichotomy (szN x) (k + 1) with h | h | h
  · have h3 : 128 ^ szN x ≤ 128 ^ k := Nat.pow_le_pow_right (by decide) (by omega)
    rcases h1 with h1 | h1 <;> omega
  · exact h
  · have h3 : 128 ^ (k + 1) ≤ 128 ^ (szN x - 1) := Nat.pow_le_pow_right (by decide) (by omega)
    have := p2 (by omega)
    omega
/-- What a number that was read is. -/
theorem run_spec (g : Nat → Nat) (m fuel k : Nat) (hk : k + fuel ≤ 10) (hm : k ≤ m) (hc : ∀ i, i < k → 128 ≤ g i) :
    (run g m fuel k).2.2 = 0 ∧ (∃ c, k ≤ c ∧ c ≤ 9 ∧ c < m ∧ (∀ i, i < c → 128 ≤ g i) ∧ g c < 128 ∧ (c = 0 ∨ 0 < g c) ∧ (c = 9 → g c ≤ 1) ∧ run g m fuel k = (val g (c + 1), c + 1, 0)) ∨
    (∃ e, 10 ≤ e ∧ e ≤ 12 ∧ run g m fuel k = (0, 0, e)) := by
  induction fuel generalizing k with
  | zero => exact .inr ⟨11, by omega, by omega, rfl⟩
  | succ fuel ih =>
    have hrun : run g m (fuel + 1) k = (match out g m k with | some r => r | none => run g m fuel (k + 1)) := rfl
    by_cases h1 : k = m
    · right; refine ⟨10, by omega, by omega, ?_⟩; rw [hrun]; unfold out; rw [if_pos h1]
    · by_cases h2 : k = 9 ∧ 1 < g k
      · right; refine ⟨11, by omega, by omega, ?_⟩; rw [hrun]; unfold out; rw [if_neg h1, if_pos h2]
      · by_cases h3 : 128 ≤ g k
        · have ho : out g m k = none := by unfold out; rw [if_neg h1, if_neg h2, if_pos h3]
          rw [hrun, ho]
          rcases ih (k + 1) (by omega) (by omega) (fun i hi => by rcases Nat.lt_or_ge i k with h | h; exact hc i h; exact (show i = k by omega) ▸ h3) with ⟨e, c, h⟩ | h
          · exact .inl ⟨e, c, by omega, h.2⟩
          · exact .inr h
        · by_cases h4 : g k = 0 ∧ 0 < k
          · right; refine ⟨12, by omega, by omega, ?_⟩; rw [hrun]; unfold out; rw [if_neg h1, if_neg h2, if_neg h3, if_pos h4]
          · have ho : out g m k = some (val g (k + 1), k + 1, 0) := by unfold out; rw [if_neg h1, if_neg h2, if_neg h3, if_neg h4]
            left
            rw [hrun, ho]
            exact ⟨rfl, k, by omega, by omega, by omega, hc, by omega, by omega, by omega, rfl⟩
theorem val_div (g : Nat → Nat) (i : Nat) : ∀ k, i < k → val g k / 128 ^ i % 128 = g i % 128 := by
  intro k
  induction k with
  | zero => intro h; omega
  | succ k ih =>
    intro hi
    show (val g k + g k % 128 * 128 ^ k) / 128 ^ i % 128 = _
    by_cases h : i = k
    · subst h
      rw [Nat.add_mul_div_right _ _ (Nat.pow_pos (by decide)), Nat.div_eq_of_lt (val_lt g i), Nat.zero_add, Nat.mod_mod]
    · have e : g k % 128 * 128 ^ k = g k % 128 * 128 ^ (k - i - 1) * 128 * 128 ^ i := by
        rw [Nat.mul_assoc, Nat.mul_assoc, ← Nat.pow_succ', ← Nat.pow_add]
        congr 2; omega
      rw [e, Nat.add_mul_div_right _ _ (Nat.pow_pos (by decide)), Nat.add_mul_mod_self_right]
      exact ih (by omega)
/-- A number that was read has just the bytes that it was read from. -/
theorem once (g : Nat → Nat) (c : Nat) (hc : c ≤ 9) (h1 : ∀ i, i < c → 128 ≤ g i) (hb : ∀ i, g i < 256) (h2 : g c < 128) (h3 : c = 0 ∨ 0 < g c) (h4 : c = 9 → g c ≤ 1) :
    val g (c + 1) < 18446744073709551616 ∧ szN (val g (c + 1)) = c + 1 ∧ ∀ i, i < c + 1 → gr (val g (c + 1)) i = g i := by
  have hv : val g (c + 1) = val g c + g c * 128 ^ c := by show val g c + g c % 128 * 128 ^ c = _; rw [Nat.mod_eq_of_lt h2]
  have hl := val_lt g c
  have hx : val g (c + 1) < 18446744073709551616 := by
    by_cases h9 : c = 9
    · subst h9
      rw [hv]
      have e : (128 : Nat) ^ 9 = 9223372036854775808 := by decide
      rw [e] at hl ⊢
      have := h4 rfl
      omega
    · exact Nat.lt_of_lt_of_le (val_lt g (c + 1)) (Nat.le_trans (Nat.pow_le_pow_right (by decide) (show c + 1 ≤ 9 by omega)) (by decide))
  have hs : szN (val g (c + 1)) = c + 1 := by
    refine sz_unique _ c hx ?_ (val_lt g (c + 1))
    rcases h3 with h | h
    · exact .inl h
    · right; rw [hv]
      have : 1 * 128 ^ c ≤ g c * 128 ^ c := Nat.mul_le_mul_right _ h
      omega
  refine ⟨hx, hs, fun i hi => ?_⟩
  have hm := val_div g i (c + 1) hi
  unfold gr
  rw [hs, hm]
  by_cases h : i < c
  · rw [if_pos (by omega)]; have := h1 i h; have := hb i; omega
  · rw [if_neg (by omega), show i = c by omega]; omega
/-- What Get answers at every place. -/
def gotten (f : Nat → Nat) (n : Nat) (at_ : Int) : Int × Int × Int := if 0 ≤ at_ ∧ at_ ≤ n then res at_.toNat (run (fun i => f (at_.toNat + i)) (n - at_.toNat) 10 0) else (0, 0, 1)
theorem get_any (a : Option Addr) (n c : Nat) (at_ : Int) (f : Nat → Nat) (w : World) (hr : Row w a n f) (X E R : Int) (h : gotten f n at_ = (X, E, R)) (l1 : -9223372036854775808 ≤ at_) (l2 : at_ ≤ 9223372036854775807) :
    Calls Tryz.prog 127 #[.slice a n c, .int .i64 at_] w fun e w' => e = .returned (.tuple #[.int .u64 X, .int .i64 E, .int .i64 R]) ∧ w' = w := by
  unfold gotten at h
  by_cases hb : 0 ≤ at_ ∧ at_ ≤ n
  · rw [if_pos hb] at h
    have e : at_ = ((at_.toNat : Nat) : Int) := by omega
    have := get_walk a n c at_.toNat f w hr (by omega) (by have := hr.1; omega) X E R h
    rwa [← e] at this
  · rw [if_neg hb] at h
    simp only [Prod.mk.injEq] at h
    obtain ⟨rfl, rfl, rfl⟩ := h
    have hn : (n : Int) ≤ 9223372036854775807 := by have := hr.1; omega
    clear hr
    by_cases h0 : at_ < 0
    · clear hb
      go_enter Tryz.func127, Tryz.ntmps127
      go_wp2_with (go_in)
      go_ret3
      exact ⟨rfl, rfl⟩
    · have h1 : (n : Int) < at_ := by omega
      have h2 : decide (at_ ≤ (n : Int)) = false := decide_eq_false (by omega)
      clear hb
      go_enter Tryz.func127, Tryz.ntmps127
      go_wp2_with (go_in)
      go_ret3
      exact ⟨rfl, rfl⟩
theorem gotten_bd (f : Nat → Nat) (hf : ∀ i, f i < 256) (n : Nat) (at_ X E R : Int) (h : gotten f n at_ = (X, E, R)) : 0 ≤ X ∧ X < 18446744073709551616 := by
  unfold gotten at h
  by_cases hb : 0 ≤ at_ ∧ at_ ≤ n
  · rw [if_pos hb] at h
    rcases run_spec (fun i => f (at_.toNat + i)) (n - at_.toNat) 10 0 (by omega) (by omega) (fun i hi => by omega) with ⟨_, c, _, h9, _, h1, h2, h3, h4, e⟩ | ⟨e', _, _, e⟩
    · have := (once (fun i => f (at_.toNat + i)) c h9 h1 (fun i => hf _) h2 h3 h4).1
      rw [e] at h
      unfold res at h
      simp only [Prod.mk.injEq] at h
      omega
    · rw [e] at h
      unfold res at h
      simp only [Prod.mk.injEq] at h
      omega
  · rw [if_neg hb] at h
    simp only [Prod.mk.injEq] at h
    omega
theorem zb_zg (y : Int) : zb (zg y) = y := by unfold zb zg; split <;> split <;> omega
theorem zg_zb (u : Int) (h : 0 ≤ u) : zg (zb u) = u := by unfold zb zg; split <;> split <;> omega
theorem zb_bd (u : Int) (h : 0 ≤ u) (g : u < 18446744073709551616) : -9223372036854775808 ≤ zb u ∧ zb u ≤ 9223372036854775807 := by unfold zb; split <;> omega
/-- What Put wrote is read, and the place behind it. -/
theorem gotten_back (f : Nat → Nat) (n x : Nat) (hx : x < 18446744073709551616) : gotten (cat f n (gr x)) (n + szN x) (n : Int) = ((x : Int), ((n + szN x : Nat) : Int), 0) := by
  unfold gotten
  rw [if_pos (by omega), Int.toNat_natCast, run_back f n x hx]
  unfold res
  simp
end Go.Proofs.YtonkcnaijcpfdaaGreatDoor.octet
/- The reader of package code, as plain mathematics: what it reads. -/
namespace Go.Proofs.YtonkcnaijcpfdaaGreatDoor.pg
set_option linter.unusedVariables false
set_option linter.unusedSimpArgs false
/-- These bytes lie at place k. -/
def Has (f : Nat → Nat) (n k : Nat) (L : List Nat) : Prop := k + L.length ≤ n ∧ ∀ (i b : Nat), L[i]? = some b → f (k + i) = b
theorem Has.nil {f : Nat → Nat} {n k : Nat} (h : k ≤ n) : Has f n k [] := ⟨by simpa using h, by simp⟩
theorem Has.app {f : Nat → Nat} {n k : Nat} {L M : List Nat} : Has f n k (L ++ M) ↔ Has f n k L ∧ Has f n (k + L.length) M := by
  constructor
  · rintro ⟨h1, h2⟩
    rw [List.length_append] at h1
    refine ⟨⟨by omega, fun i b hb => h2 i b ?_⟩, by omega, fun i b hb => ?_⟩
    · rw [List.getElem?_append_left (List.getElem?_eq_some_iff.mp hb).1]; exact hb
    · have := h2 (L.length + i) b (by rw [List.getElem?_append_right (by omega), Nat.add_sub_cancel_left]; exact hb)
      rwa [← Nat.add_assoc] at this
  · rintro ⟨⟨h1, h2⟩, h3, h4⟩
    refine ⟨by rw [List.length_append]; omega, fun i b hb => ?_⟩
    by_cases hi : i < L.length
    · rw [List.getElem?_append_left hi] at hb; exact h2 i b hb
    · rw [List.getElem?_append_right (by omega)] at hb
      have := h4 _ _ hb
      rwa [show k + L.length + (i - L.length) = k + i by omega] at this
theorem putB_get (x i : Nat) (h : i < octet.szN x) : (putB x)[i]? = some (octet.gr x i) := by simp [putB, h]
theorem run_has (g : Nat → Nat) (m x : Nat) (hx : x < 18446744073709551616) (hm : octet.szN x ≤ m) (h : ∀ i, i < octet.szN x → g i = octet.gr x i) : octet.run g m 10 0 = (x, octet.szN x, 0) := by
  have hb := octet.szN_bd x hx
  have key : ∀ d k, k + d + 1 = octet.szN x → octet.run g m (10 - k) k = (x, octet.szN x, 0) := by
    intro d
    induction d with
    | zero =>
      intro k hk
      have h1 := octet.out_gr_last x hx
      rw [show octet.szN x - 1 = k by omega] at h1
      refine octet.run_some (by omega) ?_
      have hv : octet.val g (k + 1) = octet.val (octet.gr x) (k + 1) := octet.val_congr _ _ _ fun i hi => h i (by omega)
      unfold octet.out at h1 ⊢
      rw [h k (by omega), hv]
      rw [if_neg (show ¬ k = octet.szN x by omega)] at h1
      rw [if_neg (show ¬ k = m by omega)]
      exact h1
    | succ d ih =>
      intro k hk
      have h1 := octet.out_gr_more x k hx (by omega)
      have h2 : octet.out g m k = none := by
        unfold octet.out at h1 ⊢
        rw [h k (by omega)]
        rw [if_neg (show ¬ k = octet.szN x by omega)] at h1
        rw [if_neg (show ¬ k = m by omega)]
        split at h1
        · simp at h1
        · rename_i q
          rw [if_neg q]
          split at h1
          · rename_i q2; rw [if_pos q2]
          · exfalso; split at h1 <;> simp at h1
      rw [octet.run_none (by omega) h2]
      exact ih (k + 1) (by omega)
  have := key (octet.szN x - 1) 0 (by omega)
  exact this
theorem gotten_has {f : Nat → Nat} {n k x : Nat} (h : Has f n k (putB x)) (hx : x < 18446744073709551616) : octet.gotten f n (k : Int) = ((x : Int), ((k + octet.szN x : Nat) : Int), 0) := by
  have h1 := h.1
  rw [putB_len] at h1
  unfold octet.gotten
  rw [if_pos (by omega), show ((k : Int)).toNat = k by omega, run_has _ _ x hx (by omega) fun i hi => h.2 i _ (putB_get x i hi)]
  simp [octet.res]
theorem gotten_once {f : Nat → Nat} (hf : ∀ i, f i < 256) {n k : Nat} {X E : Int} (h : octet.gotten f n (k : Int) = (X, E, 0)) : ∃ x : Nat, X = x ∧ x < 18446744073709551616 ∧ E = ((k + octet.szN x : Nat) : Int) ∧ Has f n k (putB x) := by
  unfold octet.gotten at h
  by_cases hk : 0 ≤ (k : Int) ∧ (k : Int) ≤ n
  · rw [if_pos hk, show ((k : Int)).toNat = k by omega] at h
    rcases octet.run_spec (fun i => f (k + i)) (n - k) 10 0 (by omega) (by omega) (by intro i hi; omega) with ⟨_, c, _, hc9, hcm, h1, h2, h3, h4, hr⟩ | ⟨e, he1, he2, hr⟩
    · rw [hr] at h
      obtain ⟨o1, o2, o3⟩ := octet.once (fun i => f (k + i)) c hc9 h1 (fun i => hf _) h2 h3 h4
      simp only [octet.res, if_true, Prod.mk.injEq] at h
      refine ⟨octet.val (fun i => f (k + i)) (c + 1), h.1.symm, o1, by rw [← h.2.1, o2], by rw [putB_len, o2]; omega, fun i b hb => ?_⟩
      have hi : i < octet.szN (octet.val (fun i => f (k + i)) (c + 1)) := by have := (List.getElem?_eq_some_iff.mp hb).1; rwa [putB_len] at this
      rw [putB_get _ _ hi] at hb
      simp only [Option.some.injEq] at hb
      rw [← hb]
      exact (o3 i (by omega)).symm
    · rw [hr] at h
      simp only [octet.res, Prod.mk.injEq] at h
      omega
  · rw [if_neg hk] at h
    simp only [Prod.mk.injEq] at h
    omega
/-- A reader: the place, what is wrong, where what was read last began. -/
structure RS where
  k : Nat
  e : Int
  at_ : Nat
def RS.fail (s : RS) (e : Int) : RS := if s.e = 0 then ⟨s.k, e, s.at_⟩ else s
theorem RS.fail_e {s : RS} {e : Int} (he : e ≠ 0) : (s.fail e).e ≠ 0 := by unfold RS.fail; split <;> assumption
section
variable (f : Nat → Nat) (n : Nat)
def rdU (s : RS) : Int × RS :=
  if s.e = 0 then (if (octet.gotten f n s.k).2.2 = 0 then ((octet.gotten f n s.k).1, ⟨(octet.gotten f n s.k).2.1.toNat, 0, s.k⟩) else (0, ⟨s.k, (octet.gotten f n s.k).2.2, s.k⟩)) else (0, s)
def rdS (s : RS) : Int × RS := (octet.zb (rdU f n s).1, (rdU f n s).2)
def rdNum (s : RS) : Int × RS := if 2147483647 < (rdU f n s).1 then (0, (rdU f n s).2.fail 8) else rdU f n s
def rdCnt (m : Int) (s : RS) : Int × RS := if m < (rdU f n s).1 then (0, (rdU f n s).2.fail 30) else rdU f n s
def rdFlag (s : RS) : Bool × RS := (decide ((rdU f n s).1 = 1), if 1 < (rdU f n s).1 then (rdU f n s).2.fail 8 else (rdU f n s).2)
def rdMany {α : Type} (rd : RS → α × RS) : Nat → RS → List α × RS
  | 0, s => ([], s)
  | m + 1, s => ((rdMany rd m s).1 ++ [(rd (rdMany rd m s).2).1], (rd (rdMany rd m s).2).2)
def rdList {α : Type} (m : Int) (rd : RS → α × RS) (s : RS) : List α × RS := rdMany rd (rdCnt f n m s).1.toNat (rdCnt f n m s).2
def rdVar (s : RS) : Vr × RS := (⟨(rdFlag f n s).1, (rdS f n (rdFlag f n s).2).1⟩, (rdS f n (rdFlag f n s).2).2)
def rdCas (s : RS) : Cas × RS :=
  let a := rdFlag f n s
  let b := rdNum f n a.2
  let c := rdNum f n b.2
  let d := rdNum f n c.2
  (⟨a.1, b.1, c.1 - 1, d.1⟩, d.2)
def rdSel (s : RS) : Sel × RS :=
  let a := rdList f n 4 (rdCas f n) s
  let b := rdNum f n a.2
  (⟨a.1, b.1 - 1⟩, b.2)
def rdOp (l : Int) (s : RS) : Int × RS := if l = 45 then (0, s) else if l = 111 then ((rdNum f n s).1 - 1, (rdNum f n s).2) else if l = 110 then rdS f n s else rdNum f n s
def rdIns (s : RS) : Ins × RS :=
  let o := rdNum f n s
  if formOf o.1 = [] then (⟨0, 0, 0, 0, 0⟩, o.2.fail 33) else
  let a := rdOp f n (lt o.1 0) o.2
  let b := rdOp f n (lt o.1 1) a.2
  let c := rdOp f n (lt o.1 2) b.2
  let d := rdOp f n (lt o.1 3) c.2
  (⟨o.1, a.1, b.1, c.1, d.1⟩, d.2)
def rdFn (s : RS) : Fn × RS :=
  let a := rdNum f n s
  let b := rdNum f n a.2
  let c := rdList f n 4 (rdSel f n) b.2
  let d := rdList f n 64 (rdIns f n) c.2
  (⟨a.1, b.1, d.1, c.1⟩, d.2)
def rdPr (s : RS) : Pr × RS :=
  let a := rdList f n 8 (rdVar f n) s
  let b := rdNum f n a.2
  let c := rdList f n 4 (rdNum f n) b.2
  let d := rdList f n 8 (rdFn f n) c.2
  (⟨a.1, b.1, c.1, d.1⟩, d.2)
end
section
variable {f : Nat → Nat} {n : Nat}
theorem rdU_range (hf : ∀ i, f i < 256) (s : RS) : 0 ≤ (rdU f n s).1 ∧ (rdU f n s).1 < 18446744073709551616 := by
  unfold rdU
  split
  · split
    · exact octet.gotten_bd f hf n s.k _ _ _ rfl
    · exact ⟨Int.le_refl _, by show (0 : Int) < _; decide⟩
  · exact ⟨Int.le_refl _, by show (0 : Int) < _; decide⟩
theorem rdS_range (hf : ∀ i, f i < 256) (s : RS) : I64 (rdS f n s).1 := octet.zb_bd _ (rdU_range hf s).1 (rdU_range hf s).2
theorem rdNum_range (hf : ∀ i, f i < 256) (s : RS) : 0 ≤ (rdNum f n s).1 ∧ (rdNum f n s).1 ≤ 2147483647 := by
  have := rdU_range hf (n := n) s
  unfold rdNum
  split
  · exact ⟨Int.le_refl _, by show (0 : Int) ≤ _; decide⟩
  · omega
theorem rdCnt_range (hf : ∀ i, f i < 256) (m : Int) (hm : 0 ≤ m) (s : RS) : 0 ≤ (rdCnt f n m s).1 ∧ (rdCnt f n m s).1 ≤ m := by
  have := rdU_range hf (n := n) s
  unfold rdCnt
  split
  · exact ⟨Int.le_refl _, hm⟩
  · omega
theorem many_len {α : Type} (rd : RS → α × RS) (m : Nat) (s : RS) : (rdMany rd m s).1.length = m := by
  induction m with
  | zero => rfl
  | succ m ih => simp only [rdMany, List.length_append, ih, List.length_singleton]
end
end Go.Proofs.YtonkcnaijcpfdaaGreatDoor.pg
