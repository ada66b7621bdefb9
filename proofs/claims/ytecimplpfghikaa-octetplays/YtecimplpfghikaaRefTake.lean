/- A reader in memory: the contract of Take of the document's own reader. -/
import Derived.Test.YtecimplpfghikaaTake
namespace Go.Proofs.Ytecimplpfghikaa.octet
open Go.ChangeShapes Go.WideShapes Go.ChangeAt Go.RowKit
open wrapped
set_option linter.unusedVariables false
theorem reftake_neg (b : Nat) (q : Int) (w : World) (h1 : q < 0) : Calls Try.prog 29 #[rp b, .int .i64 q] w fun e w' => e = .returned (.tuple #[.slice none 0 0, .int .i64 1]) ∧ w' = w := by
  go_enter Try.func29, Try.ntmps29
  go_wp2
  go_ret2
  exact ⟨rfl, rfl⟩
theorem reftake_short (b : Nat) (a : Option Addr) (n c k : Nat) (q : Int) (w : World) (h : Rd w b 51 (.slice a n c) k) (hk : k ≤ n) (hn : (n : Int) ≤ 9223372036854775807) (h0 : 0 ≤ q) (h1 : (n : Int) - k < q) :
    Calls Try.prog 29 #[rp b, .int .i64 q] w fun e w' => e = .returned (.tuple #[.slice none 0 0, .int .i64 10]) ∧ ∃ m, w' = w.drewN m := by
  have c0 := h.c0
  have c1 := h.c1
  have hw : IntKind.i64.wrap ((n : Int) - (k : Int)) = (n : Int) - (k : Int) := by rw [IntKind.wrap_i64]; omega
  clear h hk
  go_enter Try.func29, Try.ntmps29
  go_wp2_with fail
  go_quiet (fail)
  go_wp2
  go_ret2
  exact ⟨rfl, _, rfl⟩
/-- What Take leaves where there is enough. -/
def Took (b : Nat) (a : Option Addr) (n k q : Nat) (f : Nat → Nat) (w : World) (e : Ending) (w' : World) : Prop :=
  ∃ A C, e = .returned (.tuple #[.slice A q C, .int .i64 0]) ∧ (∀ w'', Row w'' a n f → Row w'' A q (fun i => f (k + i))) ∧ ∃ m, w' = (w.drewN m).setCell ⟨b, 1, none⟩ (.int .i64 ((k + q : Nat) : Int))
set_option maxHeartbeats 1000000 in
theorem reftake_some (b : Nat) (a : Option Addr) (n c k q : Nat) (f : Nat → Nat) (w : World) (h : Rd w b 51 (.slice a n c) k) (hr : Row w a n f) (hnn : a = none → n = 0 ∧ c = 0) (hnc : n ≤ c) (hc : (c : Int) ≤ 9223372036854775807) (hq : k + q ≤ n) :
    Calls Try.prog 29 #[rp b, .int .i64 ((q : Nat) : Int)] w (Took b a n k q f w) := by
  have c0 := h.c0
  have c1 := h.c1
  have fz := h.fz 1
  have hq0 : (0 : Int) ≤ (q : Int) := by omega
  have hw : IntKind.i64.wrap ((n : Int) - (k : Int)) = (n : Int) - (k : Int) := by rw [IntKind.wrap_i64]; omega
  have hq1 : ¬ ((n : Int) - (k : Int) < (q : Int)) := by omega
  have hq2 : (q : Int) ≤ (n : Int) - (k : Int) := by omega
  have hw2 : IntKind.i64.wrap ((k : Int) + (q : Int)) = (k : Int) + (q : Int) := by rw [IntKind.wrap_i64]; omega
  have hk0 : (0 : Int) ≤ (k : Int) := by omega
  have hk1 : (k : Int) ≤ (k : Int) + (q : Int) := by omega
  have hk2 : (k : Int) + (q : Int) ≤ (c : Int) := by omega
  have hk3 : (0 : Int) ≤ (k : Int) + (q : Int) := by omega
  have hrow0 : q = 0 → ∀ A w'', Row w'' a n f → Row w'' A q (fun i => f (k + i)) := fun h0 A w'' hr => ⟨by omega, fun i => hr.2.1 _, .inl h0⟩
  have hlenr := hr.1
  have hkq : Hid (k + q - k = q) := by show k + q - k = q; omega
  have hsum : (k : Int) + (q : Int) = ((k + q : Nat) : Int) := by omega
  have hsH : Hid ((k : Int) + (q : Int) = ((k + q : Nat) : Int)) := hsum
  clear hsum
  clear h
  cases a with
  | none =>
    obtain ⟨rfl, rfl⟩ := hnn rfl
    have hk00 : k = 0 := by omega
    have hq00 : q = 0 := by omega
    subst hk00 hq00
    have hR := hrow0 rfl
    clear hrow0 hr hnn
    go_enter Try.func29, Try.ntmps29
    go_wp2_with fail
    go_quiet (fail)
    go_wp2_with fail
    go_quiet (fail)
    go_wp2
    all_goals go_ret2
    all_goals exact ⟨_, _, rfl, hR _, _, rfl⟩
  | some ad =>
    by_cases hqq : q = 0
    · subst hqq
      have hR := hrow0 rfl
      clear hrow0 hr hnn
      go_enter Try.func29, Try.ntmps29
      go_wp2_with fail
      go_quiet (fail)
      go_wp2_with fail
      go_quiet (fail)
      go_wp2
      all_goals go_ret2
      all_goals exact ⟨_, _, rfl, hR _, _, rfl⟩
    · obtain ⟨ab, off, hab⟩ : ∃ ab off, ad = (⟨ab, off, none⟩ : Addr) := by
        rcases hr.2.2 with h0 | ⟨ab, off, e, _⟩
        · omega
        · exact ⟨ab, off, Option.some.inj e⟩
      subst hab
      have hck : ¬ c = k := by omega
      have hR : ∀ w'', Row w'' (some ⟨ab, off, none⟩) n f → Row w'' (some ⟨ab, off + k, none⟩) q (fun i => f (k + i)) := fun w'' hr => by
        refine ⟨by omega, fun i => hr.2.1 _, .inr ⟨ab, off + k, rfl, fun i hi => ?_⟩⟩
        rcases hr.2.2 with h0 | ⟨b', o', e, hcell⟩
        · omega
        · simp only [Option.some.injEq, Addr.mk.injEq, and_true] at e
          obtain ⟨rfl, rfl⟩ := e
          rw [Nat.add_assoc]; exact hcell (k + i) (by omega)
      clear hrow0 hr hnn
      go_enter Try.func29, Try.ntmps29
      go_wp2_with fail
      go_quiet (fail)
      go_wp2_with fail
      go_quiet (fail)
      go_wp2
      go_ret2
      exact ⟨some ⟨ab, off + k, none⟩, c - k, congrArg (fun m => Ending.returned (.tuple #[.slice (some ⟨ab, off + k, none⟩) m (c - k), .int .i64 0])) hkq.out, hR, _, by rw [← hsH.out]⟩
end Go.Proofs.Ytecimplpfghikaa.octet
