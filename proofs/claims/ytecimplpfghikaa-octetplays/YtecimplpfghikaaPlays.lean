/- Both readers side by side in memory, and a script of steps that came in. -/
import Derived.Test.YtecimplpfghikaaNewRd
import Derived.Test.YtecimplpfghikaaSame
import Derived.Deep.SlicePairs
import Derived.WalkSmall
namespace Go.Proofs.Ytecimplpfghikaa.octet
open Go.ChangeShapes Go.WideShapes Go.ChangeAt Go.RowKit
open wrapped
set_option linter.unusedVariables false
theorem under46 : Try.prog.underlying 46 = some (.slice 53) := Try.underlying46
/-- What the walk is told of a script that came in: its steps lie in pairs of cells. -/
def IsPairs (w : World) (a : Option Addr) (len : Nat) (F : Nat → Int × Int) : Prop :=
  len ≤ 9223372036854775807 ∧ (len = 0 ∨ ∃ b off, a = some ⟨b, off, none⟩ ∧ ∀ i, i < len → w.cell? ⟨b, off + i * 2, none⟩ = some (.int .i64 (F i).1) ∧ w.cell? ⟨b, off + (i * 2 + 1), none⟩ = some (.int .i64 (F i).2) ∧
    -9223372036854775808 ≤ (F i).1 ∧ (F i).1 ≤ 9223372036854775807 ∧ -9223372036854775808 ≤ (F i).2 ∧ (F i).2 ≤ 9223372036854775807)
theorem IsPairs.later {w w' : World} {a : Option Addr} {len : Nat} {F : Nat → Int × Int} (h : IsPairs w a len F) (hb : Below w.heap.size w w') : IsPairs w' a len F :=
  ⟨h.1, h.2.imp_right fun ⟨b, off, ha, hc⟩ => ⟨b, off, ha, fun i hi => ⟨cell_later hb (hc i hi).1, cell_later hb (hc i hi).2.1, (hc i hi).2.2⟩⟩⟩
theorem pairs_in {H : Type} {enc : TypeId × Value → H} {w : World} {base : Nat} {held : Bool} {fuel : Nat} {a : Option Addr} {len cap : Nat} {x : DataW H × List MemPlace}
    (h : DataW.trod enc Try.prog w base (fun _ => true) held fuel 46 (Value.slice a len cap).cells.toList = some x) : ∃ F, IsPairs w a len F := by
  rcases Go.Deep.open_slice_pairs Try.underlying46 Try.underlying53 (by kernel_rfl) rfl rfl (by kernel_rfl) (by kernel_rfl) h with ⟨hcs, _⟩ | ⟨x, l, c, m, nn, V0, V1, D0, D1, P0, P1, hcs, _, hl, hm, hmm, _, hx⟩
  · simp [Value.cells] at hcs
    obtain ⟨rfl, rfl, rfl⟩ := hcs
    exact ⟨fun _ => (0, 0), by decide, .inl rfl⟩
  · simp [Value.cells] at hcs
    obtain ⟨rfl, rfl, rfl⟩ := hcs
    simp only [if_true] at hmm
    subst hmm
    unfold maxLen at hm
    by_cases h0 : len = 0
    · exact ⟨fun _ => (0, 0), by omega, .inl h0⟩
    have each : ∀ i, i < len → ∃ p : Int × Int, V0 i = .int .i64 p.1 ∧ V1 i = .int .i64 p.2 ∧ -9223372036854775808 ≤ p.1 ∧ p.1 ≤ 9223372036854775807 ∧ -9223372036854775808 ≤ p.2 ∧ p.2 ≤ 9223372036854775807 := fun i hi => by
      obtain ⟨_, _, t0, t1⟩ := hx i (by omega)
      obtain ⟨z0, e0, _, b0⟩ := DataW.trod_int Try.underlying3 t0
      obtain ⟨z1, e1, _, b1⟩ := DataW.trod_int Try.underlying3 t1
      simp only [List.cons.injEq, and_true] at e0 e1
      obtain ⟨l0, u0⟩ := wf_bounds b0
      obtain ⟨l1, u1⟩ := wf_bounds b1
      exact ⟨(z0, z1), e0, e1, l0, u0, l1, u1⟩
    obtain ⟨F, hF⟩ : ∃ F : Nat → Int × Int, ∀ i, i < len → V0 i = .int .i64 (F i).1 ∧ V1 i = .int .i64 (F i).2 ∧ -9223372036854775808 ≤ (F i).1 ∧ (F i).1 ≤ 9223372036854775807 ∧ -9223372036854775808 ≤ (F i).2 ∧ (F i).2 ≤ 9223372036854775807 :=
      ⟨fun i => if hi : i < len then (each i hi).choose else (0, 0), fun i hi => by simp only [hi, dif_pos]; exact (each i hi).choose_spec⟩
    refine ⟨F, by omega, .inr ?_⟩
    obtain ⟨b, off, spot⟩ := x
    have hs : spot = none := by simpa [Addr.add] using World.cell?_spot (hx 0 (by omega)).1
    subst hs
    refine ⟨b, off, rfl, fun i hi => ?_⟩
    obtain ⟨h1, h2, _, _⟩ := hx i (by omega)
    obtain ⟨e1, e2, hb⟩ := hF i hi
    rw [e1] at h1
    rw [e2] at h2
    have ad : ∀ j, (⟨b, off, none⟩ : Addr).add j = ⟨b, off + j, none⟩ := fun j => by
      by_cases hj : j = 0
      · subst hj; rfl
      · simp [Addr.add, hj]
    rw [ad] at h1 h2
    exact ⟨h1, h2, hb⟩
/-- Both readers in memory: package octet's at k1, the document's own at k2. -/
structure St (w : World) (r g c' bw n : Nat) (a0 : Option Addr) (cap0 : Nat) (f : Nat → Nat) (wr : World) (k1 k2 : Nat) : Prop where
  rd : Rd wr r 75 (mine g n c') k1
  rf : Rd wr bw 51 (.slice a0 n cap0) k2
  ow : Owns wr w.heap.size g n c' f
  be : Below w.heap.size w wr
  h1 : k1 ≤ n
  h2 : k2 ≤ n
/-- What does not turn. -/
structure Env (w : World) (r g c' bw n : Nat) (a0 : Option Addr) (cap0 : Nat) (f : Nat → Nat) : Prop where
  rb : r ≠ bw
  gr : g ≠ r
  gb : g ≠ bw
  br : w.heap.size ≤ r
  bb : w.heap.size ≤ bw
  row : Row w a0 n f
  nn : a0 = none → n = 0 ∧ cap0 = 0
  nc : n ≤ c'
  cc : (c' : Int) ≤ 9223372036854775807
  n0 : n ≤ cap0
  cn : (cap0 : Int) ≤ 140737488351232
  lt : ∀ i, f i < 256
section
variable {w : World} {r g c' bw n : Nat} {a0 : Option Addr} {cap0 : Nat} {f : Nat → Nat} {wr : World} {k k1 k2 : Nat}
theorem St.later {wr' : World} (h : St w r g c' bw n a0 cap0 f wr k1 k2) (hb : Below wr.heap.size wr wr') : St w r g c' bw n a0 cap0 f wr' k1 k2 :=
  ⟨h.rd.later hb, h.rf.later hb, Owns.later h.ow hb, h.be.trans (hb.mono h.be.size), h.h1, h.h2⟩
theorem St.drewN (h : St w r g c' bw n a0 cap0 f wr k1 k2) (m : Nat) : St w r g c' bw n a0 cap0 f (wr.drewN m) k1 k2 := h.later (below_drewN (Below.refl _ _) m)
theorem owns_set {wr : World} {base g n c x j : Nat} {f : Nat → Nat} {v : Value} (h : Owns wr base g n c f) (hx : g ≠ x) : Owns (wr.setCell ⟨x, j, none⟩ v) base g n c f := by
  refine ⟨h.1, ?_⟩
  rcases h.2 with h' | ⟨g', cap', cur, h', hbs, hh, hr⟩
  · exact .inl h'
  · simp only [Value.slice.injEq, Option.some.injEq, Addr.mk.injEq, and_true, true_and] at h'
    obtain ⟨rfl, rfl⟩ := h'
    exact .inr ⟨g, c, cur, rfl, hbs, (heap_setCell_other wr ⟨x, j, none⟩ g v hx).trans hh, hr⟩
theorem St.set1 (E : Env w r g c' bw n a0 cap0 f) (h : St w r g c' bw n a0 cap0 f wr k1 k2) (k' : Nat) (hk : k' ≤ n) : St w r g c' bw n a0 cap0 f (wr.setCell ⟨r, 1, none⟩ (.int .i64 ((k' : Nat) : Int))) k' k2 :=
  ⟨h.rd.set _, h.rf.other E.rb.symm _ _, owns_set h.ow E.gr, h.be.setCell E.br _, hk, h.h2⟩
theorem St.set2 (E : Env w r g c' bw n a0 cap0 f) (h : St w r g c' bw n a0 cap0 f wr k1 k2) (k' : Nat) (hk : k' ≤ n) : St w r g c' bw n a0 cap0 f (wr.setCell ⟨bw, 1, none⟩ (.int .i64 ((k' : Nat) : Int))) k1 k' :=
  ⟨h.rd.other E.rb _ _, h.rf.set _, owns_set h.ow E.gb, h.be.setCell E.bb _, h.h1, hk⟩
/-- A store into another block. -/
theorem St.set3 (h : St w r g c' bw n a0 cap0 f wr k1 k2) {x j : Nat} {v : Value} (h1 : r ≠ x) (h2 : bw ≠ x) (h3 : g ≠ x) (h4 : w.heap.size ≤ x) : St w r g c' bw n a0 cap0 f (wr.setCell ⟨x, j, none⟩ v) k1 k2 :=
  ⟨h.rd.other h1 _ _, h.rf.other h2 _ _, owns_set h.ow h3, h.be.setCell h4 _, h.h1, h.h2⟩
theorem St.rows (E : Env w r g c' bw n a0 cap0 f) (h : St w r g c' bw n a0 cap0 f wr k1 k2) : Row wr (some ⟨g, 0, none⟩) n f ∧ Row wr a0 n f := ⟨Owns.row h.ow E.row.1 E.lt, E.row.later h.be⟩
theorem gotten_nat (f : Nat → Nat) (hf : ∀ i, f i < 256) (n k : Nat) (X E : Int) (h : gotten f n k = (X, E, 0)) : ∃ k' : Nat, E = (k' : Int) ∧ k' ≤ n := by
  unfold gotten at h
  by_cases hb : 0 ≤ (k : Int) ∧ (k : Int) ≤ n
  · rw [if_pos hb] at h
    rcases run_spec (fun i => f ((k : Int).toNat + i)) (n - (k : Int).toNat) 10 0 (by omega) (by omega) (fun i hi => by omega) with ⟨_, c, _, h9, hm, h1, h2, h3, h4, e⟩ | ⟨e', _, _, e⟩
    · rw [e] at h
      unfold res at h
      simp only [Prod.mk.injEq] at h
      obtain ⟨_, hE, _⟩ := h
      rw [if_pos trivial] at hE
      exact ⟨_, hE.symm, by omega⟩
    · rw [e] at h
      unfold res at h
      simp only [Prod.mk.injEq] at h
      omega
  · rw [if_neg hb] at h
    simp only [Prod.mk.injEq] at h
    omega
abbrev ans2 (q : Ending) (P : World → Prop) : Ending → World → Prop := fun e w' => e = q ∧ P w'
/-- Uint and Int of both, at one place. -/
theorem uints (E : Env w r g c' bw n a0 cap0 f) (k : Nat) (hk : k ≤ n) : ∃ (X R : Int) (k' : Nat), k' ≤ n ∧
    (∀ wr k2, St w r g c' bw n a0 cap0 f wr k k2 → Calls Try.prog 24 #[rp r] wr (ans2 (.returned (.tuple #[.int .u64 X, .int .i64 R])) fun w' => St w r g c' bw n a0 cap0 f w' k' k2)) ∧
    (∀ wr k1, St w r g c' bw n a0 cap0 f wr k1 k → Calls Try.prog 25 #[rp bw] wr (ans2 (.returned (.tuple #[.int .u64 X, .int .i64 R])) fun w' => St w r g c' bw n a0 cap0 f w' k1 k')) := by
  obtain ⟨⟨X, Z, R⟩, hG⟩ : ∃ t, gotten f n k = t := ⟨_, rfl⟩
  by_cases hR : R = 0
  · subst hR
    obtain ⟨k', rfl, hk'⟩ := gotten_nat f E.lt n k X Z hG
    refine ⟨X, 0, k', hk', fun wr k2 h => ?_, fun wr k1 h => ?_⟩
    · exact (uint_ok r _ n c' k f wr h.rd (h.rows E).1 X _ hG hk).mono fun e w' ⟨he, hw⟩ => ⟨he, by rw [hw]; exact h.set1 E k' hk'⟩
    · exact (refuint_ok bw a0 n cap0 k f wr h.rf (h.rows E).2 X _ hG hk).mono fun e w' ⟨he, m, hw⟩ => ⟨he, by rw [hw]; exact (h.drewN m).set2 E k' hk'⟩
  · refine ⟨0, R, k, hk, fun wr k2 h => ?_, fun wr k1 h => ?_⟩
    · exact (uint_err r _ n c' k f wr h.rd (h.rows E).1 X Z R hG hR hk).mono fun e w' ⟨he, hw⟩ => ⟨he, by rw [hw]; exact h⟩
    · exact (refuint_err bw a0 n cap0 k f wr h.rf (h.rows E).2 X Z R hG hR hk).mono fun e w' ⟨he, m, hw⟩ => ⟨he, by rw [hw]; exact h.drewN m⟩
theorem ints_ (E : Env w r g c' bw n a0 cap0 f) (k : Nat) (hk : k ≤ n) : ∃ (X R : Int) (k' : Nat), k' ≤ n ∧
    (∀ wr k2, St w r g c' bw n a0 cap0 f wr k k2 → Calls Try.prog 26 #[rp r] wr (ans2 (.returned (.tuple #[.int .i64 X, .int .i64 R])) fun w' => St w r g c' bw n a0 cap0 f w' k' k2)) ∧
    (∀ wr k1, St w r g c' bw n a0 cap0 f wr k1 k → Calls Try.prog 27 #[rp bw] wr (ans2 (.returned (.tuple #[.int .i64 X, .int .i64 R])) fun w' => St w r g c' bw n a0 cap0 f w' k1 k')) := by
  obtain ⟨⟨X, Z, R⟩, hG⟩ : ∃ t, gotten f n k = t := ⟨_, rfl⟩
  by_cases hR : R = 0
  · subst hR
    obtain ⟨k', rfl, hk'⟩ := gotten_nat f E.lt n k X Z hG
    refine ⟨zb X, 0, k', hk', fun wr k2 h => ?_, fun wr k1 h => ?_⟩
    · exact (int_ok r _ n c' k f wr h.rd (h.rows E).1 X _ _ hG rfl hk).mono fun e w' ⟨he, hw⟩ => ⟨he, by rw [hw]; exact h.set1 E k' hk'⟩
    · exact (refint_ok bw a0 n cap0 k f wr h.rf (h.rows E).2 X _ _ hG rfl hk).mono fun e w' ⟨he, m, hw⟩ => ⟨he, by rw [hw]; exact (h.drewN m).set2 E k' hk'⟩
  · refine ⟨0, R, k, hk, fun wr k2 h => ?_, fun wr k1 h => ?_⟩
    · exact (int_err r _ n c' k f wr h.rd (h.rows E).1 X Z R hG hR hk).mono fun e w' ⟨he, hw⟩ => ⟨he, by rw [hw]; exact h⟩
    · exact (refint_err bw a0 n cap0 k f wr h.rf (h.rows E).2 X Z R hG hR hk).mono fun e w' ⟨he, m, hw⟩ => ⟨he, by rw [hw]; exact h.drewN m⟩
end
end Go.Proofs.Ytecimplpfghikaa.octet
