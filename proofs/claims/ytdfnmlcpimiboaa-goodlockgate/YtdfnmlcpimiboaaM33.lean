/- GoodlockRings, walked. -/
import Derived.Test.YtdfnmlcpimiboaaM32
namespace Go.Proofs.Ytdfnmlcpimiboaa.pg
open Go.ChangeShapes Go.WideShapes Go.ChangeAt Go.RowKit Go.Shelf
set_option linter.unusedVariables false
set_option linter.unusedSimpArgs false
set_option maxRecDepth 100000
attribute [local go_sem ↓] Go.wp_at_zero Go.wp_at_succ
/-- Numbers that came in. -/
def IntsIn (w : World) (a : Option Addr) (cap : Nat) (l : List Int) : Prop := Rows w 1 a cap (l.map chCells)
section
variable {H : Type} {enc : TypeId × Value → H} {w : World} {base : Nat} {spare : Nat → Bool} {held : Bool}
theorem ints_sz {n : Nat} {a : Option Addr} {len cap : Nat} {y : DataW H × List MemPlace} (h : DataW.trod enc Try.prog w base spare held n 29 [.slice a len cap] = some y) (hs : Sz Try.prog 29 y.1) : ∃ l : List Int, l.length = len ∧ IntsIn w a cap l := by
  obtain ⟨l, rfl, h1, h2, h3⟩ := rows_sz (k := 1) 0 chCells I64 Try.underlying29 (by kernel_rfl) (by omega) (fun n cs y hl h _ => by
    match cs, hl, h with
    | [c0], _, h =>
      obtain ⟨z, rfl, b⟩ := int_in Try.underlying3 h
      exact ⟨z, rfl, b⟩) h hs
  exact ⟨l, rfl, h1⟩
end
theorem grd_zero {l : List Ev} {c : Int} {r : List Nat} (h : r ∈ rngR l c) : ∃ b, grdR l (asZ r) c = (b, 0) := by
  unfold rngR at h
  by_cases h0 : c = 0
  · rw [if_pos h0] at h
    obtain ⟨_, _, h4⟩ := ringsL_mem h
    have hany : (ringsL (okL l) 4).any (fun b => asZ b == asZ r) = true := List.any_eq_true.mpr ⟨r, h, beq_self_eq_true _⟩
    unfold grdR
    rw [if_pos h0, if_neg (by simp only [asZ, List.length_map]; omega), if_pos hany]
    exact ⟨_, rfl⟩
  · rw [if_neg h0] at h
    simp at h
set_option maxHeartbeats 4000000 in
theorem rings_row (l : List Ev) (la : Option Addr) (lc : Nat) (zs : List Int) (ra : Option Addr) (rc : Nat) (w : World) (hin : EvsIn w la lc l) (hz : IntsIn w ra rc zs) : Calls Try.prog 4 #[.slice la l.length lc, .slice ra zs.length rc] w fun e w' => e = .returned (.bool true) ∧ Below w.heap.size w w' := by
  obtain ⟨c, hc⟩ := check_ex l
  have hlH : Hid (Rows w 26 la lc (l.map Ev.cells)) := hin.1
  have hzH : Hid (Rows w 1 ra rc (zs.map chCells)) := hz
  have c1 : Calls Try.prog 16 #[.slice la l.length lc] w _ := gRings_any hin.1 c hc
  have c2 : ∀ wx, Below w.heap.size w wx → Calls Try.prog 17 #[.slice la l.length lc] wx _ := fun wx q => rRings_any (hin.1.later q) c hc
  have c3 : ∀ wx, Below w.heap.size w wx → Calls Try.prog 18 #[.slice la l.length lc, .slice ra zs.length rc] wx _ := fun wx q => gGuarded_any (hin.1.later q) (hzH.out.later q) c hc
  have c4 : ∀ wx, Below w.heap.size w wx → Calls Try.prog 19 #[.slice la l.length lc, .slice ra zs.length rc] wx _ := fun wx q => rGuarded_any (hin.1.later q) (hzH.out.later q) c hc
  have c5 : ∀ (wx : World) (s : Rng), Below w.heap.size w wx → Rows wx 1 s.1 s.2.2 ((asZ s.2.1).map chCells) → Calls Try.prog 18 #[.slice la l.length lc, .slice s.1 s.2.1.length s.2.2] wx fun e w' => e = .returned (.tuple #[.bool (grdR l (asZ s.2.1) c).1, .int .i64 (grdR l (asZ s.2.1) c).2]) ∧ Below wx.heap.size wx w' := fun wx s q hr => by
    have h := gGuarded_any (hlH.out.later q) hr c hc
    rw [show (asZ s.2.1).length = s.2.1.length by simp [asZ]] at h
    exact h
  have c6 : ∀ (wx : World) (s : Rng), Below w.heap.size w wx → Rows wx 1 s.1 s.2.2 ((asZ s.2.1).map chCells) → Calls Try.prog 19 #[.slice la l.length lc, .slice s.1 s.2.1.length s.2.2] wx fun e w' => e = .returned (.tuple #[.bool (grdR l (asZ s.2.1) c).1, .int .i64 (grdR l (asZ s.2.1) c).2]) ∧ Below wx.heap.size wx w' := fun wx s q hr => by
    have h := rGuarded_any (hlH.out.later q) hr c hc
    rw [show (asZ s.2.1).length = s.2.1.length by simp [asZ]] at h
    exact h
  have c7 : ∀ (wx : World) (a b : Option Addr) (ca cb : Nat) (P Q : List Rng), P.map (·.2.1) = Q.map (·.2.1) → RgR wx a ca P → RgR wx b cb Q → Calls Try.prog 20 #[.slice a P.length ca, .slice b Q.length cb] wx _ := fun wx a b ca cb P Q h h1 h2 => sameRows_any P Q h h1 h2
  have cS : ∀ wx, Calls Try.prog 15 #[] wx _ := fun wx => smallG_any wx
  have hzero : Hid (∀ r ∈ rngR l c, ∃ b, grdR l (asZ r) c = (b, 0)) := fun r hr => grd_zero hr
  have e1 : (c != c) = false := by simp
  generalize rngR l c = R at *
  obtain ⟨g, hg⟩ : ∃ g, grdR l zs c = g := ⟨_, rfl⟩
  rw [hg] at c3 c4
  have e2 : (g.1 != g.1) = false := by simp
  have e3 : (g.2 != g.2) = false := by simp
  clear hin hz hc hg
  go_enter Try.func4, Try.ntmps4
  go_wp2_with (first
    | (go_at_call 16; (with_reducible refine c1.mono ?_); rintro e w1 ⟨pa, pc, P, rfl, hm, hM⟩; (have k1 : Hid (Below w.heap.size w w1 ∧ RgR w1 pa pc P ∧ P.map (·.2.1) = R) := ⟨hM.b, rgR_of hM.l, hm⟩); clear hm hM c1)
    | (go_at_call 17; (with_reducible refine (c2 _ k1.out.1).mono ?_); rintro e w2 ⟨qa, qc, Q, rfl, hm, hM⟩; (have k2 : Hid (Below w.heap.size w w2 ∧ RgR w2 pa pc P ∧ P.map (·.2.1) = R ∧ RgR w2 qa qc Q ∧ Q.map (·.2.1) = R) := ⟨bthen k1.out.1 hM.b, k1.out.2.1.later hM.b, k1.out.2.2, rgR_of hM.l, hm⟩); clear hm hM c2 k1)
    | (go_at_call 18; (with_reducible refine (c3 _ k2.out.1).mono ?_); rintro e w3 ⟨rfl, hb⟩; (have k3 : Hid (Below w.heap.size w w3 ∧ RgR w3 pa pc P ∧ P.map (·.2.1) = R ∧ RgR w3 qa qc Q ∧ Q.map (·.2.1) = R) := ⟨bthen k2.out.1 hb, k2.out.2.1.later hb, k2.out.2.2.1, k2.out.2.2.2.1.later hb, k2.out.2.2.2.2⟩); clear hb c3 k2)
    | (go_at_call 19; (with_reducible refine (c4 _ k3.out.1).mono ?_); rintro e w4 ⟨rfl, hb⟩; (have k4 : Hid (Below w.heap.size w w4 ∧ RgR w4 pa pc P ∧ P.map (·.2.1) = R ∧ RgR w4 qa qc Q ∧ Q.map (·.2.1) = R) := ⟨bthen k3.out.1 hb, k3.out.2.1.later hb, k3.out.2.2.1, k3.out.2.2.2.1.later hb, k3.out.2.2.2.2⟩); clear hb c4 k3)
    | (go_at_call 20; (with_reducible refine (c7 _ _ _ _ _ _ _ (k4.out.2.2.1.trans k4.out.2.2.2.2.symm) k4.out.2.1 k4.out.2.2.2.1).mono ?_); rintro e w5 ⟨rfl, hb⟩; (have k5 : Hid (Below w.heap.size w w5 ∧ RgR w5 qa qc Q ∧ Q.map (·.2.1) = R) := ⟨bthen k4.out.1 hb, k4.out.2.2.2.1.later hb, k4.out.2.2.2.2⟩); clear hb c7 k4))
  have hQI : (Q.length : Int) ≤ 9223372036854775807 := by
    have h := rows_len k5.out.2.1.1
    exact h
  go_loopw [58] (fun u wr => ∃ j : Nat, j ≤ Q.length ∧ u = .int .i64 (j : Int) ∧ Hid (Below w.heap.size w wr ∧ RgR wr qa qc Q ∧ Q.map (·.2.1) = R)) (fun u _ => Q.length - (intOf u).toNat)
  case atStart => exact ⟨0, Nat.zero_le _, rfl, k5.out⟩
  case round =>
    obtain ⟨j, hj, rfl, hq⟩ := hrel
    clear k5
    by_cases hlj : j < Q.length
    · have hjI : (j : Int) < Q.length := by omega
      obtain ⟨s, hs⟩ : ∃ s, Q[j]? = some s := ⟨_, List.getElem?_eq_getElem hlj⟩
      have hsm := List.mem_of_getElem? hs
      obtain ⟨b0, o0, x0, _, k0⟩ := rr_ix hq.out.2.1 j s hs
      obtain ⟨bv, hbv⟩ := hzero.out s.2.1 (by rw [← hq.out.2.2]; exact List.mem_map.mpr ⟨s, hsm, rfl⟩)
      have hrs : Hid (∀ wx, Below wr.heap.size wr wx → Rows wx 1 s.1 s.2.2 ((asZ s.2.1).map chCells)) := fun wx q => (hq.out.2.1.2 s hsm).later q
      have d5 : Calls Try.prog 18 #[.slice la l.length lc, .slice s.1 s.2.1.length s.2.2] wr fun e w' => e = .returned (.tuple #[.bool bv, .int .i64 0]) ∧ Below wr.heap.size wr w' := by
        have h := c5 wr s hq.out.1 (hrs.out wr (Below.refl _ _))
        rw [hbv] at h
        exact h
      have d6 : ∀ wx, Below wr.heap.size wr wx → Calls Try.prog 19 #[.slice la l.length lc, .slice s.1 s.2.1.length s.2.2] wx fun e w' => e = .returned (.tuple #[.bool bv, .int .i64 0]) ∧ Below wx.heap.size wx w' := fun wx q => by
        have h := c6 wx s (bthen hq.out.1 q) (hrs.out wx q)
        rw [hbv] at h
        exact h
      have hsI : (s.2.1.length : Int) ≤ 9223372036854775807 := by
        have h := rows_len (hrs.out wr (Below.refl _ _))
        rw [show (asZ s.2.1).length = s.2.1.length by simp [asZ]] at h
        exact h
      have e4 : (bv != bv) = false := by simp
      clear hbv hs hsm
      obtain ⟨s1, sl, s3⟩ := s
      go_wp2_with (first
        | (go_at_call 18; (with_reducible refine d5.mono ?_); rintro e w6 ⟨rfl, hb⟩; (have k6 : Hid (Below wr.heap.size wr w6) := hb); clear hb d5)
        | (go_at_call 19; (with_reducible refine (d6 _ k6.out).mono ?_); rintro e w7 ⟨rfl, hb⟩; (have k7 : Hid (Below w.heap.size w w7 ∧ RgR w7 qa qc Q ∧ Q.map (·.2.1) = R) := ⟨bthen hq.out.1 (bthen k6.out hb), hq.out.2.1.later (bthen k6.out hb), hq.out.2.2⟩); clear hb d6))
      go_roundw
      case rel => exact ⟨j + 1, by omega, by go_num, k7.out⟩
      case measure => simp [intOf]; omega
    · have hje : j = Q.length := by omega
      have hjI : ¬ (j : Int) < Q.length := by omega
      go_wp2_with (go_at_call 15; (with_reducible refine (cS _).mono ?_); rintro e wA ⟨rfl, hb⟩; (have kA : Hid (Below w.heap.size w wA) := bthen hq.out.1 hb); clear hb cS)
      go_ret
      exact ⟨rfl, kA.out⟩
end Go.Proofs.Ytdfnmlcpimiboaa.pg

