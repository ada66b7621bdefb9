/- Whether a list of rings has a ring: slices.Equal, the closure of Guarded, ContainsFunc. -/
import Derived.Test.YtdfnmlcpimiboaaM26
namespace Go.Proofs.Ytdfnmlcpimiboaa.pg
open Go.ChangeShapes Go.WideShapes Go.ChangeAt Go.RowKit
set_option linter.unusedVariables false
set_option linter.unusedSimpArgs false
set_option maxRecDepth 100000
attribute [local go_sem ↓] Go.wp_at_zero Go.wp_at_succ
theorem rows_cellsG {w : World} {a : Option Addr} {c : Nat} {xs : List Int} (h : Rows w 1 a c (xs.map chCells)) : xs = [] ∨ ∃ b off, a = some ⟨b, off, none⟩ ∧ ∀ j, j < xs.length → w.cell? ⟨b, off + j, none⟩ = some (.int .i64 (xs.getD j 0)) := by
  rcases h.2.2.2 with q | ⟨b, off, e, _, hc⟩
  · exact .inl (List.map_eq_nil_iff.mp q)
  · refine .inr ⟨b, off, e, fun j hj => ?_⟩
    have := (hc j (chCells (xs.getD j 0)) (by rw [List.getElem?_map, List.getD_eq_getElem?_getD, List.getElem?_eq_getElem hj]; rfl)).2 0 _ rfl
    rw [Nat.mul_one, Nat.add_zero] at this
    exact this
theorem equalG_any (xs ys : List Int) (a b : Option Addr) (ca cb : Nat) (w : World) (hx : Rows w 1 a ca (xs.map chCells)) (hy : Rows w 1 b cb (ys.map chCells)) : Calls Try.prog 36 #[.slice a xs.length ca, .slice b ys.length cb] w fun e w' => e = .returned (.bool (xs == ys)) ∧ Below w.heap.size w w' := by
  have hxl := rows_len hx
  have hyl := rows_len hy
  rcases rows_cellsG hx with rfl | ⟨b1, o1, rfl, c1⟩
  · refine (Try.slices_Equal_int_empty a b ca ys.length cb w (by omega)).mono ?_
    rintro e w' ⟨rfl, rfl⟩
    refine ⟨?_, Below.refl _ _⟩
    cases ys <;> rfl
  · rcases rows_cellsG hy with rfl | ⟨b2, o2, rfl, c2⟩
    · by_cases h0 : xs = []
      · subst h0
        refine (Try.slices_Equal_int_empty _ b ca 0 cb w (by omega)).mono ?_
        rintro e w' ⟨rfl, rfl⟩
        exact ⟨rfl, Below.refl _ _⟩
      · have hpos : 0 < xs.length := List.length_pos_iff.mpr h0
        have hne : ((xs.length : Int) != 0) = true := by rw [bne_iff_ne]; omega
        have hR : Hid ((xs == ([] : List Int)) = false) := by
          show _ = _
          rw [beq_eq_false_iff_ne]
          exact h0
        clear hx hy c1 h0
        go_enter Try.func36, Try.ntmps36
        go_wp2
        go_ret
        exact ⟨by (rw [hR.out]; rfl), Below.refl _ _⟩
    · refine (Try.slices_Equal_int b1 o1 xs.length ca b2 o2 ys.length cb xs ys w (Nat.le_refl _) (Nat.le_refl _) (by omega) (by omega) c1 c2).mono ?_
      rintro e w' ⟨rfl, q, rfl⟩
      rw [List.take_length, List.take_length]
      exact ⟨rfl, below_drewN (Below.refl _ _) q⟩
end Go.Proofs.Ytdfnmlcpimiboaa.pg
/- Whether a list of rings has a ring: the closure of Guarded, ContainsFunc. -/
namespace Go.Proofs.Ytdfnmlcpimiboaa.pg
open Go.ChangeShapes Go.WideShapes Go.ChangeAt Go.RowKit
set_option linter.unusedVariables false
set_option linter.unusedSimpArgs false
set_option maxRecDepth 100000
attribute [local go_sem ↓] Go.wp_at_zero Go.wp_at_succ
section
variable {w : World} {M : Nat} {ra : Option Addr} {rc : Nat} {zs : List Int} {lo : Nat} {a : Option Addr} {c : Nat} {P : List Rng}
/-- The box of a ring, and the ring. -/
structure RbX (w : World) (M : Nat) (ra : Option Addr) (rc : Nat) (zs : List Int) : Prop where
  m : w.heap[M]? = some (.cells #[.slice ra zs.length rc] 29)
  r : Rows w 1 ra rc (zs.map chCells)
theorem RbX.later {w' : World} (h : RbX w M ra rc zs) (hb : Below w.heap.size w w') : RbX w' M ra rc zs := ⟨blk_onG h.m hb, h.r.later hb⟩
theorem clR_any (s : Rng) (hs : Rows w 1 s.1 s.2.2 ((asZ s.2.1).map chCells)) (hB : RbX w M ra rc zs) (R : Bool) (hR : Hid (R = (asZ s.2.1 == zs))) : Calls Try.prog 35 #[.slice s.1 s.2.1.length s.2.2, .pointer (some ⟨M, 0, none⟩)] w fun e w' => e = .returned (.bool R) ∧ Below w.heap.size w w' := by
  have c1 := equalG_any (asZ s.2.1) zs s.1 ra s.2.2 rc w hs hB.r
  rw [show (asZ s.2.1).length = s.2.1.length by simp [asZ], ← hR.out] at c1
  have k0 : w.cell? ⟨M, 0, none⟩ = some (.slice ra zs.length rc) := cell_lcG hB.m rfl
  clear hs hB hR
  go_enter Try.func35, Try.ntmps35
  go_wp2_with (go_at_call 36; (with_reducible refine c1.mono ?_); rintro e w1 ⟨rfl, hb1⟩)
  go_ret
  exact ⟨rfl, hb1⟩
theorem rg_ix (h : RgL lo w a c P) (i : Nat) (s : Rng) (hi : P[i]? = some s) :
    ∃ b o, (∀ wx, (Instr.indexAt 39 (.slice a P.length c) (.int .i64 (i : Int))).run Try.prog wx = .ok (.pointer (some ⟨b, o, none⟩)) wx) ∧ b < w.heap.size ∧ w.cell? ⟨b, o, none⟩ = some (.slice s.1 s.2.1.length s.2.2) := by
  obtain ⟨b, o, hr, hlt, hc⟩ := (rg_rows h).ix 39 29 Try.underlying39 (by kernel_rfl) (fun wx => Try.sizeOf29 wx) i (row := Rng.cs s) (by simp [hi])
  rw [List.length_map] at hr
  exact ⟨b, o, hr, hlt, hc 0 _ rfl⟩
theorem take_moreR {P : List Rng} {k : Nat} {y : Rng} {p : Rng → Bool} (hy : P[k]? = some y) (h : ∀ z ∈ P.take k, p z = false) (hp : p y = false) : ∀ z ∈ P.take (k + 1), p z = false := fun z hz => by
  rw [take_one P k y hy, List.mem_append, List.mem_singleton] at hz
  rcases hz with hz | rfl
  · exact h z hz
  · exact hp
def eqR (zs : List Int) (s : Rng) : Bool := asZ s.2.1 == zs
set_option maxHeartbeats 4000000 in
theorem indexR_any (hl : RgL lo w a c P) (hB : RbX w M ra rc zs) : Calls Try.prog 50 #[.slice a P.length c, .func (.func 35) #[] #[.pointer (some ⟨M, 0, none⟩)]] w fun e w' => ∃ r : Int, e = .returned (.int .i64 r) ∧ (0 ≤ r ↔ P.any (eqR zs) = true) ∧ Below w.heap.size w w' := by
  have hlI := rows_len (rg_rows hl)
  have hlH : Hid (RgL lo w a c P) := hl
  have hBH : Hid (RbX w M ra rc zs) := hB
  have hb0 : Hid (Below w.heap.size w w) := Below.refl _ _
  clear hl hB
  go_enter Try.func50, Try.ntmps50
  go_wp2
  go_loopw [8] (fun u wr => ∃ k : Nat, k ≤ P.length ∧ u = .int .i64 k ∧ Hid (Below w.heap.size w wr) ∧ Hid (∀ z ∈ P.take k, eqR zs z = false)) (fun u _ => P.length - (intOf u).toNat)
  case atStart => exact ⟨0, Nat.zero_le _, rfl, hb0, fun x hx => by simp at hx⟩
  case round =>
    obtain ⟨k, hk, rfl, hb2, hno⟩ := hrel
    clear hb0
    by_cases hlt : k < P.length
    · obtain ⟨y, hy⟩ : ∃ y, P[k]? = some y := ⟨_, List.getElem?_eq_getElem hlt⟩
      have hym := List.mem_of_getElem? hy
      have hl2 := hlH.out.later hb2.out
      obtain ⟨b0, o0, hix, hbl, k0⟩ := rg_ix hl2 k y hy
      have hrw := own_rows (hl2.i y hym) (asZ_one _)
      have hkI : (k : Int) < P.length := by omega
      by_cases e : eqR zs y = true
      · have c1 : Calls Try.prog 35 #[.slice y.1 y.2.1.length y.2.2, .pointer (some ⟨M, 0, none⟩)] wr _ := clR_any y hrw (hBH.out.later hb2.out) true e.symm
        have hany : Hid (P.any (eqR zs) = true) := List.any_eq_true.mpr ⟨y, hym, e⟩
        clear e hy hym hl2 hrw
        go_wp2_with (go_at_call 35; (with_reducible refine c1.mono ?_); rintro e w1 ⟨rfl, hb1⟩)
        go_ret
        exact ⟨_, rfl, ⟨fun _ => hany.out, fun _ => by omega⟩, bthen hb2.out hb1⟩
      · have e2 : eqR zs y = false := by simpa using e
        have c1 : Calls Try.prog 35 #[.slice y.1 y.2.1.length y.2.2, .pointer (some ⟨M, 0, none⟩)] wr _ := clR_any y hrw (hBH.out.later hb2.out) false e2.symm
        have hno2 : Hid (∀ z ∈ P.take (k + 1), eqR zs z = false) := take_moreR hy hno.out e2
        clear e e2 hy hym hl2 hrw
        go_wp2_with (go_at_call 35; (with_reducible refine c1.mono ?_); rintro e w1 ⟨rfl, hb1⟩)
        have hb3 : Hid (Below w.heap.size w w1) := bthen hb2.out hb1
        clear hb1
        go_roundw
        case rel => exact ⟨k + 1, by omega, by go_num, hb3, hno2⟩
        case measure => simp [intOf]; omega
    · have hk2 : k = P.length := by omega
      subst hk2
      rw [List.take_length] at hno
      have hany : Hid (¬ P.any (eqR zs) = true) := fun q => by
        obtain ⟨z, hz, q⟩ := List.any_eq_true.mp q
        rw [hno.out z hz] at q; cases q
      go_wp2
      go_ret
      exact ⟨_, rfl, ⟨fun q => absurd q (by omega), fun q => absurd q hany.out⟩, hb2.out⟩
theorem contR_any (hl : RgL lo w a c P) (hB : RbX w M ra rc zs) (R : Bool) (hR : Hid (R = P.any (eqR zs))) : Calls Try.prog 34 #[.slice a P.length c, .func (.func 35) #[] #[.pointer (some ⟨M, 0, none⟩)]] w fun e w' => e = .returned (.bool R) ∧ Below w.heap.size w w' := by
  have c1 := indexR_any hl hB
  clear hl hB
  go_enter Try.func34, Try.ntmps34
  go_wp2_with (go_at_call 50; (with_reducible refine c1.mono ?_); rintro e w1 ⟨r, rfl, hr, hb1⟩; (have hrH : Hid (0 ≤ r ↔ P.any (eqR zs) = true) := hr); clear hr)
  go_ret
  exact ⟨ret_b (by rw [Bool.eq_iff_iff, decide_eq_true_iff, hR.out]; exact hrH.out), hb1⟩
end
end Go.Proofs.Ytdfnmlcpimiboaa.pg
/- Guarded of package goodlock. -/
namespace Go.Proofs.Ytdfnmlcpimiboaa.pg
open Go.ChangeShapes Go.WideShapes Go.ChangeAt Go.RowKit
set_option linter.unusedVariables false
set_option linter.unusedSimpArgs false
set_option maxRecDepth 100000
attribute [local go_sem ↓] Go.wp_at_zero Go.wp_at_succ
theorem growL_mem {ok : List Nat → Bool} : ∀ (m : Nat) (b : List Nat), b.length + m ≤ 4 → (∀ i ∈ b, i < 4) → ∀ r ∈ growL ok m b, (∀ i ∈ r, i < 4) ∧ 1 < r.length ∧ r.length ≤ 4
  | 0, b, hm, hb, r, hr => by
    unfold growL at hr
    split at hr
    · rename_i q
      rw [List.mem_singleton] at hr
      subst hr
      exact ⟨hb, q.1, by omega⟩
    · simp at hr
  | m + 1, b, hm, hb, r, hr => by
    unfold growL at hr
    rw [List.mem_append, List.mem_flatMap] at hr
    rcases hr with hr | ⟨x, hx, hr⟩
    · split at hr
      · rename_i q
        rw [List.mem_singleton] at hr
        subst hr
        exact ⟨hb, q.1, by omega⟩
      · simp at hr
    · split at hr
      · refine growL_mem m (b ++ [x]) (by rw [List.length_append, List.length_singleton]; omega) (fun i hi => ?_) r hr
        rw [List.mem_append, List.mem_singleton] at hi
        rcases hi with q | rfl
        · exact hb i q
        · exact List.mem_range.mp hx
      · simp at hr
theorem ringsL_mem {ok : List Nat → Bool} {r : List Nat} (h : r ∈ ringsL ok 4) : (∀ i ∈ r, i < 4) ∧ 1 < r.length ∧ r.length ≤ 4 := by
  unfold ringsL at h
  obtain ⟨x, hx, hr⟩ := List.mem_flatMap.mp h
  refine growL_mem 3 [x] (by simp) (fun i hi => ?_) r hr
  rw [List.mem_singleton] at hi
  subst hi
  exact List.mem_range.mp hx
/-- What Guarded tells, by what Check tells. -/
def grdR (l : List Ev) (zs : List Int) (c : Int) : Bool × Int := if c = 0 then (if 4 < zs.length then (false, 2) else if (ringsL (okL l) 4).any (fun b => asZ b == zs) then (!choB apB (tksL l) (zs.map Int.toNat) zs.length [], 0) else (false, 9)) else (false, c)
theorem asZ_back (r : List Nat) : (asZ r).map Int.toNat = r := by
  unfold asZ
  rw [List.map_map]
  have : (Int.toNat ∘ fun (i : Nat) => (i : Int)) = id := by funext i; simp
  first | rw [this, List.map_id] | simp
theorem any_rings {P : List Rng} {R : List (List Nat)} (h : P.map (·.2.1) = R) (zs : List Int) : P.any (eqR zs) = R.any (fun b => asZ b == zs) := by
  rw [← h, List.any_map]
  rfl
section
variable {w : World} {l : List Ev} {la ra : Option Addr} {lc rc : Nat} {zs : List Int}
theorem ch_of_tk {w0 : World} {K : Nat} {S : Nat → Slot} {r : List Nat} (hT : TkS w0 w K S) (hr : Rows w 1 ra rc ((asZ r).map chCells)) (hn : 0 < r.length) : ChP w.heap.size w K S ra rc r none 0 [] :=
  ⟨hT.k, fun j hj => hT.rows hj, fun j hj g hg => ⟨(blk_lt (hT.o j hj) g hg).2, by simp [blk]⟩, hr, fun g hg => ⟨by
    rcases hr.2.2.2 with q | ⟨b, off, e, hlt, _⟩
    · exfalso
      have := congrArg List.length q
      simp [asZ] at this
      subst this
      simp at hn
    · subst e
      simp only [blk, List.mem_singleton] at hg
      omega, by simp [blk]⟩, own_nil_q _ _ _ _, Nat.le_refl _⟩
set_option maxHeartbeats 4000000 in
theorem gGuarded_any (hl : Rows w 26 la lc (l.map Ev.cells)) (hz : Rows w 1 ra rc (zs.map chCells)) (c : Int) (hc : checkP l c) : Calls Try.prog 18 #[.slice la l.length lc, .slice ra zs.length rc] w fun e w' => e = .returned (.tuple #[.bool (grdR l zs c).1, .int .i64 (grdR l zs c).2]) ∧ Below w.heap.size w w' := by
  have hW : Hid (Below w.heap.size w (w.alloc (.cells #[.slice ra zs.length rc] 29))) := boxed _ _
  have hBx : Hid (RbX (w.alloc (.cells #[.slice ra zs.length rc] 29)) w.heap.size ra rc zs) := ⟨heap_alloc_new _ _, hz.later (boxed _ _)⟩
  have cC : Calls Try.prog 24 #[.slice la l.length lc] (w.alloc (.cells #[.slice ra zs.length rc] 29)) _ := check_any l la lc _ (hl.later (boxed _ _)) c hc
  have hlH : Hid (Rows w 26 la lc (l.map Ev.cells)) := hl
  have hzI := rows_len hz
  obtain ⟨g, hg⟩ : ∃ g, grdR l zs c = g := ⟨_, rfl⟩
  rw [hg]
  have hgH : Hid (grdR l zs c = g) := hg
  have hcH : Hid (checkP l c) := hc
  clear hl hz hg hc
  by_cases h0 : c = 0
  · subst h0
    by_cases h4 : 4 < zs.length
    · have h4I : (zs.length : Int) > 4 := by omega
      have hge : g = (false, 2) := by rw [← hgH.out]; unfold grdR; rw [if_pos rfl, if_pos h4]
      subst hge
      clear hgH h4
      go_enter Try.func18, Try.ntmps18
      go_upto_region 1 with fail
      change Code.wp _ _ _ _ (w.alloc (.cells #[.slice ra zs.length rc] 29))
      generalize w.alloc (.cells #[.slice ra zs.length rc] 29) = W at *
      obtain ⟨M, hM⟩ : ∃ M, w.heap.size = M := ⟨_, rfl⟩
      rw [hM] at hBx
      rw [hM]
      go_wp2_with (first
        | (go_at_call 24; (with_reducible refine cC.mono ?_); rintro e w1 ⟨rfl, hb⟩; (have hB1 : Hid (Below w.heap.size w w1) := bthen hW.out hb); (have k0 : w1.cell? ⟨M, 0, none⟩ = some (.slice ra zs.length rc) := cell_lcG (hBx.out.later hb).m rfl); clear hb cC))
      go_ret2
      exact ⟨rfl, hB1.out⟩
    · have h4I : ¬ (zs.length : Int) > 4 := by omega
      obtain ⟨hn, hr⟩ := check_zero hcH.out
      have cT : ∀ wx, Below w.heap.size w wx → Calls Try.prog 31 #[.slice la l.length lc] wx _ := fun wx q => takings_any (hlH.out.later q) hn hr
      obtain ⟨R, hR⟩ : ∃ R, (ringsL (okL l) 4).any (fun b => asZ b == zs) = R := ⟨_, rfl⟩
      have hRP : Hid (∀ (P : List Rng) (S : Nat → Slot), (∀ k, k < 16 → (S k).2.1 = tksL l k) → P.map (·.2.1) = ringsL (okR S) 4 → P.any (eqR zs) = R) := fun P S hS hm => by
        have e : ringsL (okR S) 4 = ringsL (okL l) 4 := ringsL_congr (fun b hb => choB_congr unB (fun k hk => hS k hk) hb _ _) 4 (Nat.le_refl _)
        rw [any_rings hm, e, hR]
      cases R with
      | false =>
        have hge : g = (false, 9) := by rw [← hgH.out]; unfold grdR; rw [if_pos rfl, if_neg h4, if_neg (by rw [hR]; decide)]
        subst hge
        clear hgH h4 hn hr hR
        go_enter Try.func18, Try.ntmps18
        go_upto_region 1 with fail
        change Code.wp _ _ _ _ (w.alloc (.cells #[.slice ra zs.length rc] 29))
        generalize w.alloc (.cells #[.slice ra zs.length rc] 29) = W at *
        obtain ⟨M, hM⟩ : ∃ M, w.heap.size = M := ⟨_, rfl⟩
        rw [hM] at hBx
        rw [hM]
        go_wp2_with (first
          | (go_at_call 24; (with_reducible refine cC.mono ?_); rintro e w1 ⟨rfl, hb⟩; (have hB1 : Hid (Below w.heap.size w w1 ∧ RbX w1 M ra rc zs) := ⟨bthen hW.out hb, hBx.out.later hb⟩); (have k0 : w1.cell? ⟨M, 0, none⟩ = some (.slice ra zs.length rc) := cell_lcG hB1.out.2.m rfl); clear hb cC)
          | (go_at_call 31; (with_reducible refine (cT _ hB1.out.1).mono ?_); rintro e w2 ⟨K, S, rfl, hT, hS⟩; (have hB2 : Hid (Below w.heap.size w w2 ∧ TkS w1 w2 K S ∧ RbX w2 M ra rc zs ∧ ∀ k, k < 16 → (S k).2.1 = tksL l k) := ⟨bthen hB1.out.1 hT.b, hT, hB1.out.2.later hT.b, hS⟩); clear hT hS cT k0)
          | (go_at_call 32; (with_reducible refine (rings_any hB2.out.2.1).mono ?_); rintro e w3 ⟨a, cap, P, rfl, hm, hM3⟩; (have hB3 : Hid (Below w.heap.size w w3 ∧ TkS w1 w3 K S ∧ RbX w3 M ra rc zs ∧ RgL w2.heap.size w3 a cap P ∧ false = P.any (eqR zs)) := ⟨bthen hB2.out.1 hM3.b, hB2.out.2.1.later hM3.b, hB2.out.2.2.1.later hM3.b, hM3.l, (hRP.out P S hB2.out.2.2.2 hm).symm⟩); (have hcr : Hid (_ = P.any (eqR zs)) := hB3.out.2.2.2.2); (have cR := contR_any hB3.out.2.2.2.1 hB3.out.2.2.1 _ hcr); clear hm hM3)
          | (go_at_call 34; (with_reducible refine cR.mono ?_); rintro e w4 ⟨rfl, hb⟩; (have hB4 : Hid (Below w.heap.size w w4 ∧ TkS w1 w4 K S ∧ RbX w4 M ra rc zs) := ⟨bthen hB3.out.1 hb, hB3.out.2.1.later hb, hB3.out.2.2.1.later hb⟩); (have k4 : w4.cell? ⟨M, 0, none⟩ = some (.slice ra zs.length rc) := cell_lcG hB4.out.2.2.m rfl); clear hb))
        go_ret2
        exact ⟨rfl, hB4.out.1⟩
      | true =>
        obtain ⟨r, hrm, hrz⟩ := List.any_eq_true.mp hR
        have hrz' : asZ r = zs := eq_of_beq hrz
        obtain ⟨r1, r2, r3⟩ := ringsL_mem hrm
        have hge : g = (!choB apB (tksL l) r r.length [], 0) := by
          rw [← hgH.out]
          unfold grdR
          rw [if_pos rfl, if_neg h4, if_pos hR, ← hrz', asZ_back, show (asZ r).length = r.length by simp [asZ]]
        subst hge
        have hrr : Hid ((∀ i ∈ r, i < 4) ∧ 1 < r.length ∧ r.length ≤ 4 ∧ asZ r = zs) := ⟨r1, r2, r3, hrz'⟩
        have cK : ∀ (w1 w4 : World) (K : Nat) (S : Nat → Slot), TkS w1 w4 K S → Rows w4 1 ra rc (zs.map chCells) → (∀ k, k < 16 → (S k).2.1 = tksL l k) → Calls Try.prog 37 #[.pointer (some ⟨K, 0, none⟩), .slice ra zs.length rc, .slice none 0 0, fvG 38] w4 fun e w' => e = .returned (.bool (choB apB (tksL l) r r.length [])) ∧ Below w4.heap.size w4 w' := fun w1 w4 K S hT hz hS => by
          rw [← hrr.out.2.2.2] at hz
          rw [show zs.length = r.length by rw [← hrr.out.2.2.2]; simp [asZ]]
          refine (choose_any yes_apart hrr.out.2.2.1 hrr.out.1 r.length [] none 0 w4 (by simp) (ch_of_tk hT hz (by have := hrr.out.2.1; omega))).mono fun e w' q => ⟨?_, q.2.1.b⟩
          rw [q.1, choB_congr apB (fun k hk => hS k hk) hrr.out.1]
        clear hgH h4 hn hr hR hrz hrz' r1 r2 r3 hrm
        go_enter Try.func18, Try.ntmps18
        go_upto_region 1 with fail
        change Code.wp _ _ _ _ (w.alloc (.cells #[.slice ra zs.length rc] 29))
        generalize w.alloc (.cells #[.slice ra zs.length rc] 29) = W at *
        obtain ⟨M, hM⟩ : ∃ M, w.heap.size = M := ⟨_, rfl⟩
        rw [hM] at hBx
        rw [hM]
        go_wp2_with (first
          | (go_at_call 24; (with_reducible refine cC.mono ?_); rintro e w1 ⟨rfl, hb⟩; (have hB1 : Hid (Below w.heap.size w w1 ∧ RbX w1 M ra rc zs) := ⟨bthen hW.out hb, hBx.out.later hb⟩); (have k0 : w1.cell? ⟨M, 0, none⟩ = some (.slice ra zs.length rc) := cell_lcG hB1.out.2.m rfl); clear hb cC)
          | (go_at_call 31; (with_reducible refine (cT _ hB1.out.1).mono ?_); rintro e w2 ⟨K, S, rfl, hT, hS⟩; (have hB2 : Hid (Below w.heap.size w w2 ∧ TkS w1 w2 K S ∧ RbX w2 M ra rc zs ∧ ∀ k, k < 16 → (S k).2.1 = tksL l k) := ⟨bthen hB1.out.1 hT.b, hT, hB1.out.2.later hT.b, hS⟩); clear hT hS cT k0)
          | (go_at_call 32; (with_reducible refine (rings_any hB2.out.2.1).mono ?_); rintro e w3 ⟨a, cap, P, rfl, hm, hM3⟩; (have hB3 : Hid (Below w.heap.size w w3 ∧ TkS w1 w3 K S ∧ RbX w3 M ra rc zs ∧ RgL w2.heap.size w3 a cap P ∧ true = P.any (eqR zs)) := ⟨bthen hB2.out.1 hM3.b, hB2.out.2.1.later hM3.b, hB2.out.2.2.1.later hM3.b, hM3.l, (hRP.out P S hB2.out.2.2.2 hm).symm⟩); (have hcr : Hid (_ = P.any (eqR zs)) := hB3.out.2.2.2.2); (have cR := contR_any hB3.out.2.2.2.1 hB3.out.2.2.1 _ hcr); clear hm hM3)
          | (go_at_call 34; (with_reducible refine cR.mono ?_); rintro e w4 ⟨rfl, hb⟩; (have hB4 : Hid (Below w.heap.size w w4 ∧ TkS w1 w4 K S ∧ RbX w4 M ra rc zs) := ⟨bthen hB3.out.1 hb, hB3.out.2.1.later hb, hB3.out.2.2.1.later hb⟩); (have k4 : w4.cell? ⟨M, 0, none⟩ = some (.slice ra zs.length rc) := cell_lcG hB4.out.2.2.m rfl); clear hb)
          | (go_at_call 37; (with_reducible refine (cK _ _ _ _ hB4.out.2.1 hB4.out.2.2.r hB2.out.2.2.2).mono ?_); rintro e w5 ⟨rfl, hb⟩; (have hB5 : Hid (Below w.heap.size w w5) := bthen hB4.out.1 hb); clear hb))
        go_ret2
        exact ⟨rfl, hB5.out⟩
  · have hcb : (c != 0) = true := by rw [bne_iff_ne]; exact h0
    have hge : g = (false, c) := by rw [← hgH.out]; unfold grdR; rw [if_neg h0]
    subst hge
    clear hgH h0
    go_enter Try.func18, Try.ntmps18
    go_upto_region 1 with fail
    change Code.wp _ _ _ _ (w.alloc (.cells #[.slice ra zs.length rc] 29))
    generalize w.alloc (.cells #[.slice ra zs.length rc] 29) = W at *
    go_wp2_with (first
      | (go_at_call 24; (with_reducible refine cC.mono ?_); rintro e w1 ⟨rfl, hb⟩; (have hB1 : Hid (Below w.heap.size w w1) := bthen hW.out hb); clear hb cC))
    go_ret2
    exact ⟨rfl, hB1.out⟩
end
end Go.Proofs.Ytdfnmlcpimiboaa.pg
