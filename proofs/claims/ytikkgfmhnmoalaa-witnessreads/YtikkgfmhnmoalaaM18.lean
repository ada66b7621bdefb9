/- Bytes that are read are the witness's own; a changed byte is told: pure. -/
import Derived.Test.YtikkgfmhnmoalaaM17
namespace Go.Proofs.Ytikkgfmhnmoalaa.pg
open Go.ChangeShapes Go.WideShapes Go.ChangeAt Go.RowKit
set_option linter.unusedVariables false
set_option linter.unusedSimpArgs false
set_option maxRecDepth 100000
inductive Fit2 : List (Int × Int) → List Int → Prop
  | nil : Fit2 [] []
  | cons {b : Int × Int} {v : Int} {B : List (Int × Int)} {vs : List Int} : b.1 ≤ v → v ≤ b.2 → Fit2 B vs → Fit2 (b :: B) (v :: vs)
theorem rdL_fit (f : Nat → Nat) (n : Nat) : ∀ (B : List (Int × Int)) (a k : Nat), (rdL f n B a k).e = 0 → Fit2 B (rdL f n B a k).vs
  | [], a, k, _ => .nil
  | b :: t, a, k, he => by
    obtain ⟨X, E, R, h⟩ : ∃ X E R, octet.gotten f n (k : Int) = (X, E, R) := ⟨_, _, _, rfl⟩
    by_cases hR : R = 0
    · subst hR
      by_cases hb : b.1 ≤ capI X ∧ capI X ≤ b.2
      · rw [rdL_ok h hb] at he ⊢
        exact .cons hb.1 hb.2 (rdL_fit f n t k E.toNat he)
      · rw [rdL_bad h hb] at he; cases he
    · rw [rdL_err h hR] at he; exact (hR he).elim
theorem fit_pairs : ∀ (pk : List (Int × Int)) (c : Nat), Fit2 (repB c) (pk.flatMap fun p => [p.1, p.2]) → pk.length = c ∧ (pairs pk).all fitB = true
  | [], 0, _ => ⟨rfl, rfl⟩
  | [], c + 1, h => by rw [repB_more] at h; cases h
  | p :: t, 0, h => by cases h
  | p :: t, c + 1, h => by
    rw [repB_more] at h
    cases h with
    | cons h1 h2 h3 =>
      cases h3 with
      | cons h4 h5 h6 =>
        obtain ⟨q1, q2⟩ := fit_pairs t c h6
        refine ⟨by rw [List.length_cons, q1], ?_⟩
        show (fitB (0, 5, p.1) && (fitB (0, 4, p.2) && (pairs t).all fitB)) = true
        have e1 : fitB (0, 5, p.1) = true := by
          have a1 : (0 : Int) ≤ p.1 := h1
          have a2 : p.1 ≤ 5 := h2
          simp [fitB, a1, a2]
        have e2 : fitB (0, 4, p.2) = true := by
          have a1 : (0 : Int) ≤ p.2 := h4
          have a2 : p.2 ≤ 4 := h5
          simp [fitB, a1, a2]
        rw [e1, e2, q2]; rfl
theorem has_list {L X : List Nat} (h : Has (fl L) L.length 0 X) (hl : X.length = L.length) : X = L := by
  refine List.ext_getElem hl fun i h1 h2 => ?_
  have := h.2 i X[i] (List.getElem?_eq_getElem h1)
  rw [Nat.zero_add] at this
  rw [← this]
  unfold fl
  rw [List.getD_eq_getElem?_getD, List.getElem?_eq_getElem h2]; rfl
theorem has_listF {L X : List Nat} {f : Nat → Nat} {n : Nat} (hfe : fl L = f) (hne : L.length = n) (h : Has f n 0 X) (hl : X.length = n) : X = L := by
  subst hfe hne
  exact has_list h hl
theorem repB_bnd (c : Nat) : ∀ b ∈ repB c, 0 ≤ b.1 ∧ b.2 ≤ 65536 := by
  induction c with
  | zero => intro b hb; cases hb
  | succ c ih =>
    intro b hb
    rw [repB_more] at hb
    rcases List.mem_append.mp hb with q | q
    · simp only [pairB, List.mem_cons, List.not_mem_nil, or_false] at q
      rcases q with rfl | rfl <;> simp
    · exact ih b q
theorem pairs_flat (pk : List (Int × Int)) : ((pairs pk).flatMap fun x => numB x.2.2) = (pk.flatMap fun p => [p.1, p.2]).flatMap numB := by
  rw [← pairs_val, List.flatMap_map]
theorem sumB_there {f : Nat → Nat} (hf : ∀ i, f i < 256) {n k : Nat} (hn : k + 4 ≤ n) : Has f n k (sumB (octet.big (fun i => f (k + i)) 4)) ∧ octet.big (fun i => f (k + i)) 4 < 4294967296 := by
  rw [big4]
  have e0 := hf (k + 0)
  have e1 := hf (k + 1)
  have e2 := hf (k + 2)
  have e3 := hf (k + 3)
  refine ⟨⟨hn, fun i b hb => ?_⟩, by omega⟩
  match i, hb with
  | 0, hb => simp only [sumB, List.getElem?_cons_zero, Option.some.injEq] at hb; omega
  | 1, hb => simp only [sumB, List.getElem?_cons_succ, List.getElem?_cons_zero, Option.some.injEq] at hb; omega
  | 2, hb => simp only [sumB, List.getElem?_cons_succ, List.getElem?_cons_zero, Option.some.injEq] at hb; omega
  | 3, hb => simp only [sumB, List.getElem?_cons_succ, List.getElem?_cons_zero, Option.some.injEq] at hb; omega
  | i + 4, hb => simp [sumB] at hb
/-- Bytes that are read are the bytes of the witness that was read, and it is right. -/
theorem canon_pure (L : List Nat) (hbt : Bt L) (hu : (unfP (fl L) L.length).1 = 0) (hE : (rdE (fl L) L.length).1 = 0) (pk : List (Int × Int)) (hpk : pk.flatMap (fun p => [p.1, p.2]) = (rdP (partF (fl L)) (L.length - 12) (rdL (partF (fl L)) (L.length - 12) headB 0 0).at_ (rdL (partF (fl L)) (L.length - 12) headB 0 0).k).vs) :
    ({ rdM (fl L) L.length with pk := pk } : Wi).ok = true ∧ 0 ≤ (rdM (fl L) L.length).s ∧ (rdM (fl L) L.length).s < 4294967296 ∧ ({ rdM (fl L) L.length with pk := pk } : Wi).bytes = L := by
  have hf := fl_lt hbt
  obtain ⟨hu0, hn12, hn65, hmg, hsk⟩ := unf_fit hu
  have hmg' := (magB_iff hf).mp hmg
  have hsk' := (sumK_iff hf (by omega)).mp hsk
  obtain ⟨hs4, hs5⟩ := sumB_there hf (n := L.length) (k := 4) (by omega)
  have hp : ∀ i, partF (fl L) i < 256 := fun i => hf _
  unfold rdE at hE
  rw [if_neg (by rw [hu0]; simp)] at hE
  generalize hfe : fl L = f at *
  generalize hne : L.length = n at *
  obtain ⟨R1, hR1⟩ : ∃ R1, rdL (partF f) (n - 12) headB 0 0 = R1 := ⟨_, rfl⟩
  rw [hR1] at hE hpk
  have he1 : R1.e = 0 := by
    by_cases h : R1.e = 0
    · exact h
    · rw [if_pos h] at hE; exact (h hE).elim
  rw [if_neg (by rw [he1]; simp)] at hE
  obtain ⟨R2, hR2⟩ : ∃ R2, rdP (partF f) (n - 12) R1.at_ R1.k = R2 := ⟨_, rfl⟩
  rw [hR2] at hE hpk
  have he2 : R2.e = 0 := by
    by_cases h : R2.e = 0
    · exact h
    · rw [if_pos h] at hE; exact (h hE).elim
  rw [if_neg (by rw [he2]; simp)] at hE
  have he3 : ¬ R2.k < n - 12 := fun h => by rw [if_pos h] at hE; exact absurd hE (by show ¬ (13 : Int) = 0; decide)
  obtain ⟨a1, a2, a3, a4, a5⟩ := rdL_once hp (n := n - 12) headB 0 0 (by omega) (by decide) (by rw [hR1]; exact he1)
  have f1 := rdL_fit (partF f) (n - 12) headB 0 0 (by rw [hR1]; exact he1)
  rw [hR1] at a1 a3 a4 a5 f1
  rw [Nat.zero_add] at a4
  obtain ⟨Rc, hRc⟩ : ∃ Rc, rdL (partF f) (n - 12) [(0, 256)] R1.at_ R1.k = Rc := ⟨_, rfl⟩
  have hPP : R2 = if Rc.e = 0 then rdL (partF f) (n - 12) (repB (Rc.vs.getD 0 0).toNat) Rc.at_ Rc.k else Rc := by rw [← hR2]; unfold rdP; rw [hRc]
  have hec : Rc.e = 0 := by
    by_cases h : Rc.e = 0
    · exact h
    · rw [if_neg h] at hPP; rw [hPP] at he2; exact (h he2).elim
  rw [if_pos hec] at hPP
  obtain ⟨v, hv, v0, v1⟩ := rd_one (f := partF f) (n := n - 12) (a := R1.at_) (k := R1.k) (b := (0, 256)) (by rw [hRc]; exact hec)
  rw [hRc] at hv
  obtain ⟨_, _, b3, b4, b5⟩ := rdL_once hp (n := n - 12) [(0, 256)] R1.at_ R1.k a5 (by decide) (by rw [hRc]; exact hec)
  rw [hRc] at b3 b4 b5
  rw [hv] at hPP b3 b4
  have hPP' : R2 = rdL (partF f) (n - 12) (repB v.toNat) Rc.at_ Rc.k := hPP
  obtain ⟨c1, _, c3, c4, c5⟩ := rdL_once hp (n := n - 12) (repB v.toNat) Rc.at_ Rc.k b5 (repB_bnd _) (by rw [← hPP']; exact he2)
  have f2 := rdL_fit (partF f) (n - 12) (repB v.toNat) Rc.at_ Rc.k (by rw [← hPP']; exact he2)
  rw [← hPP'] at c1 c3 c4 c5 f2
  rw [← hpk] at f2 c3 c4
  obtain ⟨g1, g2⟩ := fit_pairs pk v.toNat f2
  have hvl : v = (pk.length : Int) := by rw [g1]; have : (0 : Int) ≤ v := v0; omega
  have hM : rdM f n = fillW (sumW f) R1.vs := by unfold rdM; rw [hR1]
  rw [hM]
  obtain ⟨vs, hvs⟩ : ∃ vs, R1.vs = vs := ⟨_, rfl⟩
  rw [hvs] at f1 a1 a3 a4 ⊢
  match vs, a1 with
  | [x0, x1, x2, x3, x4, x5, x6, x7, x8, x9], _ =>
    have hok : ({ fillW (sumW f) [x0, x1, x2, x3, x4, x5, x6, x7, x8, x9] with pk := pk } : Wi).ok = true := by
      rw [wi_ok, nums_split, List.all_append, List.all_append, g2]
      cases f1 with | cons i0 j0 f1 => cases f1 with | cons i1 j1 f1 => cases f1 with | cons i2 j2 f1 => cases f1 with | cons i3 j3 f1 => cases f1 with | cons i4 j4 f1 => cases f1 with | cons i5 j5 f1 => cases f1 with | cons i6 j6 f1 => cases f1 with | cons i7 j7 f1 => cases f1 with | cons i8 j8 f1 => cases f1 with | cons i9 j9 f1 =>
        dsimp only at i0 j0 i1 j1 i2 j2 i3 j3 i4 j4 i5 j5 i6 j6 i7 j7 i8 j8 i9 j9
        have hl : (pk.length : Int) ≤ 256 := by rw [← hvl]; exact v1
        have hl2 : pk.length ≤ 256 := by omega
        simp [Wi.head10, fillW, fitB, i0, j0, i1, j1, i2, j2, i3, j3, i4, j4, i5, j5, i6, j6, i7, j7, i8, j8, i9, j9, hl2]
        try omega
    refine ⟨hok, by show (0 : Int) ≤ ((sumW f : Nat) : Int); omega, by show ((sumW f : Nat) : Int) < _; have : sumW f < 4294967296 := hs5; omega, ?_⟩
    have hflat : (({ fillW (sumW f) [x0, x1, x2, x3, x4, x5, x6, x7, x8, x9] with pk := pk } : Wi).nums.flatMap fun x => numB x.2.2) = [x0, x1, x2, x3, x4, x5, x6, x7, x8, x9].flatMap numB ++ ([v].flatMap numB ++ (pk.flatMap fun p => [p.1, p.2]).flatMap numB) := by
      rw [nums_split, List.flatMap_append, List.flatMap_append, pairs_flat, hvl]
      rfl
    have hpart : Has (partF f) (n - 12) 0 ([x0, x1, x2, x3, x4, x5, x6, x7, x8, x9].flatMap numB ++ ([v].flatMap numB ++ (pk.flatMap fun p => [p.1, p.2]).flatMap numB)) := by
      refine Has.app.mpr ⟨a3, ?_⟩
      rw [Nat.zero_add, ← a4]
      refine Has.app.mpr ⟨b3, ?_⟩
      rw [← b4]
      exact c3
    have hflen : ([x0, x1, x2, x3, x4, x5, x6, x7, x8, x9].flatMap numB ++ ([v].flatMap numB ++ (pk.flatMap fun p => [p.1, p.2]).flatMap numB)).length = n - 12 := by
      rw [List.length_append, List.length_append]
      omega
    have hbody : Has f n 0 ({ fillW (sumW f) [x0, x1, x2, x3, x4, x5, x6, x7, x8, x9] with pk := pk } : Wi).body := by
      unfold Wi.body
      refine Has.app.mpr ⟨Has.app.mpr ⟨hmg', hs4⟩, ?_⟩
      rw [hflat]
      exact has_part hpart hn12
    have hblen : ({ fillW (sumW f) [x0, x1, x2, x3, x4, x5, x6, x7, x8, x9] with pk := pk } : Wi).body.length = n - 4 := by
      unfold Wi.body
      rw [List.length_append, hflat, hflen]
      show 8 + (n - 12) = n - 4
      omega
    have hse : sumOf (fl ({ fillW (sumW f) [x0, x1, x2, x3, x4, x5, x6, x7, x8, x9] with pk := pk } : Wi).body) (n - 4) = sumOf f (n - 4) := by
      unfold sumOf
      rw [crc_congr (n - 4) (fun i hi => ?_)]
      have := hbody.2 i _ (List.getElem?_eq_getElem (by rw [hblen]; exact hi))
      rw [Nat.zero_add] at this
      rw [this]
      unfold fl
      rw [List.getD_eq_getElem?_getD, List.getElem?_eq_getElem (by rw [hblen]; exact hi)]; rfl
    have hall : Has f n 0 ({ fillW (sumW f) [x0, x1, x2, x3, x4, x5, x6, x7, x8, x9] with pk := pk } : Wi).bytes := by
      unfold Wi.bytes
      refine Has.app.mpr ⟨hbody, ?_⟩
      rw [hblen, hse, Nat.zero_add]
      exact hsk'
    exact has_listF hfe hne hall (by unfold Wi.bytes; rw [List.length_append, hblen]; show n - 4 + 4 = n; omega)
theorem sumB_inj {x y : Nat} (h : sumB x = sumB y) : x = y := by
  simp only [sumB, List.cons.injEq, and_true] at h
  omega
theorem has_eq {f g : Nat → Nat} {n k : Nat} {L M : List Nat} (h : Has f n k L) (h2 : Has g n k M) (hl : L.length = M.length) (he : ∀ i, i < L.length → f (k + i) = g (k + i)) : L = M := by
  refine List.ext_getElem hl fun i h1 h3 => ?_
  have a := h.2 i _ (List.getElem?_eq_getElem h1)
  have b := h2.2 i _ (List.getElem?_eq_getElem h3)
  rw [← a, ← b]; exact he i h1
/-- A byte that was changed is told. -/
theorem flip_pure {f g : Nat → Nat} {n K : Nat} (hf : ∀ i, f i < 256) (hg : ∀ i, g i < 256) (hu : (unfP f n).1 = 0) (hK : K < n) (hne : f K ≠ g K) (ho : ∀ i, i ≠ K → f i = g i) : (unfP g n).1 ≠ 0 := by
  intro hu2
  obtain ⟨_, n12, _, _, s1⟩ := unf_fit hu
  obtain ⟨_, _, _, _, s2⟩ := unf_fit hu2
  have a := (sumK_iff hf (by omega)).mp s1
  have b := (sumK_iff hg (by omega)).mp s2
  by_cases h : K < n - 4
  · have e := has_eq a b rfl (fun i hi => ho _ (by have : i < 4 := hi; omega))
    have e2 := sumB_inj e
    exact hne ((octet.burst f g hf hg K (n - 4) (fun i hi => ho i (by omega))).mp e2 K h)
  · have e : sumOf f (n - 4) = sumOf g (n - 4) := by unfold sumOf; rw [crc_congr (n - 4) (fun i hi => ho i (by omega))]
    rw [e] at a
    have hj : K - (n - 4) < 4 := by omega
    have a2 := a.2 (K - (n - 4)) _ (List.getElem?_eq_getElem (by show _ < 4; exact hj))
    have b2 := b.2 (K - (n - 4)) _ (List.getElem?_eq_getElem (by show _ < 4; exact hj))
    rw [show n - 4 + (K - (n - 4)) = K by omega] at a2 b2
    exact hne (a2.trans b2.symm)
end Go.Proofs.Ytikkgfmhnmoalaa.pg
/- Whether witnesses are the same, as the laws ask it. -/
namespace Go.Proofs.Ytikkgfmhnmoalaa.pg
open Go.ChangeShapes Go.WideShapes Go.ChangeAt Go.RowKit
set_option linter.unusedVariables false
set_option linter.unusedSimpArgs false
set_option maxRecDepth 100000
set_option maxHeartbeats 2000000 in
theorem samePk_any (l : List (Int × Int)) (pa pb : Option Addr) (pc pd : Nat) (w : World) (h1 : Rows w 2 pa pc (l.map pkC)) (h2 : Rows w 2 pb pd (l.map pkC)) : Calls Try.prog 35 #[.slice pa l.length pc, .slice pb l.length pd] w fun e w' => e = .returned (.bool true) ∧ Below w.heap.size w w' := by
  have hlen := rows_len h1
  have h1H : Hid (∀ wx, Below w.heap.size w wx → Rows wx 2 pa pc (l.map pkC)) := fun wx h => h1.later h
  have h2H : Hid (∀ wx, Below w.heap.size w wx → Rows wx 2 pb pd (l.map pkC)) := fun wx h => h2.later h
  clear h1 h2
  go_enter Try.func35, Try.ntmps35
  go_wp2_with fail
  go_loopw [13] (fun u wr => ∃ i : Nat, i ≤ l.length ∧ u = .int .i64 (i : Int) ∧ Hid (Below w.heap.size w wr)) (fun u _ => l.length - (intOf u).toNat)
  case atStart => exact ⟨0, Nat.zero_le _, rfl, Below.refl _ _⟩
  case round =>
    obtain ⟨i, hi, rfl, hb⟩ := hrel
    by_cases hlt : i < l.length
    · have hiI : (i : Int) < (l.length : Int) := by omega
      obtain ⟨x, hx⟩ : ∃ x, l[i]? = some x := ⟨_, List.getElem?_eq_getElem hlt⟩
      obtain ⟨b1, o1, ix1, _, c1, c2⟩ := pk_ix (h1H.out _ hb.out) i x hx
      obtain ⟨b2, o2, ix2, _, d1, d2⟩ := pk_ix (h2H.out _ hb.out) i x hx
      go_wp2_with fail
      go_quiet (fail)
      go_wp2_with fail
      go_roundw
      case rel => exact ⟨i + 1, by omega, by go_num, hb.out.trans ((bel_drewN wr _).mono hb.out.size)⟩
      case measure => simp [intOf]; omega
    · have hnI : (l.length : Int) ≤ (i : Int) := by omega
      go_wp2_with fail
      go_ret
      exact ⟨rfl, hb.out⟩
set_option maxHeartbeats 2000000 in
theorem sameW_any (M : Wi) (pa pb : Option Addr) (pc pd : Nat) (w : World) (h1 : Rows w 2 pa pc (M.pk.map pkC)) (h2 : Rows w 2 pb pd (M.pk.map pkC)) : Calls Try.prog 13 #[.agg (M.cells pa pc).toArray, .agg (M.cells pb pd).toArray] w fun e w' => e = .returned (.bool true) ∧ Below w.heap.size w w' := by
  obtain ⟨V, hV⟩ : ∃ V, V = (w.alloc (objWi M pa pc)).alloc (objWi M pb pd) := ⟨_, rfl⟩
  have hbV : Below w.heap.size w V := by rw [hV]; exact bthen (boxed _ _) (boxed _ _)
  have g1 : V.heap[w.heap.size]? = some (objWi M pa pc) := by rw [hV]; exact ((boxed _ _).block _ (by rw [World.size_alloc]; omega)).trans (heap_alloc_new _ _)
  have g2 : V.heap[w.heap.size + 1]? = some (objWi M pb pd) := by
    have h := heap_alloc_new (w.alloc (objWi M pa pc)) (objWi M pb pd)
    rw [World.size_alloc] at h
    rw [hV]; exact h
  have cP := samePk_any M.pk pa pb pc pd V (h1.later hbV) (h2.later hbV)
  have k0 : V.cell? ⟨w.heap.size, 0, none⟩ = some (.int .u32 M.s) := (cell_of_row V _ 0 _ _ _ g1).trans rfl
  have k1 : V.cell? ⟨w.heap.size, 1, none⟩ = some (.int .i64 M.kd) := (cell_of_row V _ 1 _ _ _ g1).trans rfl
  have k2 : V.cell? ⟨w.heap.size, 2, none⟩ = some (.int .i64 M.af) := (cell_of_row V _ 2 _ _ _ g1).trans rfl
  have k3 : V.cell? ⟨w.heap.size, 3, none⟩ = some (.int .i64 M.ap) := (cell_of_row V _ 3 _ _ _ g1).trans rfl
  have k4 : V.cell? ⟨w.heap.size, 4, none⟩ = some (.int .i64 M.bf) := (cell_of_row V _ 4 _ _ _ g1).trans rfl
  have k5 : V.cell? ⟨w.heap.size, 5, none⟩ = some (.int .i64 M.bp) := (cell_of_row V _ 5 _ _ _ g1).trans rfl
  have k6 : V.cell? ⟨w.heap.size, 6, none⟩ = some (.int .i64 M.nm) := (cell_of_row V _ 6 _ _ _ g1).trans rfl
  have k7 : V.cell? ⟨w.heap.size, 7, none⟩ = some (.int .i64 M.wy) := (cell_of_row V _ 7 _ _ _ g1).trans rfl
  have k8 : V.cell? ⟨w.heap.size, 8, none⟩ = some (.slice pa M.pk.length pc) := (cell_of_row V _ 8 _ _ _ g1).trans rfl
  have k9 : V.cell? ⟨w.heap.size, 9, none⟩ = some (.int .i64 M.st) := (cell_of_row V _ 9 _ _ _ g1).trans rfl
  have k10 : V.cell? ⟨w.heap.size, 10, none⟩ = some (.int .i64 M.fu) := (cell_of_row V _ 10 _ _ _ g1).trans rfl
  have k11 : V.cell? ⟨w.heap.size, 11, none⟩ = some (.int .i64 M.ru) := (cell_of_row V _ 11 _ _ _ g1).trans rfl
  have j0 : V.cell? ⟨w.heap.size + 1, 0, none⟩ = some (.int .u32 M.s) := (cell_of_row V _ 0 _ _ _ g2).trans rfl
  have j1 : V.cell? ⟨w.heap.size + 1, 1, none⟩ = some (.int .i64 M.kd) := (cell_of_row V _ 1 _ _ _ g2).trans rfl
  have j2 : V.cell? ⟨w.heap.size + 1, 2, none⟩ = some (.int .i64 M.af) := (cell_of_row V _ 2 _ _ _ g2).trans rfl
  have j3 : V.cell? ⟨w.heap.size + 1, 3, none⟩ = some (.int .i64 M.ap) := (cell_of_row V _ 3 _ _ _ g2).trans rfl
  have j4 : V.cell? ⟨w.heap.size + 1, 4, none⟩ = some (.int .i64 M.bf) := (cell_of_row V _ 4 _ _ _ g2).trans rfl
  have j5 : V.cell? ⟨w.heap.size + 1, 5, none⟩ = some (.int .i64 M.bp) := (cell_of_row V _ 5 _ _ _ g2).trans rfl
  have j6 : V.cell? ⟨w.heap.size + 1, 6, none⟩ = some (.int .i64 M.nm) := (cell_of_row V _ 6 _ _ _ g2).trans rfl
  have j7 : V.cell? ⟨w.heap.size + 1, 7, none⟩ = some (.int .i64 M.wy) := (cell_of_row V _ 7 _ _ _ g2).trans rfl
  have j8 : V.cell? ⟨w.heap.size + 1, 8, none⟩ = some (.slice pb M.pk.length pd) := (cell_of_row V _ 8 _ _ _ g2).trans rfl
  have j9 : V.cell? ⟨w.heap.size + 1, 9, none⟩ = some (.int .i64 M.st) := (cell_of_row V _ 9 _ _ _ g2).trans rfl
  have j10 : V.cell? ⟨w.heap.size + 1, 10, none⟩ = some (.int .i64 M.fu) := (cell_of_row V _ 10 _ _ _ g2).trans rfl
  have j11 : V.cell? ⟨w.heap.size + 1, 11, none⟩ = some (.int .i64 M.ru) := (cell_of_row V _ 11 _ _ _ g2).trans rfl
  have hbH : Hid (Below w.heap.size w V) := hbV
  clear h1 h2 g1 g2 hbV
  subst hV
  go_enter Try.func13, Try.ntmps13
  go_wp2_with (go_at_call 35; (with_reducible refine cP.mono ?_); rintro e w5 ⟨rfl, hb5⟩)
  go_ret
  exact ⟨rfl, bthen hbH.out hb5⟩
end Go.Proofs.Ytikkgfmhnmoalaa.pg
/- A little witness is written and read. -/
namespace Go.Proofs.Ytikkgfmhnmoalaa.pg
open Go.ChangeShapes Go.WideShapes Go.ChangeAt Go.RowKit
set_option linter.unusedVariables false
set_option linter.unusedSimpArgs false
set_option maxRecDepth 100000
theorem flat2_inj : ∀ {a b : List (Int × Int)}, (a.flatMap fun p => [p.1, p.2]) = (b.flatMap fun p => [p.1, p.2]) → a = b
  | [], [], _ => rfl
  | [], y :: t, h => by simp at h
  | x :: s, [], h => by simp at h
  | x :: s, y :: t, h => by
    simp only [List.flatMap_cons, List.cons_append, List.nil_append, List.cons.injEq] at h
    rw [flat2_inj h.2.2, Prod.ext h.1 h.2.1]
theorem bt_bytes (M : Wi) (h0 : 0 ≤ M.s) (h1 : M.s < 4294967296) : Bt M.bytes := bt_app (bt_body M h0 h1) (bt_sum _ (sumOf_lt _ _))
/-- What was written is read. -/
theorem read_of (M : Wi) (h0 : 0 ≤ M.s) (h1 : M.s < 4294967296) (hok : M.ok = true) (va : Option Addr) (vc : Nat) (w : World) (hR : Rows w 1 va vc (M.bytes.map u8c)) : Calls Try.prog 11 #[.slice va M.bytes.length vc] w fun e w' => Below w.heap.size w w' ∧ ∃ pa pc, e = .returned (.tuple #[.agg (M.cells pa pc).toArray, .int .i64 0, .int .i64 0]) ∧ OwnL w' w.heap.size 66 2 pa pc (M.pk.map pkC) := by
  obtain ⟨q1, q2, q3, q4⟩ := back_pure M h0 h1 hok
  have hn := hR.1
  rw [List.length_map] at hn
  refine (read_fit va M.bytes.length vc (fl M.bytes) w (rows_row hR (bt_bytes M h0 h1)) hn (by have := hR.2.1; omega) q1).mono ?_
  rintro e w' ⟨hb, _, h2⟩
  obtain ⟨pk, pa, pc, rfl, ho, hpk⟩ := h2 (by rw [q2])
  rw [q4] at hpk
  have e := flat2_inj hpk
  rw [e] at ho ⊢
  rw [q3]
  exact ⟨hb, pa, pc, rfl, ho⟩
abbrev exW : Wi := ⟨7, 1, 0, 0, 0, 0, 0, 0, [(1, 0)], 0, 0, 0⟩
theorem exW_ok : exW.ok = true := by decide
theorem num_one (v : Int) (h0 : 0 ≤ v) (h1 : v < 128) : (numB v).length = 1 := by
  unfold numB
  rw [putB_len, octet.szN_small _ (by omega)]
theorem exW_len : exW.bytes.length = 25 := by
  unfold Wi.bytes Wi.body
  rw [List.length_append, List.length_append]
  have e : (exW.nums.flatMap fun x => numB x.2.2).length = 13 := by
    show ((numB 1) ++ ((numB 0) ++ ((numB 0) ++ ((numB 0) ++ ((numB 0) ++ ((numB 0) ++ ((numB 0) ++ ((numB 0) ++ ((numB 0) ++ ((numB 0) ++ ((numB 1) ++ ((numB 1) ++ ((numB 0) ++ []))))))))))))).length = 13
    have a := num_one 0 (by decide) (by decide)
    have b := num_one 1 (by decide) (by decide)
    simp [a, b]
  rw [e]
  rfl
theorem row_nil (w : World) : octet.Row w none 0 (fun _ => 0) := row_none w
abbrev exA (pa : Option Addr) (pc : Nat) : Array Value := #[.int .u32 7, .int .i64 1, .int .i64 0, .int .i64 0, .int .i64 0, .int .i64 0, .int .i64 0, .int .i64 0, .slice pa 1 pc, .int .i64 0, .int .i64 0, .int .i64 0]
abbrev zeA : Array Value := #[.int .u32 0, .int .i64 0, .int .i64 0, .int .i64 0, .int .i64 0, .int .i64 0, .int .i64 0, .int .i64 0, .slice none 0 0, .int .i64 0, .int .i64 0, .int .i64 0]
theorem cells12 {w : World} {B : Nat} {c0 c1 c2 c3 c4 c5 c6 c7 c8 c9 c10 c11 : Value} {t : TypeId} (h : w.heap[B]? = some (.cells #[c0, c1, c2, c3, c4, c5, c6, c7, c8, c9, c10, c11] t)) : w.cell? ⟨B, 0, none⟩ = some c0 ∧ w.cell? ⟨B, 1, none⟩ = some c1 ∧ w.cell? ⟨B, 2, none⟩ = some c2 ∧ w.cell? ⟨B, 3, none⟩ = some c3 ∧ w.cell? ⟨B, 4, none⟩ = some c4 ∧ w.cell? ⟨B, 5, none⟩ = some c5 ∧ w.cell? ⟨B, 6, none⟩ = some c6 ∧ w.cell? ⟨B, 7, none⟩ = some c7 ∧ w.cell? ⟨B, 8, none⟩ = some c8 ∧ w.cell? ⟨B, 9, none⟩ = some c9 ∧ w.cell? ⟨B, 10, none⟩ = some c10 ∧ w.cell? ⟨B, 11, none⟩ = some c11 :=
  ⟨(cell_of_row w B 0 _ _ _ h).trans rfl, (cell_of_row w B 1 _ _ _ h).trans rfl, (cell_of_row w B 2 _ _ _ h).trans rfl, (cell_of_row w B 3 _ _ _ h).trans rfl, (cell_of_row w B 4 _ _ _ h).trans rfl, (cell_of_row w B 5 _ _ _ h).trans rfl, (cell_of_row w B 6 _ _ _ h).trans rfl, (cell_of_row w B 7 _ _ _ h).trans rfl, (cell_of_row w B 8 _ _ _ h).trans rfl, (cell_of_row w B 9 _ _ _ h).trans rfl, (cell_of_row w B 10 _ _ _ h).trans rfl, (cell_of_row w B 11 _ _ _ h).trans rfl⟩
set_option maxHeartbeats 4000000 in
theorem smallW_any (w : World) : Calls Try.prog 10 #[] w fun e w' => e = .returned (.bool true) ∧ Below w.heap.size w w' := by
  obtain ⟨W1, hW1⟩ : ∃ W1, W1 = (w.alloc (.cells #[.int .i64 1, .int .i64 0] 66)).alloc (.cells (exA (some ⟨w.heap.size, 0, none⟩) 1) 31) := ⟨_, rfl⟩
  have hb1 : Below w.heap.size w W1 := by rw [hW1]; exact bthen (boxed _ _) (boxed _ _)
  have z1 : W1.heap.size = w.heap.size + 2 := by rw [hW1]; simp [World.size_alloc]
  have g1 : W1.heap[w.heap.size]? = some (.cells #[.int .i64 1, .int .i64 0] 66) := by rw [hW1]; exact ((boxed _ _).block _ (by rw [World.size_alloc]; omega)).trans (heap_alloc_new _ _)
  have g2 : Hid (W1.heap[w.heap.size + 1]? = some (.cells (exA (some ⟨w.heap.size, 0, none⟩) 1) 31)) := by
    have h := heap_alloc_new (w.alloc (.cells #[.int .i64 1, .int .i64 0] 66)) (.cells (exA (some ⟨w.heap.size, 0, none⟩) 1) 31)
    rw [World.size_alloc] at h
    rw [hW1]; exact h
  have hp1 : Rows W1 2 (some ⟨w.heap.size, 0, none⟩) 1 (exW.pk.map pkC) := rows_pk (x := (1, 0)) g1
  have cW0 := write_ok exW (some ⟨w.heap.size, 0, none⟩) 1 W1 hp1 (.inl fun b hb => by simp [blk] at hb; omega) (by decide) (by decide) exW_ok
  rw [exW_len] at cW0
  have cW : Calls Try.prog 7 #[.agg (exA (some ⟨w.heap.size, 0, none⟩) 1)] W1 fun e w' => ∃ va vc, e = .returned (.tuple #[.slice va 25 vc, .int .i64 0]) ∧ OwnL w' W1.heap.size 5 1 va vc (exW.bytes.map u8c) ∧ Below W1.heap.size W1 w' := cW0
  have cR : ∀ va vc wx, OwnL wx W1.heap.size 5 1 va vc (exW.bytes.map u8c) → Calls Try.prog 11 #[.slice va 25 vc] wx fun e w' => Below wx.heap.size wx w' ∧ ∃ pa pc, e = .returned (.tuple #[.agg (exA pa pc), .int .i64 0, .int .i64 0]) ∧ OwnL w' wx.heap.size 66 2 pa pc (exW.pk.map pkC) := fun va vc wx ho => by
    have := read_of exW (by decide) (by decide) exW_ok va vc wx (own_rows ho (u8_len _))
    rw [exW_len] at this
    exact this
  have cN : ∀ wx, Calls Try.prog 11 #[.slice none 0 0] wx fun e w' => e = .returned (.tuple #[.agg zeA, .int .i64 40, .int .i64 0]) ∧ Below wx.heap.size wx w' := fun wx => by
    have hu : unfP (fun _ => 0) 0 = (40, 0) := by
      unfold unfP
      rw [if_neg (by decide), if_pos (by unfold magB; simp)]
    have := read_unfit none 0 0 (fun _ => 0) wx (row_none wx) (Nat.le_refl _) (by decide) (by rw [hu]; simp)
    rw [hu] at this
    exact this
  have cS : ∀ pa pc wx, Rows wx 2 (some ⟨w.heap.size, 0, none⟩) 1 (exW.pk.map pkC) → Rows wx 2 pa pc (exW.pk.map pkC) → Calls Try.prog 13 #[.agg (exA (some ⟨w.heap.size, 0, none⟩) 1), .agg (exA pa pc)] wx fun e w' => e = .returned (.bool true) ∧ Below wx.heap.size wx w' := fun pa pc wx a b => sameW_any exW _ _ _ _ wx a b
  have hp1H : Hid (∀ wx, Below W1.heap.size W1 wx → Rows wx 2 (some ⟨w.heap.size, 0, none⟩) 1 (exW.pk.map pkC)) := fun wx h => hp1.later h
  have hW1H : Hid (W1 = (w.alloc (.cells #[.int .i64 1, .int .i64 0] 66)).alloc (.cells (exA (some ⟨w.heap.size, 0, none⟩) 1) 31)) := hW1
  have hb1H : Hid (Below w.heap.size w W1) := hb1
  have z1H : Hid (W1.heap.size = w.heap.size + 2) := z1
  have huW : Hid (Try.prog.underlying 31 = _) := Try.underlying31
  clear hp1 hW1 hb1 g1 z1 cW0
  go_enter Try.func10, Try.ntmps10
  go_wp2_with (first
    | (go_at_call 7; rw [← hW1H.out]; (with_reducible refine cW.mono ?_); rintro e w2 ⟨va, vc, rfl, ho2, hb2⟩)
    | (go_at_call 11; first
        | ((with_reducible refine (cR va vc _ ho2).mono ?_); rintro e w3 ⟨hb3, pa, pc, rfl, ho3⟩)
        | ((with_reducible refine (cN _).mono ?_); rintro e w5 ⟨rfl, hb5⟩; (have hbA : Below w3.heap.size w3 (w5.alloc (.cells zeA 31)) := bthen (bthen (boxed _ _) hb5) (boxed _ _)); (have hl3 := (heap_alloc_new w3 (.cells (exA pa pc) 31))); (have l1 : Hid ((w5.alloc (.cells zeA 31)).heap[w.heap.size + 1]? = some (.cells (exA (some ⟨w.heap.size, 0, none⟩) 1) 31)) := (hbA.block _ (by have := hb2.size; have := hb3.size; have := z1H.out; omega)).trans ((hb3.block _ (by have := hb2.size; have := z1H.out; omega)).trans ((hb2.block _ (by have := z1H.out; omega)).trans g2.out))); (have l2 : Hid ((w5.alloc (.cells zeA 31)).heap[w3.heap.size]? = some (.cells (exA pa pc) 31)) := (bthen hb5 (boxed _ _)).block _ (by rw [World.size_alloc]; omega) |>.trans hl3); (have r1 := hp1H.out _ (bthen (bthen hb2 hb3) hbA)); (have r2 := (own_rows ho3 (pk_len _)).later hbA); (have cS2 := cS pa pc _ r1 r2); (obtain ⟨k0, k1, k2, k3, k4, k5, k6, k7, k8, k9, k10, k11⟩ := cells12 l1.out); (obtain ⟨j0, j1, j2, j3, j4, j5, j6, j7, j8, j9, j10, j11⟩ := cells12 l2.out); clear r1 r2 hl3))
    | (go_at_call 13; (with_reducible refine cS2.mono ?_); rintro e w7 ⟨rfl, hb7⟩))
  go_ret
  exact ⟨rfl, bthen (bthen hb1H.out (bthen hb2 hb3)) (bthen hbA hb7)⟩
end Go.Proofs.Ytikkgfmhnmoalaa.pg
