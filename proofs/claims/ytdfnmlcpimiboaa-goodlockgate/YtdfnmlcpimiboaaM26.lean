/- grow of package goodlock. -/
import Derived.Test.YtdfnmlcpimiboaaM24
import Derived.Test.YtdfnmlcpimiboaaShelf
namespace Go.Proofs.Ytdfnmlcpimiboaa.pg
open Go.ChangeShapes Go.WideShapes Go.ChangeAt Go.RowKit
set_option linter.unusedVariables false
set_option linter.unusedSimpArgs false
set_option maxRecDepth 100000
attribute [local go_sem ↓] Go.wp_at_zero Go.wp_at_succ
def GrowP (lo K : Nat) (S : Nat → Slot) (la : Option Addr) (P : List Rng) (ba : Option Addr) (bc : Nat) (bg : List Nat) (res : List (List Nat)) (w : World) (e : Ending) (w' : World) : Prop := ∃ la' lc' P', e = .returned (.slice la' P'.length lc') ∧ P'.map (·.2.1) = P.map (·.2.1) ++ res ∧ GrP lo w' K S la' lc' P' ba bc bg ∧ GrF lo la ba w w' ∧ (∀ b ∈ blk la', b ∈ blk la ∨ w.heap.size ≤ b) ∧ (∀ s ∈ P', ∀ g ∈ blk s.1, (∃ t ∈ P, g ∈ blk t.1) ∨ w.heap.size ≤ g)
/-- What grow answers, for one beginning. -/
def GrowOK (lo K : Nat) (S : Nat → Slot) (bg : List Nat) (res : List (List Nat)) (bnd : Nat) : Prop := res.length ≤ bnd ∧ ∀ (ba : Option Addr) (bc : Nat) (la : Option Addr) (lc : Nat) (P : List Rng) (w : World), P.length + bnd ≤ 2000 → GrP lo w K S la lc P ba bc bg →
    Calls Try.prog 48 #[.pointer (some ⟨K, 0, none⟩), .slice la P.length lc, .slice ba bg.length bc] w fun e w' => GrowP lo K S la P ba bc bg res w e w'
/-- The rings so far: those of a first part, and those that come by the locks below a bound. -/
def gtL (fst : List (List Nat)) (gx : Nat → List (List Nat)) (b : List Nat) (k : Nat) : List (List Nat) := fst ++ (List.range k).flatMap fun x => if b.getD 0 0 < x ∧ x ∉ b then gx x else []
theorem gtL_step (fst : List (List Nat)) (gx : Nat → List (List Nat)) (b : List Nat) (k : Nat) : gtL fst gx b (k + 1) = gtL fst gx b k ++ (if b.getD 0 0 < k ∧ k ∉ b then gx k else []) := by
  unfold gtL
  rw [List.range_succ, List.flatMap_append, List.append_assoc]
  simp
theorem gtL_first (fst : List (List Nat)) (gx : Nat → List (List Nat)) (b : List Nat) : ∀ k, k ≤ b.getD 0 0 + 1 → gtL fst gx b k = fst
  | 0, _ => by unfold gtL; simp
  | k + 1, h => by
    rw [gtL_step, gtL_first fst gx b k (by omega), if_neg (c := b.getD 0 0 < k ∧ k ∉ b) (by omega), List.append_nil]
theorem gtL_len (fst : List (List Nat)) (gx : Nat → List (List Nat)) (b : List Nat) (bnd : Nat) (h1 : fst.length ≤ 1) (h : ∀ x, x < 4 → b.getD 0 0 < x → x ∉ b → (gx x).length ≤ bnd) : ∀ k, k ≤ 4 → (gtL fst gx b k).length ≤ 1 + k * bnd
  | 0, _ => by unfold gtL; simp; exact h1
  | k + 1, hk => by
    rw [gtL_step, List.length_append]
    have := gtL_len fst gx b bnd h1 h k (by omega)
    have h2 : (if b.getD 0 0 < k ∧ k ∉ b then gx k else []).length ≤ bnd := by
      split
      · rename_i q
        exact h k (by omega) q.1 q.2
      · exact Nat.zero_le _
    rw [Nat.add_mul]
    omega
/-- How grow stands. -/
structure GrM (lo K : Nat) (S : Nat → Slot) (la : Option Addr) (P : List Rng) (ba : Option Addr) (bc : Nat) (bg : List Nat) (w wr : World) (la' : Option Addr) (lc' : Nat) (P' : List Rng) : Prop where
  p : GrP lo wr K S la' lc' P' ba bc bg
  f : GrF lo la ba w wr
  b : ∀ b ∈ blk la', b ∈ blk la ∨ w.heap.size ≤ b
  i : ∀ s ∈ P', ∀ g ∈ blk s.1, (∃ t ∈ P, g ∈ blk t.1) ∨ w.heap.size ≤ g
def okR (S : Nat → Slot) (b : List Nat) : Bool := choB unB (fun k => (S k).2.1) b b.length []
theorem infoSlG : (Try.prog.info? 29).map (fun i => (i.zero, i.size, i.bytes)) = some (some (.slice none 0 0), 1, 24) := by kernel_rfl
theorem int_cellsG {w : World} {lo B cap : Nat} {L : List Nat} (h : OwnL w lo 3 1 (some ⟨B, 0, none⟩) cap ((asZ L).map chCells)) : ∀ j, j < (asZ L).length → w.cell? ⟨B, 0 + j, none⟩ = some (.int .i64 ((asZ L).getD j 0)) := fun j hj => by
  rcases (own_rows h (asZ_one L)).2.2.2 with q | ⟨b, off, e, _, hc⟩
  · simp only [List.map_eq_nil_iff] at q
    rw [q] at hj
    exact absurd hj (Nat.not_lt_zero j)
  · simp only [Option.some.injEq, Addr.mk.injEq, and_true] at e
    obtain ⟨rfl, rfl⟩ := e
    have := (hc j (chCells ((asZ L).getD j 0)) (by rw [List.getElem?_map, List.getD_eq_getElem?_getD, List.getElem?_eq_getElem hj]; rfl)).2 0 _ rfl
    rw [Nat.mul_one, Nat.add_zero] at this
    exact this
theorem cloneG_any {lo bc : Nat} {ba : Option Addr} {bg : List Nat} {w : World} (h1 : 1 ≤ bg.length) (h4 : bg.length ≤ 4) (h : OwnL w lo 3 1 ba bc ((asZ bg).map chCells)) : Calls Try.prog 62 #[.slice ba bg.length bc] w fun e w' => ∃ ga gc, e = .returned (.slice ga bg.length gc) ∧ OwnL w' w.heap.size 3 1 ga gc ((asZ bg).map chCells) ∧ Below w.heap.size w w' := by
  rcases own_block h with ⟨_, q, _⟩ | ⟨B, rfl, _, _⟩
  · simp [asZ] at q; subst q; simp at h1
  · refine (Try.slices_Clone_int B 0 bg.length bc (asZ bg) w (by simp [asZ]) (by omega) (int_cellsG h)).mono ?_
    rintro e w' ⟨v', rfl, ho, hne, hb⟩
    rw [List.take_of_length_le (by simp [asZ])] at ho
    have hfl : ((asZ bg).map chCells).flatten = (asZ bg).map (Value.int .i64) := by
      induction asZ bg with
      | nil => rfl
      | cons x t ih => simp [chCells, ih]
    rcases ho.2 with ⟨q, _⟩ | ⟨g, cap, cur, rfl, r⟩
    · exact absurd q hne
    · refine ⟨_, cap, rfl, ?_, hb⟩
      show w'.ownsRow _ _ _ (.slice _ ((asZ bg).map chCells).length cap) ((asZ bg).map chCells).length _
      rw [hfl, List.length_map, show (asZ bg).length = bg.length by simp [asZ]]
      exact ho
theorem contains_asZ (L : List Nat) (k : Nat) : ((asZ L).take L.length).contains (k : Int) = decide (k ∈ L) := by
  rw [List.take_of_length_le (by simp [asZ])]
  rw [Bool.eq_iff_iff, decide_eq_true_iff, List.contains_iff_mem]
  unfold asZ
  rw [List.mem_map]
  constructor
  · rintro ⟨z, hz, e⟩
    have : z = k := by omega
    exact this ▸ hz
  · exact fun h => ⟨k, h, rfl⟩
theorem ch_of_gr {lo K lc bc : Nat} {S : Nat → Slot} {la ba : Option Addr} {P : List Rng} {bg : List Nat} {w : World} (h : GrP lo w K S la lc P ba bc bg) : ChP lo w K S ba bc bg none 0 [] :=
  ⟨h.k, h.o, fun j hj g hg => ⟨(h.f j hj g hg).1, by simp [blk]⟩, own_rows h.c (asZ_one bg), fun g hg => ⟨(blk_lt h.c g hg).2, by simp [blk]⟩, own_nil_q _ _ _ _, h.z⟩
set_option maxHeartbeats 8000000 in
theorem grow_body {lo K : Nat} {S : Nat → Slot} {bg : List Nat} (h1 : 1 ≤ bg.length) (h4 : bg.length ≤ 4) (hri : ∀ i ∈ bg, i < 4) (gx : Nat → List (List Nat)) (bnd : Nat) (hx : ∀ x, x < 4 → bg.getD 0 0 < x → x ∉ bg → GrowOK lo K S (bg ++ [x]) (gx x) bnd) :
    GrowOK lo K S bg (gtL (if 1 < bg.length ∧ okR S bg = true then [bg] else []) gx bg 4) (1 + 4 * bnd) := by
  obtain ⟨fst, hfst⟩ : ∃ fst, (if 1 < bg.length ∧ okR S bg = true then [bg] else []) = fst := ⟨_, rfl⟩
  have hf1 : fst.length ≤ 1 := by rw [← hfst]; split <;> simp
  rw [hfst]
  refine ⟨gtL_len fst gx bg bnd hf1 (fun x a b c => (hx x a b c).1) 4 (by omega), ?_⟩
  intro ba bc la lc P w hbd hP
  have hxH : Hid (∀ x, x < 4 → bg.getD 0 0 < x → x ∉ bg → GrowOK lo K S (bg ++ [x]) (gx x) bnd) := hx
  have hlen : Hid (∀ k, k ≤ 4 → (gtL fst gx bg k).length ≤ 1 + k * bnd) := gtL_len fst gx bg bnd hf1 (fun x a b c => (hx x a b c).1)
  have hP0 : Hid (GrP lo w K S la lc P ba bc bg) := hP
  have hM0 : Hid (GrM lo K S la P ba bc bg w w la lc P) := ⟨hP, GrF.refl, fun b hb => .inl hb, fun s hs g hg => .inl ⟨s, hs, hg⟩⟩
  have hbI : (bg.length : Int) ≤ 4 := by omega
  have hPl : Hid (P.length + (1 + 4 * bnd) ≤ 2000) := hbd
  have hbdH : Hid ((∀ i ∈ bg, i < 4) ∧ 1 ≤ bg.length ∧ bg.length ≤ 4) := ⟨hri, h1, h4⟩
  obtain ⟨B, hB⟩ : ∃ B, ba = some ⟨B, 0, none⟩ := by
    rcases own_block hP.c with ⟨_, q, _⟩ | ⟨G, rfl, _, _⟩
    · simp [asZ] at q; subst q; simp at h1
    · exact ⟨G, rfl⟩
  have hBH : Hid (ba = some ⟨B, 0, none⟩) := hB
  have cC : Calls Try.prog 37 #[.pointer (some ⟨K, 0, none⟩), .slice ba bg.length bc, .slice none 0 0, fvG 53] w fun e w' => e = .returned (.bool (okR S bg)) ∧ Below w.heap.size w w' := (choose_any yes_unlike h4 hri bg.length [] none 0 w (by simp) (ch_of_gr hP)).mono fun e w' q => ⟨q.1, ⟨q.2.1.b.os, q.2.1.b.tape, q.2.1.b.output, q.2.1.b.size, fun k hk => q.2.1.k k hk (by simp [blk])⟩⟩
  have hfH : Hid ((if 1 < bg.length ∧ okR S bg = true then [bg] else []) = fst) := hfst
  obtain ⟨ok, hok⟩ : ∃ ok, okR S bg = ok := ⟨_, rfl⟩
  rw [hok] at cC hfH
  clear hok hfst hP hx hf1 hB hbd hri
  go_enter Try.func48, Try.ntmps48
  obtain ⟨iN, hiN', hzN', hsN', hbN'⟩ := info_q infoNlG
  have hiN : Hid (Try.prog.info? 3 = some iN) := hiN'
  have hzN : Hid _ := hzN'
  have hsN : Hid _ := hsN'
  have hbN : Hid _ := hbN'
  clear hiN' hzN' hsN' hbN'
  by_cases hsh : 1 < bg.length
  · have hshI : (bg.length : Int) > 1 := by omega
    cases ok with
    | true =>
      have hfe : Hid (fst = [bg]) := by (show _ = _; rw [← hfH.out, if_pos ⟨hsh, rfl⟩])
      obtain ⟨iS, hiS', hzS', hsS', hbS'⟩ := info_q infoSlG
      have hiS : Hid (Try.prog.info? 29 = some iS) := hiS'
      have hzS : Hid _ := hzS'
      have hsS : Hid _ := hsS'
      have hbS : Hid _ := hbS'
      clear hiS' hzS' hsS' hbS'
      have hPl2 : Hid (P.length ≤ 2000) := by (have := hPl.out; show _ ≤ _; omega)
      have cK : ∀ wx, Below w.heap.size w wx → Calls Try.prog 62 #[.slice ba bg.length bc] wx fun e w' => ∃ ga gc, e = .returned (.slice ga bg.length gc) ∧ OwnL w' wx.heap.size 3 1 ga gc ((asZ bg).map chCells) ∧ Below wx.heap.size wx w' := fun wx hbx => cloneG_any hbdH.out.2.1 hbdH.out.2.2 (hP0.out.later hbx).c
      go_upto_region 3 with (first
        | (go_at_call 37; (with_reducible refine cC.mono ?_); rintro e w1 ⟨rfl, hb1⟩; (have hQ1 : Hid (Below w.heap.size w w1) := hb1); clear hb1 cC)
        | (go_at_call 62; (with_reducible refine (cK _ hQ1.out).mono ?_); rintro e w2 ⟨ga, gc, rfl, ho2, hb2⟩; (have hQ2 : Hid (Below w.heap.size w w2 ∧ OwnL w2 w1.heap.size 3 1 ga gc ((asZ bg).map chCells) ∧ w.heap.size ≤ w1.heap.size) := ⟨bthen hQ1.out hb2, ho2, hQ1.out.size⟩); (have hP2 : Hid (GrP lo w2 K S la lc P ba bc bg) := hP0.out.later hQ2.out.1); clear hb2 ho2 cK)
        | (refine wpList_buildSlice rfl 39 29 1 _ rfl #[.slice ga bg.length gc] iS _ Try.underlying39 hiS.out hzS.out (by rw [hsS.out]; omega) (by rw [hsS.out]; omega) (by simp only [hsS.out]; kernel_rfl) ?_)
        | (at_builtin; (refine wpList_app1 rfl (.tmp 16) (.tmp 19) 39 rfl lo 29 iS _ 1 24 Try.underlying39 hiS.out hzS.out hsS.out hbS.out rfl (by decide) la lc (P.map Rng.cs) (by rw [List.length_map]; rfl) hP2.out.l.o [.slice ga bg.length gc] rfl rfl (by simp [Value.oneCell']) (by rw [List.length_map]; have := hPl2.out; unfold maxLen; omega) (by rw [List.length_map]; have := hPl2.out; omega) hP2.out.z ?_); intro va vc w3 hgr; rw [List.length_map]))
      have hput := hP2.out.put (s := (ga, bg, gc)) (own_mono_q hQ2.out.2.1 (Nat.le_trans hP0.out.z hQ2.out.2.2)) (fun g hg q => by
        have h1 := (blk_lt hQ2.out.2.1 g hg).1
        have h2 := (blk_lt hP0.out.c g q).2
        have h3 := hQ2.out.2.2
        omega) hgr
      obtain ⟨P1, hP1⟩ : ∃ P1 : List Rng, P ++ [((ga, bg, gc) : Rng)] = P1 := ⟨_, rfl⟩
      have hI : Hid (GrM lo K S la P ba bc bg w w3 va vc P1 ∧ P1.map (·.2.1) = P.map (·.2.1) ++ fst) := by
        rw [← hP1]
        refine ⟨⟨hput.1, GrF.trans (GrF.of hQ2.out.1 hP0.out.z) (fun b hb => .inl hb) (fun b hb => .inl hb) hput.2, fun b hb => (hgr.bk b hb).imp_right fun q => Nat.le_trans hQ2.out.1.size q, fun s hs g hg => ?_⟩, by (rw [hfe.out, List.map_append]; rfl)⟩
        rw [List.mem_append, List.mem_singleton] at hs
        rcases hs with hs | rfl
        · exact .inl ⟨s, hs, hg⟩
        · exact .inr (Nat.le_trans hQ2.out.2.2 (blk_lt hQ2.out.2.1 g hg).1)
      have hPl1 : P.length + 1 = P1.length := by rw [← hP1, List.length_append, List.length_singleton]
      rw [hPl1]
      clear hput hgr hP1 hPl1 hP2 hQ2 hQ1
      obtain ⟨b1, o1, x1, _, c1⟩ := int_ixG (own_rows hI.out.1.p.c (asZ_one bg)) 0 (bg.getD 0 0) (by rw [List.getD_eq_getElem?_getD, List.getElem?_eq_getElem (by have := hbdH.out.2.1; omega)]; rfl)
      have x1' : ∀ wx, (Instr.indexAt 29 (.slice ba bg.length bc) (.int .i64 0)).run Try.prog wx = .ok (.pointer (some ⟨b1, o1, none⟩)) wx := x1
      have hb04 : bg.getD 0 0 < 4 := hbdH.out.1 _ (by rw [List.getD_eq_getElem?_getD, List.getElem?_eq_getElem (by have := hbdH.out.2.1; omega)]; exact List.getElem_mem _)
      have hg1 : Hid (gtL fst gx bg (bg.getD 0 0 + 1) = fst) := gtL_first fst gx bg _ (Nat.le_refl _)
      obtain ⟨p, hp⟩ : ∃ p, bg.getD 0 0 = p := ⟨_, rfl⟩
      have hpH : Hid (bg.getD 0 0 = p) := hp
      rw [hp] at c1 hb04 hg1
      clear x1 hp hP0 hM0
      go_wp2_with fail
      go_loopw [1, 7] (fun u1 u wr => ∃ (k : Nat) (la' : Option Addr) (lc' : Nat) (P' : List Rng), p < k ∧ k ≤ 4 ∧ u = .int .i64 (k : Int) ∧ u1 = .slice la' P'.length lc' ∧ Hid (GrM lo K S la P ba bc bg w wr la' lc' P' ∧ P'.map (·.2.1) = P.map (·.2.1) ++ gtL fst gx bg k)) (fun _ u _ => 4 - (intOf u).toNat)
      case atStart => exact ⟨p + 1, _, _, _, by omega, by omega, by go_num, rfl, hI.out.1, by (rw [hg1.out]; exact hI.out.2)⟩
      case round =>
        obtain ⟨k, la', lc', P', hk1, hk2, rfl, rfl, hq⟩ := hrel
        clear hI c1 x1'
        by_cases hlt : k < 4
        · have hkI : (k : Int) < 4 := by omega
          have hstp : Hid (gtL fst gx bg (k + 1) = gtL fst gx bg k ++ (if bg.getD 0 0 < k ∧ k ∉ bg then gx k else [])) := gtL_step fst gx bg k
          have cT : Calls Try.prog 63 #[.slice ba bg.length bc, .int .i64 (k : Int)] wr fun e w' => e = .returned (.bool (decide (k ∈ bg))) ∧ w' = wr := by
            have h1 := hq.out.1.p.c
            rw [hBH.out] at h1 ⊢
            have := Try.slices_Contains_int B 0 bg.length bc (asZ bg) (k : Int) wr (by simp [asZ]) (by have := hbdH.out.2.2; omega) (int_cellsG h1)
            rw [contains_asZ] at this
            exact this
          obtain ⟨R, hR⟩ : ∃ R, decide (k ∈ bg) = R := ⟨_, rfl⟩
          rw [hR] at cT
          cases R with
          | true =>
            have hin : k ∈ bg := of_decide_eq_true hR
            rw [if_neg (fun q => q.2 hin)] at hstp
            clear hR hin
            go_wp2_with (first
              | (go_at_call 63; (with_reducible refine cT.mono ?_); rintro e w2 ⟨rfl, rfl⟩))
            go_roundw
            case rel => exact ⟨k + 1, la', lc', P', by omega, by omega, by go_num, rfl, hq.out.1, by (rw [hstp.out, List.append_nil]; exact hq.out.2)⟩
            case measure => simp [intOf]; omega
          | false =>
            have hin : k ∉ bg := of_decide_eq_false hR
            rw [if_pos ⟨by (have := hpH.out; omega), hin⟩] at hstp
            have hX : Hid (GrowOK lo K S (bg ++ [k]) (gx k) bnd) := hxH.out k hlt (by have := hpH.out; omega) hin
            have hPn : Hid (P'.length + bnd ≤ 2000) := by
              have h2 := congrArg List.length hq.out.2
              rw [List.length_append, List.length_map, List.length_map] at h2
              have h3 := hlen.out k (by omega)
              have h4 := hPl.out
              have h5 : k * bnd ≤ 3 * bnd := Nat.mul_le_mul_right _ (by omega)
              show _ ≤ _
              omega
            clear hR hin
            go_wp2_with (first
              | (go_at_call 63; (with_reducible refine cT.mono ?_); rintro e w2 ⟨rfl, rfl⟩)
              | (refine wpList_buildSlice rfl 29 3 1 _ rfl (chCells (k : Int)).toArray iN _ Try.underlying29 hiN.out hzN.out (by rw [hsN.out]; omega) (by rw [hsN.out]; omega) (by simp only [hsN.out]; kernel_rfl) ?_)
              | (at_builtin; (refine wpList_app1S rfl (.tmp 35) (.tmp 37) 29 rfl lo 3 iN _ 1 8 Try.underlying29 hiN.out hzN.out hsN.out hbN.out rfl (by decide) ba bc ((asZ bg).map chCells) (by rw [List.length_map]; simp [asZ]; rfl) hq.out.1.p.c (chCells (k : Int)) rfl rfl (by simp [chCells, Value.oneCell']) (by rw [List.length_map]; have := hbdH.out.2.2; simp only [asZ, List.length_map]; unfold maxLen; omega) (by rw [List.length_map]; have := hbdH.out.2.2; simp only [asZ, List.length_map]; omega) hq.out.1.p.z ?_); intro va vc Z3 hgr hold; rw [List.length_map, show (asZ bg).length = bg.length by simp [asZ]]; (have hPZ := hq.out.1.p.more hgr); (have cG := hX.out.2 va vc la' lc' P' Z3 hPn.out hPZ.1); rw [List.length_append, List.length_singleton] at cG)
              | (go_at_call 48; (with_reducible refine cG.mono ?_); rintro e w4 ⟨la4, lc4, P4, rfl, hm4, hp4, hf4, hb4, hi4⟩))
            have hZs : w.heap.size ≤ Z3.heap.size := Nat.le_trans hq.out.1.f.b.size hPZ.2.b.size
            have hF : Hid (GrM lo K S la P ba bc bg w w4 la4 lc4 P4 ∧ P4.map (·.2.1) = P.map (·.2.1) ++ gtL fst gx bg (k + 1)) := by
              refine ⟨⟨hPZ.1.back hold (fun b hb => (blk_lt hold b hb).2) hp4 hf4 (fun g hg => own_apartG hq.out.1.p.c hq.out.1.p.l.o (by decide) hg) hb4 hi4 hq.out.1.p.a fun j hj g hg => (hq.out.1.p.f j hj g hg).2.2, GrF.trans hq.out.1.f hq.out.1.b (fun b hb => .inl hb) (GrF.trans hPZ.2 (fun b hb => .inl hb) hgr.bk hf4), fun b hb => ?_, fun s hs g hg => ?_⟩, ?_⟩
              · rcases hb4 b hb with q | q
                · exact hq.out.1.b b q
                · right; omega
              · rcases hi4 s hs g hg with ⟨t, ht, q⟩ | q
                · exact hq.out.1.i t ht g q
                · right; omega
              · rw [hm4, hq.out.2, hstp.out, List.append_assoc]
            clear hgr hold hPZ cG hm4 hp4 hf4 hb4 hi4 hZs
            go_roundw
            case rel => exact ⟨k + 1, la4, lc4, P4, by omega, by omega, by go_num, rfl, hF.out⟩
            case measure => simp [intOf]; omega
        · have hke : k = 4 := by omega
          subst hke
          go_wp2
          go_ret
          exact ⟨la', lc', P', rfl, hq.out.2, hq.out.1.p, hq.out.1.f, hq.out.1.b, hq.out.1.i⟩
    | false =>
      have hfe : Hid (fst = []) := by (show _ = _; rw [← hfH.out]; simp)
      go_upto_region 3 with (first
        | (go_at_call 37; (with_reducible refine cC.mono ?_); rintro e w1 ⟨rfl, hb1⟩; (have hI : Hid (GrM lo K S la P ba bc bg w w1 la lc P ∧ P.map (·.2.1) = P.map (·.2.1) ++ fst) := ⟨⟨hP0.out.later hb1, GrF.of hb1 hP0.out.z, hM0.out.b, hM0.out.i⟩, by (rw [hfe.out, List.append_nil])⟩); clear hb1 cC))
      obtain ⟨b1, o1, x1, _, c1⟩ := int_ixG (own_rows hI.out.1.p.c (asZ_one bg)) 0 (bg.getD 0 0) (by rw [List.getD_eq_getElem?_getD, List.getElem?_eq_getElem (by have := hbdH.out.2.1; omega)]; rfl)
      have x1' : ∀ wx, (Instr.indexAt 29 (.slice ba bg.length bc) (.int .i64 0)).run Try.prog wx = .ok (.pointer (some ⟨b1, o1, none⟩)) wx := x1
      have hb04 : bg.getD 0 0 < 4 := hbdH.out.1 _ (by rw [List.getD_eq_getElem?_getD, List.getElem?_eq_getElem (by have := hbdH.out.2.1; omega)]; exact List.getElem_mem _)
      have hg1 : Hid (gtL fst gx bg (bg.getD 0 0 + 1) = fst) := gtL_first fst gx bg _ (Nat.le_refl _)
      obtain ⟨p, hp⟩ : ∃ p, bg.getD 0 0 = p := ⟨_, rfl⟩
      have hpH : Hid (bg.getD 0 0 = p) := hp
      rw [hp] at c1 hb04 hg1
      clear x1 hp hP0 hM0
      go_wp2_with fail
      go_loopw [1, 7] (fun u1 u wr => ∃ (k : Nat) (la' : Option Addr) (lc' : Nat) (P' : List Rng), p < k ∧ k ≤ 4 ∧ u = .int .i64 (k : Int) ∧ u1 = .slice la' P'.length lc' ∧ Hid (GrM lo K S la P ba bc bg w wr la' lc' P' ∧ P'.map (·.2.1) = P.map (·.2.1) ++ gtL fst gx bg k)) (fun _ u _ => 4 - (intOf u).toNat)
      case atStart => exact ⟨p + 1, _, _, _, by omega, by omega, by go_num, rfl, hI.out.1, by (rw [hg1.out]; exact hI.out.2)⟩
      case round =>
        obtain ⟨k, la', lc', P', hk1, hk2, rfl, rfl, hq⟩ := hrel
        clear hI c1 x1'
        by_cases hlt : k < 4
        · have hkI : (k : Int) < 4 := by omega
          have hstp : Hid (gtL fst gx bg (k + 1) = gtL fst gx bg k ++ (if bg.getD 0 0 < k ∧ k ∉ bg then gx k else [])) := gtL_step fst gx bg k
          have cT : Calls Try.prog 63 #[.slice ba bg.length bc, .int .i64 (k : Int)] wr fun e w' => e = .returned (.bool (decide (k ∈ bg))) ∧ w' = wr := by
            have h1 := hq.out.1.p.c
            rw [hBH.out] at h1 ⊢
            have := Try.slices_Contains_int B 0 bg.length bc (asZ bg) (k : Int) wr (by simp [asZ]) (by have := hbdH.out.2.2; omega) (int_cellsG h1)
            rw [contains_asZ] at this
            exact this
          obtain ⟨R, hR⟩ : ∃ R, decide (k ∈ bg) = R := ⟨_, rfl⟩
          rw [hR] at cT
          cases R with
          | true =>
            have hin : k ∈ bg := of_decide_eq_true hR
            rw [if_neg (fun q => q.2 hin)] at hstp
            clear hR hin
            go_wp2_with (first
              | (go_at_call 63; (with_reducible refine cT.mono ?_); rintro e w2 ⟨rfl, rfl⟩))
            go_roundw
            case rel => exact ⟨k + 1, la', lc', P', by omega, by omega, by go_num, rfl, hq.out.1, by (rw [hstp.out, List.append_nil]; exact hq.out.2)⟩
            case measure => simp [intOf]; omega
          | false =>
            have hin : k ∉ bg := of_decide_eq_false hR
            rw [if_pos ⟨by (have := hpH.out; omega), hin⟩] at hstp
            have hX : Hid (GrowOK lo K S (bg ++ [k]) (gx k) bnd) := hxH.out k hlt (by have := hpH.out; omega) hin
            have hPn : Hid (P'.length + bnd ≤ 2000) := by
              have h2 := congrArg List.length hq.out.2
              rw [List.length_append, List.length_map, List.length_map] at h2
              have h3 := hlen.out k (by omega)
              have h4 := hPl.out
              have h5 : k * bnd ≤ 3 * bnd := Nat.mul_le_mul_right _ (by omega)
              show _ ≤ _
              omega
            clear hR hin
            go_wp2_with (first
              | (go_at_call 63; (with_reducible refine cT.mono ?_); rintro e w2 ⟨rfl, rfl⟩)
              | (refine wpList_buildSlice rfl 29 3 1 _ rfl (chCells (k : Int)).toArray iN _ Try.underlying29 hiN.out hzN.out (by rw [hsN.out]; omega) (by rw [hsN.out]; omega) (by simp only [hsN.out]; kernel_rfl) ?_)
              | (at_builtin; (refine wpList_app1S rfl (.tmp 35) (.tmp 37) 29 rfl lo 3 iN _ 1 8 Try.underlying29 hiN.out hzN.out hsN.out hbN.out rfl (by decide) ba bc ((asZ bg).map chCells) (by rw [List.length_map]; simp [asZ]; rfl) hq.out.1.p.c (chCells (k : Int)) rfl rfl (by simp [chCells, Value.oneCell']) (by rw [List.length_map]; have := hbdH.out.2.2; simp only [asZ, List.length_map]; unfold maxLen; omega) (by rw [List.length_map]; have := hbdH.out.2.2; simp only [asZ, List.length_map]; omega) hq.out.1.p.z ?_); intro va vc Z3 hgr hold; rw [List.length_map, show (asZ bg).length = bg.length by simp [asZ]]; (have hPZ := hq.out.1.p.more hgr); (have cG := hX.out.2 va vc la' lc' P' Z3 hPn.out hPZ.1); rw [List.length_append, List.length_singleton] at cG)
              | (go_at_call 48; (with_reducible refine cG.mono ?_); rintro e w4 ⟨la4, lc4, P4, rfl, hm4, hp4, hf4, hb4, hi4⟩))
            have hZs : w.heap.size ≤ Z3.heap.size := Nat.le_trans hq.out.1.f.b.size hPZ.2.b.size
            have hF : Hid (GrM lo K S la P ba bc bg w w4 la4 lc4 P4 ∧ P4.map (·.2.1) = P.map (·.2.1) ++ gtL fst gx bg (k + 1)) := by
              refine ⟨⟨hPZ.1.back hold (fun b hb => (blk_lt hold b hb).2) hp4 hf4 (fun g hg => own_apartG hq.out.1.p.c hq.out.1.p.l.o (by decide) hg) hb4 hi4 hq.out.1.p.a fun j hj g hg => (hq.out.1.p.f j hj g hg).2.2, GrF.trans hq.out.1.f hq.out.1.b (fun b hb => .inl hb) (GrF.trans hPZ.2 (fun b hb => .inl hb) hgr.bk hf4), fun b hb => ?_, fun s hs g hg => ?_⟩, ?_⟩
              · rcases hb4 b hb with q | q
                · exact hq.out.1.b b q
                · right; omega
              · rcases hi4 s hs g hg with ⟨t, ht, q⟩ | q
                · exact hq.out.1.i t ht g q
                · right; omega
              · rw [hm4, hq.out.2, hstp.out, List.append_assoc]
            clear hgr hold hPZ cG hm4 hp4 hf4 hb4 hi4 hZs
            go_roundw
            case rel => exact ⟨k + 1, la4, lc4, P4, by omega, by omega, by go_num, rfl, hF.out⟩
            case measure => simp [intOf]; omega
        · have hke : k = 4 := by omega
          subst hke
          go_wp2
          go_ret
          exact ⟨la', lc', P', rfl, hq.out.2, hq.out.1.p, hq.out.1.f, hq.out.1.b, hq.out.1.i⟩
  · have hshI : ¬ (bg.length : Int) > 1 := by omega
    have hfe : Hid (fst = []) := by (show _ = _; rw [← hfH.out, if_neg (fun q => hsh q.1)])
    have hI : Hid (GrM lo K S la P ba bc bg w w la lc P ∧ P.map (·.2.1) = P.map (·.2.1) ++ fst) := ⟨hM0.out, by (rw [hfe.out, List.append_nil])⟩
    clear cC hfH
    obtain ⟨b1, o1, x1, _, c1⟩ := int_ixG (own_rows hI.out.1.p.c (asZ_one bg)) 0 (bg.getD 0 0) (by rw [List.getD_eq_getElem?_getD, List.getElem?_eq_getElem (by have := hbdH.out.2.1; omega)]; rfl)
    have x1' : ∀ wx, (Instr.indexAt 29 (.slice ba bg.length bc) (.int .i64 0)).run Try.prog wx = .ok (.pointer (some ⟨b1, o1, none⟩)) wx := x1
    have hb04 : bg.getD 0 0 < 4 := hbdH.out.1 _ (by rw [List.getD_eq_getElem?_getD, List.getElem?_eq_getElem (by have := hbdH.out.2.1; omega)]; exact List.getElem_mem _)
    have hg1 : Hid (gtL fst gx bg (bg.getD 0 0 + 1) = fst) := gtL_first fst gx bg _ (Nat.le_refl _)
    obtain ⟨p, hp⟩ : ∃ p, bg.getD 0 0 = p := ⟨_, rfl⟩
    have hpH : Hid (bg.getD 0 0 = p) := hp
    rw [hp] at c1 hb04 hg1
    clear x1 hp hP0 hM0
    go_wp2_with fail
    go_loopw [1, 7] (fun u1 u wr => ∃ (k : Nat) (la' : Option Addr) (lc' : Nat) (P' : List Rng), p < k ∧ k ≤ 4 ∧ u = .int .i64 (k : Int) ∧ u1 = .slice la' P'.length lc' ∧ Hid (GrM lo K S la P ba bc bg w wr la' lc' P' ∧ P'.map (·.2.1) = P.map (·.2.1) ++ gtL fst gx bg k)) (fun _ u _ => 4 - (intOf u).toNat)
    case atStart => exact ⟨p + 1, _, _, _, by omega, by omega, by go_num, rfl, hI.out.1, by (rw [hg1.out]; exact hI.out.2)⟩
    case round =>
      obtain ⟨k, la', lc', P', hk1, hk2, rfl, rfl, hq⟩ := hrel
      clear hI c1 x1'
      by_cases hlt : k < 4
      · have hkI : (k : Int) < 4 := by omega
        have hstp : Hid (gtL fst gx bg (k + 1) = gtL fst gx bg k ++ (if bg.getD 0 0 < k ∧ k ∉ bg then gx k else [])) := gtL_step fst gx bg k
        have cT : Calls Try.prog 63 #[.slice ba bg.length bc, .int .i64 (k : Int)] wr fun e w' => e = .returned (.bool (decide (k ∈ bg))) ∧ w' = wr := by
          have h1 := hq.out.1.p.c
          rw [hBH.out] at h1 ⊢
          have := Try.slices_Contains_int B 0 bg.length bc (asZ bg) (k : Int) wr (by simp [asZ]) (by have := hbdH.out.2.2; omega) (int_cellsG h1)
          rw [contains_asZ] at this
          exact this
        obtain ⟨R, hR⟩ : ∃ R, decide (k ∈ bg) = R := ⟨_, rfl⟩
        rw [hR] at cT
        cases R with
        | true =>
          have hin : k ∈ bg := of_decide_eq_true hR
          rw [if_neg (fun q => q.2 hin)] at hstp
          clear hR hin
          go_wp2_with (first
            | (go_at_call 63; (with_reducible refine cT.mono ?_); rintro e w2 ⟨rfl, rfl⟩))
          go_roundw
          case rel => exact ⟨k + 1, la', lc', P', by omega, by omega, by go_num, rfl, hq.out.1, by (rw [hstp.out, List.append_nil]; exact hq.out.2)⟩
          case measure => simp [intOf]; omega
        | false =>
          have hin : k ∉ bg := of_decide_eq_false hR
          rw [if_pos ⟨by (have := hpH.out; omega), hin⟩] at hstp
          have hX : Hid (GrowOK lo K S (bg ++ [k]) (gx k) bnd) := hxH.out k hlt (by have := hpH.out; omega) hin
          have hPn : Hid (P'.length + bnd ≤ 2000) := by
            have h2 := congrArg List.length hq.out.2
            rw [List.length_append, List.length_map, List.length_map] at h2
            have h3 := hlen.out k (by omega)
            have h4 := hPl.out
            have h5 : k * bnd ≤ 3 * bnd := Nat.mul_le_mul_right _ (by omega)
            show _ ≤ _
            omega
          clear hR hin
          go_wp2_with (first
            | (go_at_call 63; (with_reducible refine cT.mono ?_); rintro e w2 ⟨rfl, rfl⟩)
            | (refine wpList_buildSlice rfl 29 3 1 _ rfl (chCells (k : Int)).toArray iN _ Try.underlying29 hiN.out hzN.out (by rw [hsN.out]; omega) (by rw [hsN.out]; omega) (by simp only [hsN.out]; kernel_rfl) ?_)
            | (at_builtin; (refine wpList_app1S rfl (.tmp 35) (.tmp 37) 29 rfl lo 3 iN _ 1 8 Try.underlying29 hiN.out hzN.out hsN.out hbN.out rfl (by decide) ba bc ((asZ bg).map chCells) (by rw [List.length_map]; simp [asZ]; rfl) hq.out.1.p.c (chCells (k : Int)) rfl rfl (by simp [chCells, Value.oneCell']) (by rw [List.length_map]; have := hbdH.out.2.2; simp only [asZ, List.length_map]; unfold maxLen; omega) (by rw [List.length_map]; have := hbdH.out.2.2; simp only [asZ, List.length_map]; omega) hq.out.1.p.z ?_); intro va vc Z3 hgr hold; rw [List.length_map, show (asZ bg).length = bg.length by simp [asZ]]; (have hPZ := hq.out.1.p.more hgr); (have cG := hX.out.2 va vc la' lc' P' Z3 hPn.out hPZ.1); rw [List.length_append, List.length_singleton] at cG)
            | (go_at_call 48; (with_reducible refine cG.mono ?_); rintro e w4 ⟨la4, lc4, P4, rfl, hm4, hp4, hf4, hb4, hi4⟩))
          have hZs : w.heap.size ≤ Z3.heap.size := Nat.le_trans hq.out.1.f.b.size hPZ.2.b.size
          have hF : Hid (GrM lo K S la P ba bc bg w w4 la4 lc4 P4 ∧ P4.map (·.2.1) = P.map (·.2.1) ++ gtL fst gx bg (k + 1)) := by
            refine ⟨⟨hPZ.1.back hold (fun b hb => (blk_lt hold b hb).2) hp4 hf4 (fun g hg => own_apartG hq.out.1.p.c hq.out.1.p.l.o (by decide) hg) hb4 hi4 hq.out.1.p.a fun j hj g hg => (hq.out.1.p.f j hj g hg).2.2, GrF.trans hq.out.1.f hq.out.1.b (fun b hb => .inl hb) (GrF.trans hPZ.2 (fun b hb => .inl hb) hgr.bk hf4), fun b hb => ?_, fun s hs g hg => ?_⟩, ?_⟩
            · rcases hb4 b hb with q | q
              · exact hq.out.1.b b q
              · right; omega
            · rcases hi4 s hs g hg with ⟨t, ht, q⟩ | q
              · exact hq.out.1.i t ht g q
              · right; omega
            · rw [hm4, hq.out.2, hstp.out, List.append_assoc]
          clear hgr hold hPZ cG hm4 hp4 hf4 hb4 hi4 hZs
          go_roundw
          case rel => exact ⟨k + 1, la4, lc4, P4, by omega, by omega, by go_num, rfl, hF.out⟩
          case measure => simp [intOf]; omega
      · have hke : k = 4 := by omega
        subst hke
        go_wp2
        go_ret
        exact ⟨la', lc', P', rfl, hq.out.2, hq.out.1.p, hq.out.1.f, hq.out.1.b, hq.out.1.i⟩
end Go.Proofs.Ytdfnmlcpimiboaa.pg
/- grow and rings of package goodlock. -/
namespace Go.Proofs.Ytdfnmlcpimiboaa.pg
open Go.ChangeShapes Go.WideShapes Go.ChangeAt Go.RowKit
set_option linter.unusedVariables false
set_option linter.unusedSimpArgs false
set_option maxRecDepth 100000
attribute [local go_sem ↓] Go.wp_at_zero Go.wp_at_succ
def bG : Nat → Nat
  | 0 => 1
  | m + 1 => 1 + 4 * bG m
theorem grow_any {lo K : Nat} {S : Nat → Slot} : ∀ (m : Nat) (bg : List Nat), bg.length + m = 4 → 1 ≤ bg.length → bg.Nodup → (∀ i ∈ bg, i < 4) → GrowOK lo K S bg (growL (okR S) m bg) (bG m)
  | 0, bg, hm, h1, hd, hi => by
    have h := grow_body (lo := lo) (K := K) (S := S) h1 (by omega) hi (fun _ => []) 0 fun x hx _ hn => by
      have := nodup_le 4 (bg ++ [x]) (List.nodup_append.mpr ⟨hd, by simp, fun a ha b hb q => by
        rw [List.mem_singleton] at hb
        exact hn (by rw [← hb, ← q]; exact ha)⟩) fun i hi' => by
          rw [List.mem_append, List.mem_singleton] at hi'
          rcases hi' with q | rfl
          · exact hi i q
          · exact hx
      rw [List.length_append, List.length_singleton] at this
      omega
    have e : gtL (if 1 < bg.length ∧ okR S bg = true then [bg] else []) (fun _ => []) bg 4 = growL (okR S) 0 bg := by
      unfold gtL growL
      simp
    rw [e] at h
    exact h
  | m + 1, bg, hm, h1, hd, hi => by
    have h := grow_body (lo := lo) (K := K) (S := S) h1 (by omega) hi (fun x => growL (okR S) m (bg ++ [x])) (bG m) fun x hx _ hn => grow_any m (bg ++ [x]) (by rw [List.length_append, List.length_singleton]; omega) (by rw [List.length_append]; omega) (List.nodup_append.mpr ⟨hd, by simp, fun a ha b hb q => by
        rw [List.mem_singleton] at hb
        exact hn (by rw [← hb, ← q]; exact ha)⟩) fun i hi' => by
          rw [List.mem_append, List.mem_singleton] at hi'
          rcases hi' with q | rfl
          · exact hi i q
          · exact hx
    exact h
theorem own_oneG {w : World} {lo : Nat} (x : Int) (h : lo ≤ w.heap.size) : OwnL (w.alloc (.cells (chCells x).toArray 3)) lo 3 1 (some ⟨w.heap.size, 0, none⟩) 1 [chCells x] :=
  ⟨by simp [chCells], .inr ⟨w.heap.size, 1, _, rfl, h, heap_new_q _ _, by simp, by unfold maxLen; omega, by simp [chCells], by simp [chCells]⟩⟩
theorem ringsL_len (S : Nat → Slot) (hg : ∀ x, x < 4 → (growL (okR S) 3 [x]).length ≤ 85) : ∀ k, k ≤ 4 → (ringsL (okR S) k).length ≤ 85 * k
  | 0, _ => by simp [ringsL]
  | k + 1, hk => by
    rw [ringsL_step, List.length_append]
    have := ringsL_len S hg k (by omega)
    have := hg k (by omega)
    omega
section
variable {w0 w : World} {K : Nat} {S : Nat → Slot}
/-- How rings stands. -/
structure RsM (w wr : World) (la : Option Addr) (lc : Nat) (P : List Rng) : Prop where
  l : RgL w.heap.size wr la lc P
  b : Below w.heap.size w wr
theorem gr_of (hT : TkS w0 w K S) {wr : World} {la : Option Addr} {lc : Nat} {P : List Rng} (h : RsM w wr la lc P) (x : Nat) : GrP w.heap.size (wr.alloc (.cells (chCells (x : Int)).toArray 3)) K S la lc P (some ⟨wr.heap.size, 0, none⟩) 1 [x] := by
  have hb : Below w.heap.size w (wr.alloc (.cells (chCells (x : Int)).toArray 3)) := bthen h.b (boxed _ _)
  have hT2 := hT.later hb
  refine ⟨hT2.k, fun j hj => hT2.rows hj, fun j hj g hg => ?_, h.l.later (boxed _ _), own_oneG _ h.b.size, fun s hs g hg q => ?_, hb.size⟩
  · have h1 := (blk_lt (hT.o j hj) g hg).2
    have h2 := h.b.size
    refine ⟨Nat.lt_of_lt_of_le h1 hb.size, fun q => ?_, fun q => ?_⟩
    · have := (blk_lt h.l.o g q).1; omega
    · simp only [blk, List.mem_singleton] at q; omega
  · have := (blk_lt (h.l.i s hs) g hg).2
    simp only [blk, List.mem_singleton] at q
    omega
set_option maxHeartbeats 4000000 in
theorem rings_any (hT : TkS w0 w K S) : Calls Try.prog 32 #[.pointer (some ⟨K, 0, none⟩)] w fun e w' => ∃ la lc P, e = .returned (.slice la P.length lc) ∧ P.map (·.2.1) = ringsL (okR S) 4 ∧ RsM w w' la lc P := by
  obtain ⟨iN, hiN', hzN', hsN', hbN'⟩ := info_q infoNlG
  have hiN : Hid (Try.prog.info? 3 = some iN) := hiN'
  have hzN : Hid _ := hzN'
  have hsN : Hid _ := hsN'
  have hbN : Hid _ := hbN'
  have hTH : Hid (TkS w0 w K S) := hT
  have h0 : Hid (RsM w w none 0 []) := ⟨RgL.nil, Below.refl _ _⟩
  have hG : Hid (∀ x, x < 4 → GrowOK w.heap.size K S [x] (growL (okR S) 3 [x]) 85) := fun x hx => grow_any 3 [x] rfl (Nat.le_refl _) (by simp) fun i hi => by
    rw [List.mem_singleton] at hi
    omega
  have hLn : Hid (∀ k, k ≤ 4 → (ringsL (okR S) k).length ≤ 85 * k) := ringsL_len S fun x hx => (hG.out x hx).1
  clear hiN' hzN' hsN' hbN' hT
  go_enter Try.func32, Try.ntmps32
  go_wp2_with fail
  go_loopw [3, 5] (fun u3 u wr => ∃ (k : Nat) (la : Option Addr) (lc : Nat) (P : List Rng), k ≤ 4 ∧ u = .int .i64 (k : Int) ∧ u3 = .slice la P.length lc ∧ Hid (RsM w wr la lc P ∧ P.map (·.2.1) = ringsL (okR S) k)) (fun _ u _ => 4 - (intOf u).toNat)
  case atStart => exact ⟨0, none, 0, [], Nat.zero_le _, rfl, rfl, h0.out, rfl⟩
  case round =>
    obtain ⟨k, la, lc, P, hk, rfl, rfl, hq⟩ := hrel
    clear h0
    by_cases hlt : k < 4
    · have hkI : (k : Int) < 4 := by omega
      have hPn : Hid (P.length + 85 ≤ 2000) := by
        have h2 := congrArg List.length hq.out.2
        rw [List.length_map] at h2
        have h3 := hLn.out k (by omega)
        show _ ≤ _
        omega
      have hgp : Hid (GrP w.heap.size (wr.alloc (.cells (chCells (k : Int)).toArray 3)) K S la lc P (some ⟨wr.heap.size, 0, none⟩) 1 [k]) := gr_of hTH.out hq.out.1 k
      have cG : Calls Try.prog 48 #[.pointer (some ⟨K, 0, none⟩), .slice la P.length lc, .slice (some ⟨wr.heap.size, 0, none⟩) 1 1] (wr.alloc (.cells (chCells (k : Int)).toArray 3)) _ := (hG.out k hlt).2 _ 1 la lc P _ hPn.out hgp.out
      have hbx : Hid (Below w.heap.size w (wr.alloc (.cells (chCells (k : Int)).toArray 3))) := bthen hq.out.1.b (boxed _ _)
      go_wp2_with (first
        | (refine wpList_buildSlice rfl 29 3 1 _ rfl (chCells (k : Int)).toArray iN _ Try.underlying29 hiN.out hzN.out (by rw [hsN.out]; omega) (by rw [hsN.out]; omega) (by simp only [hsN.out]; kernel_rfl) ?_)
        | (go_at_call 48; (with_reducible refine cG.mono ?_); rintro e w4 ⟨la4, lc4, P4, rfl, hm4, hp4, hf4, hb4, hi4⟩))
      have hF : Hid (RsM w w4 la4 lc4 P4 ∧ P4.map (·.2.1) = ringsL (okR S) (k + 1)) := ⟨⟨hp4.l, hbx.out.trans hf4.b⟩, by rw [hm4, hq.out.2, ringsL_step]⟩
      clear cG hm4 hp4 hf4 hb4 hi4
      go_roundw
      case rel => exact ⟨k + 1, la4, lc4, P4, by omega, by go_num, rfl, hF.out⟩
      case measure => simp [intOf]; omega
    · have hke : k = 4 := by omega
      subst hke
      go_wp2
      go_ret
      exact ⟨la, lc, P, rfl, hq.out.2, hq.out.1⟩
end
end Go.Proofs.Ytdfnmlcpimiboaa.pg
/- Rings of package goodlock. -/
namespace Go.Proofs.Ytdfnmlcpimiboaa.pg
open Go.ChangeShapes Go.WideShapes Go.ChangeAt Go.RowKit
set_option linter.unusedVariables false
set_option linter.unusedSimpArgs false
set_option maxRecDepth 100000
attribute [local go_sem ↓] Go.wp_at_zero Go.wp_at_succ
theorem getD_lt4 {r : List Nat} (hr : ∀ i ∈ r, i < 4) (n : Nat) : r.getD n 0 < 4 := by
  rw [List.getD_eq_getElem?_getD]
  cases h : r[n]? with
  | none => simp
  | some x => exact hr x (List.mem_of_getElem? h)
theorem rgS_lt {r : List Nat} (hr : ∀ i ∈ r, i < 4) (n : Nat) : rgS r n < 16 := by
  unfold rgS
  have h1 := getD_lt4 hr n
  have h2 := getD_lt4 hr ((n + 1) % r.length)
  omega
theorem choB_congr (Y : Tk → Tk → Bool) {F G : Nat → List Tk} (h : ∀ k, k < 16 → F k = G k) {r : List Nat} (hr : ∀ i ∈ r, i < 4) : ∀ (m : Nat) (ch : List Tk), choB Y F r m ch = choB Y G r m ch
  | 0, _ => rfl
  | m + 1, ch => by
    rw [choB_step, choB_step, h _ (rgS_lt hr _)]
    congr 1
    funext x
    unfold stpB
    rw [choB_congr Y h hr m (ch ++ [x])]
theorem growL_congr {ok ok' : List Nat → Bool} (h : ∀ b, (∀ i ∈ b, i < 4) → ok b = ok' b) : ∀ (m : Nat) (b : List Nat), (∀ i ∈ b, i < 4) → growL ok m b = growL ok' m b
  | 0, b, hb => by unfold growL; rw [h b hb]
  | m + 1, b, hb => by
    unfold growL
    rw [h b hb]
    congr 1
    have : ∀ L : List Nat, (∀ x ∈ L, x < 4) → L.flatMap (fun x => if b.getD 0 0 < x ∧ x ∉ b then growL ok m (b ++ [x]) else []) = L.flatMap (fun x => if b.getD 0 0 < x ∧ x ∉ b then growL ok' m (b ++ [x]) else []) := by
      intro L
      induction L with
      | nil => intro _; rfl
      | cons y t ih =>
        intro hL
        rw [List.flatMap_cons, List.flatMap_cons, ih fun x hx => hL x (by simp [hx])]
        rw [growL_congr h m (b ++ [y]) fun i hi => by
          rw [List.mem_append, List.mem_singleton] at hi
          rcases hi with q | rfl
          · exact hb i q
          · exact hL i (by simp)]
    exact this _ fun x hx => List.mem_range.mp hx
theorem ringsL_congr {ok ok' : List Nat → Bool} (h : ∀ b, (∀ i ∈ b, i < 4) → ok b = ok' b) : ∀ k, k ≤ 4 → ringsL ok k = ringsL ok' k
  | 0, _ => rfl
  | k + 1, hk => by
    rw [ringsL_step, ringsL_step, ringsL_congr h k (by omega), growL_congr h 3 [k] fun i hi => by
      rw [List.mem_singleton] at hi
      omega]
/-- The takings of a trace, by their locks; whether they close a ring. -/
def tksL (l : List Ev) : Nat → List Tk := tkF (heldF l l.length) (edgesL l l.length)
def okL (l : List Ev) (b : List Nat) : Bool := choB unB (tksL l) b b.length []
/-- What Rings tells, by what Check tells. -/
def rngR (l : List Ev) (c : Int) : List (List Nat) := if c = 0 then ringsL (okL l) 4 else []
section
variable {w : World} {l : List Ev} {la : Option Addr} {lc : Nat}
set_option maxHeartbeats 4000000 in
theorem gRings_any (hl : Rows w 26 la lc (l.map Ev.cells)) (c : Int) (hc : checkP l c) : Calls Try.prog 16 #[.slice la l.length lc] w fun e w' => ∃ a cap P, e = .returned (.tuple #[.slice a P.length cap, .int .i64 c]) ∧ P.map (·.2.1) = rngR l c ∧ RsM w w' a cap P := by
  have cC := check_any l la lc w hl c hc
  by_cases h0 : c = 0
  · subst h0
    obtain ⟨hn, hr⟩ := check_zero hc
    have cT : ∀ wx, Below w.heap.size w wx → Calls Try.prog 31 #[.slice la l.length lc] wx _ := fun wx q => takings_any (hl.later q) hn hr
    have hR : Hid (∀ S : Nat → Slot, (∀ k, k < 16 → (S k).2.1 = tkF (heldF l l.length) (edgesL l l.length) k) → ringsL (okR S) 4 = rngR l 0) := fun S hS => by
      unfold rngR
      rw [if_pos rfl]
      exact ringsL_congr (fun b hb => choB_congr unB (fun k hk => hS k hk) hb _ _) 4 (Nat.le_refl _)
    clear hl hc hn hr
    go_enter Try.func16, Try.ntmps16
    go_wp2_with (first
      | (go_at_call 24; (with_reducible refine cC.mono ?_); rintro e w1 ⟨rfl, hb⟩; (have hB1 : Hid (Below w.heap.size w w1) := hb); clear hb cC)
      | (go_at_call 31; (with_reducible refine (cT _ hB1.out).mono ?_); rintro e w2 ⟨K, S, rfl, hT, hS⟩; (have hB2 : Hid (Below w.heap.size w w2 ∧ TkS w1 w2 K S ∧ ringsL (okR S) 4 = rngR l 0) := ⟨bthen hB1.out hT.b, hT, hR.out S hS⟩); clear hT hS cT)
      | (go_at_call 32; (with_reducible refine (rings_any hB2.out.2.1).mono ?_); rintro e w3 ⟨a, cap, P, rfl, hm, hM⟩; (have hF : Hid (P.map (·.2.1) = rngR l 0 ∧ RgL w.heap.size w3 a cap P ∧ Below w.heap.size w w3) := ⟨hm.trans hB2.out.2.2, ⟨own_mono_q hM.l.o hB2.out.1.size, fun s hs => own_mono_q (hM.l.i s hs) hB2.out.1.size⟩, bthen hB2.out.1 hM.b⟩); clear hm hM))
    go_ret2
    exact ⟨a, cap, P, rfl, hF.out.1, hF.out.2.1, hF.out.2.2⟩
  · have hcb : (c != 0) = true := by rw [bne_iff_ne]; exact h0
    have hR : Hid (rngR l c = []) := by (show _ = _; unfold rngR; rw [if_neg h0])
    clear hl hc h0
    go_enter Try.func16, Try.ntmps16
    go_wp2_with (first
      | (go_at_call 24; (with_reducible refine cC.mono ?_); rintro e w1 ⟨rfl, hb⟩; (have hB1 : Hid (Below w.heap.size w w1) := hb); clear hb cC))
    go_ret2
    exact ⟨none, 0, [], rfl, by (rw [hR.out]; rfl), RgL.nil, hB1.out⟩
end
end Go.Proofs.Ytdfnmlcpimiboaa.pg
