/- The document's rings, for one beginning. -/
import Derived.Test.YtdfnmlcpimiboaaM29
import Derived.Deep.DeepCutAuto
namespace Go.Proofs.Ytdfnmlcpimiboaa.pg
open Go.ChangeShapes Go.WideShapes Go.ChangeAt Go.RowKit
set_option linter.unusedVariables false
set_option linter.unusedSimpArgs false
set_option maxRecDepth 100000
attribute [local go_sem ↓] Go.wp_at_zero Go.wp_at_succ
theorem mem_stepN {bg : List Nat} {i y k : Nat} (hy : bg[i]? = some y) : decide (k ∈ bg.take (i + 1)) = (decide (k ∈ bg.take i) || ((k : Int) == (y : Int))) := by
  rw [take_one bg i y hy, Bool.eq_iff_iff, Bool.or_eq_true, decide_eq_true_iff, decide_eq_true_iff, beq_iff_eq, List.mem_append, List.mem_singleton]
  constructor
  · rintro (h | h)
    · exact .inl h
    · exact .inr (by omega)
  · rintro (h | h)
    · exact .inl h
    · exact .inr (by omega)
set_option maxHeartbeats 8000000 in
theorem rings_body {L : List Kd} {ka : Option Addr} {kc : Nat} {bg : List Nat} (hL : L.length ≤ 1024) (hg : ∀ k ∈ L, 0 ≤ k.tk.by_ ∧ k.tk.by_ < 6) (h1 : 1 ≤ bg.length) (h4 : bg.length ≤ 4) (hri : ∀ i ∈ bg, i < 4) (gx : Nat → List (List Nat)) (bnd : Nat) (hbn : bnd ≤ 400) (hx : ∀ x, x < 4 → bg.getD 0 0 < x → x ∉ bg → RingOK L ka kc (bg ++ [x]) (gx x) bnd) :
    RingOK L ka kc bg (gtL (if 1 < bg.length ∧ okD L bg = true then [bg] else []) gx bg 4) (1 + 4 * bnd) := by
  obtain ⟨fst, hfst⟩ : ∃ fst, (if 1 < bg.length ∧ okD L bg = true then [bg] else []) = fst := ⟨_, rfl⟩
  have hf1 : fst.length ≤ 1 := by rw [← hfst]; split <;> simp
  rw [hfst]
  refine ⟨gtL_len fst gx bg bnd hf1 (fun x a b c => (hx x a b c).1) 4 (by omega), ?_⟩
  intro ba bc w hkr hbr
  have hxH : Hid (∀ x, x < 4 → bg.getD 0 0 < x → x ∉ bg → RingOK L ka kc (bg ++ [x]) (gx x) bnd) := hx
  have hlen : Hid (∀ k, k ≤ 4 → (gtL fst gx bg k).length ≤ 1 + k * bnd) := gtL_len fst gx bg bnd hf1 (fun x a b c => (hx x a b c).1)
  have hkH : Hid (Rows w 7 ka kc (L.map Kd.cells)) := hkr
  have hbI : (bg.length : Int) ≤ 4 := by omega
  have hLI : (L.length : Int) ≤ 1024 := by omega
  have hbnH : Hid (bnd ≤ 400) := hbn
  have hbdH : Hid ((∀ i ∈ bg, i < 4) ∧ 1 ≤ bg.length ∧ bg.length ≤ 4) := ⟨hri, h1, h4⟩
  obtain ⟨B, O, hB⟩ : ∃ B O, ba = some ⟨B, O, none⟩ := by
    rcases hbr.2.2.2 with q | ⟨b, off, e, _, _⟩
    · exfalso
      have := congrArg List.length q
      simp [asZ] at this
      subst this
      simp at h1
    · exact ⟨b, off, e⟩
  subst hB
  have hbH : Hid (Rows w 1 (some ⟨B, O, none⟩) bc ((asZ bg).map chCells)) := hbr
  have cC : Calls Try.prog 39 #[.slice ka L.length kc, .slice (some ⟨B, O, none⟩) bg.length bc, .int .i64 0, .agg #[.bool false, .bool false, .bool false, .bool false, .bool false, .bool false], .agg #[.bool false, .bool false, .bool false, .bool false], .bool false] w fun e w' => e = .returned (.bool (okD L bg)) ∧ Below w.heap.size w w' := closes_anyG (ap := false) hL hg h4 bg.length 0 (fun _ => false) (fun _ => false) w (by omega) hkr hbr
  have hbc : bg.length ≤ bc := by have := hbr.1; simpa [asZ] using this
  have hbcI : (bg.length : Int) ≤ (bc : Int) := by omega
  have hb0 : ¬ bg.length = 0 := by omega
  have hfH : Hid ((if 1 < bg.length ∧ okD L bg = true then [bg] else []) = fst) := hfst
  obtain ⟨ok, hok⟩ : ∃ ok, okD L bg = ok := ⟨_, rfl⟩
  rw [hok] at cC hfH
  obtain ⟨iN, hiN', hzN', hsN', hbN'⟩ := info_q infoNlG
  have hiN : Hid (Try.prog.info? 3 = some iN) := hiN'
  have hzN : Hid _ := hzN'
  have hsN : Hid _ := hsN'
  have hbN : Hid _ := hbN'
  obtain ⟨iS, hiS', hzS', hsS', hbS'⟩ := info_q infoSlG
  have hiS : Hid (Try.prog.info? 29 = some iS) := hiS'
  have hzS : Hid _ := hzS'
  have hsS : Hid _ := hsS'
  have hbS : Hid _ := hbS'
  clear hiN' hzN' hsN' hbN' hiS' hzS' hsS' hbS'
  clear hok hfst hx hf1 hri hkr hbr hL hg hbn
  go_enter Try.func49, Try.ntmps49
  go_upto_region 2 with fail
  go_cut [20] (fun u20 wx => u20 = .bool (decide (1 < bg.length) && ok) ∧ Hid (Below w.heap.size w wx))
  case first =>
    by_cases hsh : 1 < bg.length
    · have hshI : (bg.length : Int) > 1 := by omega
      go_wp2_with (go_at_call 39; (with_reducible refine cC.mono ?_); rintro e w1 ⟨rfl, hb1⟩; (have hQ1 : Hid (Below w.heap.size w w1) := hb1); clear hb1 cC)
      go_meet
      case rel => exact ⟨by (rw [decide_eq_true hsh]; rfl), hQ1.out⟩
    · have hshI : ¬ (bg.length : Int) > 1 := by omega
      go_wp2_with fail
      go_meet
      case rel => exact ⟨by (rw [decide_eq_false hsh]; rfl), Below.refl _ _⟩
  case rest =>
    obtain ⟨rfl, hW⟩ := hcut
    generalize wc = W at *
    obtain ⟨T, hT⟩ : ∃ T, (decide (1 < bg.length) && ok) = T := ⟨_, rfl⟩
    have hfT : Hid ((if T = true then [bg] else []) = fst) := by
      show _ = _
      rw [← hT, ← hfH.out]
      by_cases h : 1 < bg.length
      · rw [decide_eq_true h, Bool.true_and]
        by_cases h2 : ok = true
        · rw [if_pos h2, if_pos ⟨h, h2⟩]
        · rw [if_neg h2, if_neg fun q => h2 q.2]
      · rw [decide_eq_false h, Bool.false_and, if_neg (by decide), if_neg fun q => h q.1]
    rw [hT]
    clear hT hfH
    go_upto_if 20 with fail
    go_cut [5, 6] (fun u5 u6 wx => ∃ (la : Option Addr) (lc : Nat) (P : List Rng), u5 = .slice la P.length lc ∧ Hid (RsM w wx la lc P) ∧ Hid (P.map (·.2.1) = fst))
    case first =>
      cases T with
      | true =>
        have hfe : Hid (fst = [bg]) := by (show _ = _; rw [← hfT.out]; rfl)
        go_wp2_with (first
          | (at_builtin; (refine wpList_app rfl (.tmp 21) (.tmp 22) 29 rfl w.heap.size 3 iN _ 1 8 Try.underlying29 hiN.out hzN.out hsN.out hbN.out rfl (by decide) none 0 [] rfl (own_nil_q _ _ _ _) (some ⟨B, O, none⟩) bc ((asZ bg).map chCells) (by rw [List.length_map, show (asZ bg).length = bg.length by simp [asZ]]; rfl) (hbH.out.later hW.out) (asZ_one bg) (by intro row hr u hu; obtain ⟨q, _, rfl⟩ := List.mem_map.mp hr; simp only [chCells, List.mem_singleton] at hu; subst hu; rfl) (by rw [List.length_map]; have := hbdH.out.2.2; simp only [asZ, List.length_map, List.length_nil]; unfold maxLen; omega) (by rw [List.length_map]; have := hbdH.out.2.2; simp only [asZ, List.length_map, List.length_nil]; omega) hW.out.size ?_); intro ga gc w2 ho2 _ hb2' _; rw [List.nil_append, List.length_map, show (asZ bg).length = bg.length by simp [asZ]]; (have hQ2 : Hid (OwnL w2 w.heap.size 3 1 ga gc ((asZ bg).map chCells) ∧ Below w.heap.size w w2) := ⟨ho2, by (rw [Nat.min_eq_left hW.out.size] at hb2'; exact hW.out.trans hb2')⟩); clear ho2 hb2')
          | (refine wpList_buildSlice rfl 39 29 1 _ rfl #[.slice ga bg.length gc] iS _ Try.underlying39 hiS.out hzS.out (by rw [hsS.out]; omega) (by rw [hsS.out]; omega) (by simp only [hsS.out]; kernel_rfl) ?_)
          | (at_builtin; (refine wpList_app1 rfl (.tmp 24) (.tmp 26) 39 rfl w.heap.size 29 iS _ 1 24 Try.underlying39 hiS.out hzS.out hsS.out hbS.out rfl (by decide) none 0 [] rfl (own_nil_q _ _ _ _) [.slice ga bg.length gc] rfl rfl (by simp [Value.oneCell']) (by unfold maxLen; simp) (by simp) hQ2.out.2.size ?_); intro va vc w3 hgr))
        have hF : Hid (RsM w w3 va vc [((ga, bg, gc) : Rng)]) := by
          have h := RgL.grow (s := (ga, bg, gc)) (RgL.nil (lo := w.heap.size) (X := w2)) hQ2.out.1 hgr
          have hb := hgr.be
          rw [Nat.min_eq_left hQ2.out.2.size] at hb
          exact ⟨h, hQ2.out.2.trans hb⟩
        clear hgr
        go_meet
        case rel => exact ⟨va, vc, [((ga, bg, gc) : Rng)], rfl, hF.out, by (rw [hfe.out]; rfl)⟩
      | false =>
        have hfe : Hid (fst = []) := by (show _ = _; rw [← hfT.out]; rfl)
        go_wp2_with fail
        go_meet
        case rel => exact ⟨none, 0, [], rfl, ⟨RgL.nil, hW.out⟩, by (rw [hfe.out]; rfl)⟩
    case rest =>
      obtain ⟨la0, lc0, P0, rfl, hR0, hm0⟩ := hcut
      generalize wc = W2 at *
      obtain ⟨b1, o1, x1, _, c1⟩ := int_ixG (hbH.out.later hR0.out.b) 0 (bg.getD 0 0) (by rw [List.getD_eq_getElem?_getD, List.getElem?_eq_getElem (by have := hbdH.out.2.1; omega)]; rfl)
      have x1' : ∀ wx, (Instr.indexAt 29 (.slice (some ⟨B, O, none⟩) bg.length bc) (.int .i64 0)).run Try.prog wx = .ok (.pointer (some ⟨b1, o1, none⟩)) wx := x1
      have hb04 : bg.getD 0 0 < 4 := hbdH.out.1 _ (by rw [List.getD_eq_getElem?_getD, List.getElem?_eq_getElem (by have := hbdH.out.2.1; omega)]; exact List.getElem_mem _)
      have hg1 : Hid (gtL fst gx bg (bg.getD 0 0 + 1) = fst) := gtL_first fst gx bg _ (Nat.le_refl _)
      obtain ⟨p, hp⟩ : ∃ p, bg.getD 0 0 = p := ⟨_, rfl⟩
      have hpH : Hid (bg.getD 0 0 = p) := hp
      rw [hp] at c1 hb04 hg1
      clear x1 hp hfT
      go_wp2_with fail
      go_loopw [5, 7] (fun u5 u wr => ∃ (k : Nat) (la : Option Addr) (lc : Nat) (P : List Rng), p < k ∧ k ≤ 4 ∧ u = .int .i64 (k : Int) ∧ u5 = .slice la P.length lc ∧ Hid (RsM w wr la lc P ∧ P.map (·.2.1) = gtL fst gx bg k)) (fun _ u _ => 4 - (intOf u).toNat)
      case atStart => exact ⟨p + 1, _, _, _, by omega, by omega, by go_num, rfl, hR0.out, by (rw [hg1.out]; exact hm0.out)⟩
      case round =>
        obtain ⟨k, la, lc, P, hk1, hk2, rfl, rfl, hq⟩ := hrel
        clear hR0 hm0 c1 x1'
        by_cases hlt : k < 4
        · have hkI : (k : Int) < 4 := by omega
          have hstp : Hid (gtL fst gx bg (k + 1) = gtL fst gx bg k ++ (if bg.getD 0 0 < k ∧ k ∉ bg then gx k else [])) := gtL_step fst gx bg k
          go_wp2_with fail
          go_loopw [8, 38] (fun u8 u wr => ∃ i : Nat, i ≤ bg.length ∧ u = .int .i64 (i : Int) ∧ ∃ t : Bool, u8 = .bool t ∧ Hid (t = decide (k ∈ bg.take i)) ∧ Hid (RsM w wr la lc P)) (fun _ u _ => bg.length - (intOf u).toNat)
          case atStart => exact ⟨0, Nat.zero_le _, rfl, false, rfl, (by (show _ = _; rw [List.take_zero]; simp)), hq.out.1⟩
          case round =>
            obtain ⟨i, hi, rfl, t, rfl, ht, hv⟩ := hrel
            by_cases hil : i < bg.length
            · have hiI : (i : Int) < bg.length := by omega
              obtain ⟨y, hy⟩ : ∃ y, bg[i]? = some y := ⟨_, List.getElem?_eq_getElem hil⟩
              obtain ⟨b2, o2, x2, _, c2⟩ := int_ixG (hbH.out.later hv.out.b) i y hy
              have hmem : Hid (decide (k ∈ bg.take (i + 1)) = (t || ((k : Int) == (y : Int)))) := by (show _ = _; rw [ht.out]; exact mem_stepN hy)
              clear hy ht
              cases t with
              | true =>
                go_wp2
                go_roundw
                case rel => exact ⟨i + 1, by omega, by go_num, true, rfl, (by (show _ = _; rw [hmem.out]; rfl)), hv.out⟩
                case measure => simp [intOf]; omega
              | false =>
                obtain ⟨t, ht⟩ : ∃ t, ((k : Int) == (y : Int)) = t := ⟨_, rfl⟩
                have hmem2 : Hid (decide (k ∈ bg.take (i + 1)) = t) := by (show _ = _; rw [hmem.out, ht]; rfl)
                clear hmem
                go_wp2
                go_roundw
                case rel => exact ⟨i + 1, by omega, by go_num, t, rfl, hmem2.out.symm, hv.out⟩
                case measure => simp [intOf]; omega
            · have hie : i = bg.length := by omega
              have hiI : ¬ (i : Int) < bg.length := by omega
              rw [hie, List.take_length] at ht
              have hq2 : Hid (RsM w wr la lc P ∧ P.map (·.2.1) = gtL fst gx bg k) := ⟨hv.out, hq.out.2⟩
              clear hv hq
              cases t with
              | true =>
                have hin : k ∈ bg := of_decide_eq_true ht.out.symm
                rw [if_neg (fun q => q.2 hin)] at hstp
                clear hin
                go_wp2
                go_roundw
                case rel => exact ⟨k + 1, la, lc, P, by omega, by omega, by go_num, rfl, hq2.out.1, by (rw [hstp.out, List.append_nil]; exact hq2.out.2)⟩
                case measure => simp [intOf]; omega
              | false =>
                have hin : k ∉ bg := of_decide_eq_false ht.out.symm
                rw [if_pos ⟨by (have := hpH.out; omega), hin⟩] at hstp
                have hX : Hid (RingOK L ka kc (bg ++ [k]) (gx k) bnd) := hxH.out k hlt (by have := hpH.out; omega) hin
                have hPn : Hid (P.length ≤ 2000) := by
                  have h2 := congrArg List.length hq2.out.2
                  rw [List.length_map] at h2
                  have h3 := hlen.out k (by omega)
                  have h4 := hbnH.out
                  have h5 : k * bnd ≤ 3 * bnd := Nat.mul_le_mul_right _ (by omega)
                  show _ ≤ _
                  omega
                clear hin ht
                go_wp2_with (first
                  | (refine wpList_buildSlice rfl 29 3 1 _ rfl (chCells (k : Int)).toArray iN _ Try.underlying29 hiN.out hzN.out (by rw [hsN.out]; omega) (by rw [hsN.out]; omega) (by simp only [hsN.out]; kernel_rfl) ?_)
                  | (at_builtin; (refine wpList_full1 rfl (.tmp 58) (.tmp 60) 29 rfl w.heap.size 3 iN _ 8 Try.underlying29 hiN.out hzN.out hsN.out hbN.out rfl ⟨B, O, none⟩ bc bg.length ((asZ bg).map chCells) (by simp [asZ]) rfl (hbH.out.later hq2.out.1.b) (asZ_one bg) (chCells (k : Int)) rfl rfl (by have := hbdH.out.2.2; unfold maxLen; omega) (by have := hbdH.out.2.2; omega) hq2.out.1.b.size ?_); intro va vc Z3 ho3 hb3; rw [asZ_more] at ho3; (have hZ3 : Hid (Below w.heap.size w Z3 ∧ RsM w Z3 la lc P) := ⟨bthen hq2.out.1.b hb3, hq2.out.1.l.later hb3, bthen hq2.out.1.b hb3⟩); (have cG := hX.out.2 va vc Z3 (hkH.out.later hZ3.out.1) (own_rows ho3 (asZ_one _))); rw [List.length_append, List.length_singleton] at cG; clear ho3 hb3)
                  | (go_at_call 49; (with_reducible refine cG.mono ?_); rintro e w4 ⟨la4, lc4, P4, rfl, hm4, hR4⟩; (have h4 : Hid (P4.map (·.2.1) = gx k ∧ RsM Z3 w4 la4 lc4 P4 ∧ P4.length ≤ 400 ∧ RsM w w4 la lc P) := ⟨hm4, hR4, (by (have h := congrArg List.length hm4; rw [List.length_map] at h; have h2 := hX.out.1; have h3 := hbnH.out; omega)), ⟨hZ3.out.2.l.later hR4.b, bthen hZ3.out.1 hR4.b⟩⟩); clear hm4 hR4 cG)
                  | (at_builtin; (refine wpList_app rfl (.tmp 51) (.tmp 62) 39 rfl w.heap.size 29 iS _ 1 24 Try.underlying39 hiS.out hzS.out hsS.out hbS.out rfl (by decide) la lc (P.map Rng.cs) (by rw [List.length_map]; rfl) h4.out.2.2.2.l.o la4 lc4 (P4.map Rng.cs) (by rw [List.length_map]; rfl) (rg_rows h4.out.2.1.l) (by intro row hr; obtain ⟨q, _, rfl⟩ := List.mem_map.mp hr; rfl) (by intro row hr u hu; obtain ⟨q, _, rfl⟩ := List.mem_map.mp hr; simp only [List.mem_singleton] at hu; subst hu; rfl) (by rw [List.length_map, List.length_map]; have h1 := hPn.out; have h2 := h4.out.2.2.1; unfold maxLen; omega) (by rw [List.length_map, List.length_map]; have h1 := hPn.out; have h2 := h4.out.2.2.1; omega) h4.out.2.2.2.b.size ?_); intro va5 vc5 Z5 ho5 hk5 hb5 _; rw [List.length_append, List.length_map, List.length_map]))
                have hF : Hid (RsM w Z5 va5 vc5 (P ++ P4) ∧ (P ++ P4).map (·.2.1) = gtL fst gx bg (k + 1)) := by
                  rw [Nat.min_eq_left h4.out.2.2.2.b.size] at hb5
                  exact ⟨⟨h4.out.2.2.2.l.join h4.out.2.1.l hZ3.out.1.size ho5 hk5, h4.out.2.2.2.b.trans hb5⟩, by (rw [List.map_append, hq2.out.2, h4.out.1, hstp.out])⟩
                clear ho5 hk5 hb5
                go_roundw
                case rel => exact ⟨k + 1, va5, vc5, P ++ P4, by omega, by omega, by go_num, by rw [List.length_append], hF.out⟩
                case measure => simp [intOf]; omega
        · have hke : k = 4 := by omega
          subst hke
          go_wp2
          go_ret
          exact ⟨la, lc, P, rfl, hq.out.2, hq.out.1⟩
end Go.Proofs.Ytdfnmlcpimiboaa.pg
/- The document's rings, all of them, and Rings. -/
namespace Go.Proofs.Ytdfnmlcpimiboaa.pg
open Go.ChangeShapes Go.WideShapes Go.ChangeAt Go.RowKit
set_option linter.unusedVariables false
set_option linter.unusedSimpArgs false
set_option maxRecDepth 100000
attribute [local go_sem ↓] Go.wp_at_zero Go.wp_at_succ
theorem nodup_more {bg : List Nat} {x : Nat} (hd : bg.Nodup) (hn : x ∉ bg) : (bg ++ [x]).Nodup := List.nodup_append.mpr ⟨hd, by simp, fun a ha b hb q => by
  rw [List.mem_singleton] at hb
  exact hn (by rw [← hb, ← q]; exact ha)⟩
theorem lt_more {bg : List Nat} {x : Nat} (hi : ∀ i ∈ bg, i < 4) (hx : x < 4) : ∀ i ∈ bg ++ [x], i < 4 := fun i hi' => by
  rw [List.mem_append, List.mem_singleton] at hi'
  rcases hi' with q | rfl
  · exact hi i q
  · exact hx
theorem ring_any {L : List Kd} {ka : Option Addr} {kc : Nat} (hL : L.length ≤ 1024) (hg : ∀ k ∈ L, 0 ≤ k.tk.by_ ∧ k.tk.by_ < 6) : ∀ (m : Nat) (bg : List Nat), bg.length + m = 4 → 1 ≤ bg.length → bg.Nodup → (∀ i ∈ bg, i < 4) → RingOK L ka kc bg (growL (okD L) m bg) (bG m)
  | 0, bg, hm, h1, hd, hi => by
    have h := rings_body (ka := ka) (kc := kc) hL hg h1 (by omega) hi (fun _ => []) 0 (by omega) fun x hx _ hn => by
      have := nodup_le 4 (bg ++ [x]) (nodup_more hd hn) (lt_more hi hx)
      rw [List.length_append, List.length_singleton] at this
      omega
    have e : gtL (if 1 < bg.length ∧ okD L bg = true then [bg] else []) (fun _ => []) bg 4 = growL (okD L) 0 bg := by
      unfold gtL growL
      simp
    rw [e] at h
    exact h
  | m + 1, bg, hm, h1, hd, hi => rings_body hL hg h1 (by omega) hi (fun x => growL (okD L) m (bg ++ [x])) (bG m) (by
      have : m = 0 ∨ m = 1 ∨ m = 2 := by omega
      rcases this with rfl | rfl | rfl <;> decide) fun x hx _ hn => ring_any hL hg m (bg ++ [x]) (by rw [List.length_append, List.length_singleton]; omega) (by rw [List.length_append]; omega) (nodup_more hd hn) (lt_more hi hx)
theorem ringsL_lenD {ok : List Nat → Bool} (hg : ∀ x, x < 4 → (growL ok 3 [x]).length ≤ 85) : ∀ k, k ≤ 4 → (ringsL ok k).length ≤ 85 * k
  | 0, _ => by simp [ringsL]
  | k + 1, hk => by
    rw [ringsL_step, List.length_append]
    have := ringsL_lenD hg k (by omega)
    have := hg k (by omega)
    omega
theorem kinds_mem (hf : Nat → Bool) (E : List Ed) : ∀ j, ∀ k ∈ kindsL hf (E.take j), ∃ e ∈ E, k = kdE hf e
  | 0, k, hk => by simp [kindsL] at hk
  | j + 1, k, hk => by
    cases h : E[j]? with
    | none =>
      have hj : E.length ≤ j := List.getElem?_eq_none_iff.mp h
      rw [List.take_of_length_le (by omega)] at hk
      refine kinds_mem hf E j k ?_
      rw [List.take_of_length_le hj]
      exact hk
    | some e =>
      rw [kinds_step h] at hk
      unfold addK at hk
      split at hk
      · exact kinds_mem hf E j k hk
      · rw [List.mem_append, List.mem_singleton] at hk
        rcases hk with hk | rfl
        · exact kinds_mem hf E j k hk
        · exact ⟨e, List.mem_of_getElem? h, rfl⟩
/-- The kinds of a trace. -/
def kdL (l : List Ev) : List Kd := kindsL (heldF l l.length) (edgesL l l.length)
theorem kdL_len {l : List Ev} (hn : l.length ≤ 256) : (kdL l).length ≤ 1024 := by
  have h1 := kinds_len (heldF l l.length) (edgesL l l.length) (edgesL l l.length).length
  rw [List.take_length] at h1
  have h2 := edgesL_len l l.length
  unfold kdL
  omega
theorem kdL_by {l : List Ev} (hr : ∀ x ∈ l, rightP x) : ∀ k ∈ kdL l, 0 ≤ k.tk.by_ ∧ k.tk.by_ < 6 := fun k hk => by
  unfold kdL at hk
  obtain ⟨e, he, rfl⟩ := kinds_mem (heldF l l.length) (edgesL l l.length) (edgesL l l.length).length k (by rw [List.take_length]; exact hk)
  exact (edges_right hr e he).2.2.2
theorem tks_sel {l : List Ev} (hr : ∀ x ∈ l, rightP x) (p q : Nat) (hp : p < 4) (hq : q < 4) : tksL l (p * 4 + q) = selK p q (kdL l) := by
  have h := kinds_tks (heldF l l.length) (edgesL l l.length) l.length (edges_right hr) hp hq (edgesL l l.length).length
  rw [List.take_length] at h
  exact h.symm
theorem okD_L {l : List Ev} (hr : ∀ x ∈ l, rightP x) (b : List Nat) (hb : ∀ i ∈ b, i < 4) : okD (kdL l) b = okL l b := closes_un (kdL l) b (tksL l) hb (fun p q hp hq => tks_sel hr p q hp hq) b.length [] (fun _ => false)
theorem apD_L {l : List Ev} (hr : ∀ x ∈ l, rightP x) (b : List Nat) (hb : ∀ i ∈ b, i < 4) : clsB (kdL l) b true b.length 0 (fun _ => false) (fun _ => false) = choB apB (tksL l) b b.length [] := closes_ap (kdL l) b (tksL l) hb (fun p q hp hq => tks_sel hr p q hp hq) b.length []
theorem ringsD_L {l : List Ev} (hr : ∀ x ∈ l, rightP x) : ringsL (okD (kdL l)) 4 = ringsL (okL l) 4 := ringsL_congr (fun b hb => okD_L hr b hb) 4 (Nat.le_refl _)
section
variable {w : World} {l : List Ev} {la : Option Addr} {lc : Nat}
/-- How all stands. -/
structure AlS (w X : World) (L : List Kd) (ka : Option Addr) (kc : Nat) (a : Option Addr) (c : Nat) (P : List Rng) : Prop where
  k : OwnL X w.heap.size 106 7 ka kc (L.map Kd.cells)
  r : RsM w X a c P
set_option maxHeartbeats 4000000 in
theorem rall_any (hl : Rows w 26 la lc (l.map Ev.cells)) (hn : l.length ≤ 256) (hr : ∀ x ∈ l, rightP x) : Calls Try.prog 33 #[.slice la l.length lc] w fun e w' => ∃ a c P, e = .returned (.slice a P.length c) ∧ P.map (·.2.1) = ringsL (okL l) 4 ∧ RsM w w' a c P := by
  have hD : Hid (ringsL (okD (kdL l)) 4 = ringsL (okL l) 4) := ringsD_L hr
  have hG : Hid (∀ (ka : Option Addr) (kc x : Nat), x < 4 → RingOK (kdL l) ka kc [x] (growL (okD (kdL l)) 3 [x]) 85) := fun ka kc x hx => ring_any (kdL_len hn) (kdL_by hr) 3 [x] rfl (Nat.le_refl _) (by simp) fun i hi => by
    rw [List.mem_singleton] at hi
    omega
  have hLn : Hid (∀ k, k ≤ 4 → (ringsL (okD (kdL l)) k).length ≤ 85 * k) := ringsL_lenD fun x hx => (hG.out none 0 x hx).1
  have cK : Calls Try.prog 40 #[.slice la l.length lc] w fun e w' => ∃ a c, e = .returned (.slice a (kdL l).length c) ∧ KdS w w' (kdL l) a c := kinds_anyG hl hn hr
  obtain ⟨iN, hiN', hzN', hsN', hbN'⟩ := info_q infoNlG
  have hiN : Hid (Try.prog.info? 3 = some iN) := hiN'
  have hzN : Hid _ := hzN'
  have hsN : Hid _ := hsN'
  have hbN : Hid _ := hbN'
  obtain ⟨iS, hiS', hzS', hsS', hbS'⟩ := info_q infoSlG
  have hiS : Hid (Try.prog.info? 29 = some iS) := hiS'
  have hzS : Hid _ := hzS'
  have hsS : Hid _ := hsS'
  have hbS : Hid _ := hbS'
  clear hiN' hzN' hsN' hbN' hiS' hzS' hsS' hbS'
  clear hl hn hr
  rw [← hD.out]
  generalize kdL l = L at *
  go_enter Try.func33, Try.ntmps33
  go_wp2_with (go_at_call 40; (with_reducible refine cK.mono ?_); rintro e w1 ⟨ka, kc, rfl, hK⟩; (have h0 : Hid (AlS w w1 L ka kc none 0 []) := ⟨hK.o, RgL.nil, hK.b⟩); clear hK cK)
  go_loopw [4, 5] (fun u4 u wr => ∃ (k : Nat) (a : Option Addr) (c : Nat) (P : List Rng), k ≤ 4 ∧ u = .int .i64 (k : Int) ∧ u4 = .slice a P.length c ∧ Hid (AlS w wr L ka kc a c P) ∧ Hid (P.map (·.2.1) = ringsL (okD L) k)) (fun _ u _ => 4 - (intOf u).toNat)
  case atStart => exact ⟨0, none, 0, [], Nat.zero_le _, rfl, rfl, h0.out, rfl⟩
  case round =>
    obtain ⟨k, a, c, P, hk, rfl, rfl, hq, hm⟩ := hrel
    clear h0
    by_cases hlt : k < 4
    · have hkI : (k : Int) < 4 := by omega
      have hPn : Hid (P.length ≤ 2000) := by
        have h2 := congrArg List.length hm.out
        rw [List.length_map] at h2
        have h3 := hLn.out k (by omega)
        show _ ≤ _
        omega
      have hbx : Hid (Below wr.heap.size wr (wr.alloc (.cells (chCells (k : Int)).toArray 3))) := boxed _ _
      have cG : Calls Try.prog 49 #[.slice ka L.length kc, .slice (some ⟨wr.heap.size, 0, none⟩) 1 1] (wr.alloc (.cells (chCells (k : Int)).toArray 3)) _ := (hG.out ka kc k hlt).2 _ 1 _ ((own_rows hq.out.k (kd_len L)).later hbx.out) (own_rows (own_oneG (lo := 0) (k : Int) (Nat.zero_le _)) (asZ_one [k]))
      have hlen : Hid ((growL (okD L) 3 [k]).length ≤ 85) := (hG.out ka kc k hlt).1
      go_wp2_with (first
        | (refine wpList_buildSlice rfl 29 3 1 _ rfl (chCells (k : Int)).toArray iN _ Try.underlying29 hiN.out hzN.out (by rw [hsN.out]; omega) (by rw [hsN.out]; omega) (by simp only [hsN.out]; kernel_rfl) ?_)
        | (go_at_call 49; (with_reducible refine cG.mono ?_); rintro e w4 ⟨la4, lc4, P4, rfl, hm4, hR4⟩; (have h4 : Hid (P4.map (·.2.1) = growL (okD L) 3 [k] ∧ RsM (wr.alloc (.cells (chCells (k : Int)).toArray 3)) w4 la4 lc4 P4 ∧ P4.length ≤ 85 ∧ RsM w w4 a c P ∧ OwnL w4 w.heap.size 106 7 ka kc (L.map Kd.cells) ∧ w.heap.size ≤ (wr.alloc (.cells (chCells (k : Int)).toArray 3)).heap.size) := ⟨hm4, hR4, (by (have h := congrArg List.length hm4; rw [List.length_map] at h; have h2 := hlen.out; omega)), ⟨hq.out.r.l.later (bthen hbx.out hR4.b), bthen hq.out.r.b (bthen hbx.out hR4.b)⟩, own_keep hq.out.k (fun g hg => (bthen hbx.out hR4.b).block g (blk_lt hq.out.k g hg).2), (bthen hq.out.r.b hbx.out).size⟩); clear hm4 hR4 cG)
        | (at_builtin; (refine wpList_app rfl (.tmp 12) (.tmp 16) 39 rfl w.heap.size 29 iS _ 1 24 Try.underlying39 hiS.out hzS.out hsS.out hbS.out rfl (by decide) a c (P.map Rng.cs) (by rw [List.length_map]; rfl) h4.out.2.2.2.1.l.o la4 lc4 (P4.map Rng.cs) (by rw [List.length_map]; rfl) (rg_rows h4.out.2.1.l) (by intro row hr; obtain ⟨q, _, rfl⟩ := List.mem_map.mp hr; rfl) (by intro row hr u hu; obtain ⟨q, _, rfl⟩ := List.mem_map.mp hr; simp only [List.mem_singleton] at hu; subst hu; rfl) (by rw [List.length_map, List.length_map]; have h1 := hPn.out; have h2 := h4.out.2.2.1; unfold maxLen; omega) (by rw [List.length_map, List.length_map]; have h1 := hPn.out; have h2 := h4.out.2.2.1; omega) h4.out.2.2.2.1.b.size ?_); intro va5 vc5 Z5 ho5 hk5 hb5 _; rw [List.length_append, List.length_map, List.length_map]))
      have hF : Hid (AlS w Z5 L ka kc va5 vc5 (P ++ P4) ∧ (P ++ P4).map (·.2.1) = ringsL (okD L) (k + 1)) := by
        rw [Nat.min_eq_left h4.out.2.2.2.1.b.size] at hb5
        exact ⟨⟨own_keep h4.out.2.2.2.2.1 fun g hg => hk5 g (blk_lt h4.out.2.2.2.2.1 g hg).2 (own_apartG h4.out.2.2.2.2.1 h4.out.2.2.2.1.l.o (by decide) hg), h4.out.2.2.2.1.l.join h4.out.2.1.l h4.out.2.2.2.2.2 ho5 hk5, h4.out.2.2.2.1.b.trans hb5⟩, by (rw [List.map_append, hm.out, h4.out.1, ringsL_step])⟩
      clear ho5 hk5 hb5
      go_roundw
      case rel => exact ⟨k + 1, va5, vc5, P ++ P4, by omega, by go_num, by rw [List.length_append], hF.out.1, hF.out.2⟩
      case measure => simp [intOf]; omega
    · have hke : k = 4 := by omega
      subst hke
      go_wp2
      go_ret
      exact ⟨a, c, P, rfl, hm.out, hq.out.r⟩
set_option maxHeartbeats 4000000 in
theorem rRings_any (hl : Rows w 26 la lc (l.map Ev.cells)) (c : Int) (hc : checkP l c) : Calls Try.prog 17 #[.slice la l.length lc] w fun e w' => ∃ a cap P, e = .returned (.tuple #[.slice a P.length cap, .int .i64 c]) ∧ P.map (·.2.1) = rngR l c ∧ RsM w w' a cap P := by
  have cC := rcheck_any l la lc w hl c hc
  by_cases h0 : c = 0
  · subst h0
    obtain ⟨hn, hr⟩ := check_zero hc
    have cA : ∀ wx, Below w.heap.size w wx → Calls Try.prog 33 #[.slice la l.length lc] wx _ := fun wx q => rall_any (hl.later q) hn hr
    have hR : Hid (ringsL (okL l) 4 = rngR l 0) := by (show _ = _; unfold rngR; rw [if_pos rfl])
    clear hl hc hn hr
    go_enter Try.func17, Try.ntmps17
    go_wp2_with (first
      | (go_at_call 21; (with_reducible refine cC.mono ?_); rintro e w1 ⟨rfl, hb⟩; (have hB1 : Hid (Below w.heap.size w w1) := hb); clear hb cC)
      | (go_at_call 33; (with_reducible refine (cA _ hB1.out).mono ?_); rintro e w3 ⟨a, cap, P, rfl, hm, hM⟩; (have hF : Hid (P.map (·.2.1) = rngR l 0 ∧ RgL w.heap.size w3 a cap P ∧ Below w.heap.size w w3) := ⟨hm.trans hR.out, ⟨own_mono_q hM.l.o hB1.out.size, fun s hs => own_mono_q (hM.l.i s hs) hB1.out.size⟩, bthen hB1.out hM.b⟩); clear hm hM))
    go_ret2
    exact ⟨a, cap, P, rfl, hF.out.1, hF.out.2.1, hF.out.2.2⟩
  · have hcb : (c != 0) = true := by rw [bne_iff_ne]; exact h0
    have hR : Hid (rngR l c = []) := by (show _ = _; unfold rngR; rw [if_neg h0])
    clear hl hc h0
    go_enter Try.func17, Try.ntmps17
    go_wp2_with (first
      | (go_at_call 21; (with_reducible refine cC.mono ?_); rintro e w1 ⟨rfl, hb⟩; (have hB1 : Hid (Below w.heap.size w w1) := hb); clear hb cC))
    go_ret2
    exact ⟨none, 0, [], rfl, by (rw [hR.out]; rfl), RgL.nil, hB1.out⟩
end
end Go.Proofs.Ytdfnmlcpimiboaa.pg
/- The document's Guarded. -/
namespace Go.Proofs.Ytdfnmlcpimiboaa.pg
open Go.ChangeShapes Go.WideShapes Go.ChangeAt Go.RowKit
set_option linter.unusedVariables false
set_option linter.unusedSimpArgs false
set_option maxRecDepth 100000
attribute [local go_sem ↓] Go.wp_at_zero Go.wp_at_succ
theorem zs_ixG {w : World} {a : Option Addr} {cap : Nat} {S : List Int} (h : Rows w 1 a cap (S.map chCells)) (i : Nat) (s : Int) (hi : S[i]? = some s) :
    ∃ b o, (∀ wx, (Instr.indexAt 29 (.slice a S.length cap) (.int .i64 (i : Int))).run Try.prog wx = .ok (.pointer (some ⟨b, o, none⟩)) wx) ∧ b < w.heap.size ∧ w.cell? ⟨b, o, none⟩ = some (.int .i64 s) := by
  obtain ⟨b, o, hr, hlt, hc⟩ := h.ix 29 3 Try.underlying29 (by kernel_rfl) (fun wx => Try.sizeOf3 wx) i (row := chCells s) (by simp [hi])
  rw [List.length_map] at hr
  exact ⟨b, o, hr, hlt, hc 0 _ rfl⟩
section
variable {w : World} {l : List Ev} {la ra : Option Addr} {lc rc : Nat} {zs : List Int}
set_option maxHeartbeats 8000000 in
theorem rGuarded_any (hl : Rows w 26 la lc (l.map Ev.cells)) (hz : Rows w 1 ra rc (zs.map chCells)) (c : Int) (hc : checkP l c) : Calls Try.prog 19 #[.slice la l.length lc, .slice ra zs.length rc] w fun e w' => e = .returned (.tuple #[.bool (grdR l zs c).1, .int .i64 (grdR l zs c).2]) ∧ Below w.heap.size w w' := by
  have cC := rcheck_any l la lc w hl c hc
  have hzI := rows_len hz
  have hzH : Hid (Rows w 1 ra rc (zs.map chCells)) := hz
  obtain ⟨g, hg⟩ : ∃ g, grdR l zs c = g := ⟨_, rfl⟩
  rw [hg]
  have hgH : Hid (grdR l zs c = g) := hg
  have hcH : Hid (checkP l c) := hc
  by_cases h0 : c = 0
  · subst h0
    obtain ⟨hn, hr⟩ := check_zero hcH.out
    by_cases h4 : 4 < zs.length
    · have h4I : (zs.length : Int) > 4 := by omega
      have hge : g = (false, 2) := by rw [← hgH.out]; unfold grdR; rw [if_pos rfl, if_pos h4]
      subst hge
      clear hgH h4 hl hz hg hc hn hr
      go_enter Try.func19, Try.ntmps19
      go_wp2_with (go_at_call 21; (with_reducible refine cC.mono ?_); rintro e w1 ⟨rfl, hb⟩; (have hB1 : Hid (Below w.heap.size w w1) := hb); clear hb cC)
      go_ret2
      exact ⟨rfl, hB1.out⟩
    · have h4I : ¬ (zs.length : Int) > 4 := by omega
      have hrH : Hid (∀ x ∈ l, rightP x) := hr
      have hnH : Hid (l.length ≤ 256) := hn
      have cA : ∀ wx, Below w.heap.size w wx → Calls Try.prog 33 #[.slice la l.length lc] wx _ := fun wx q => rall_any (hl.later q) hn hr
      have cK : ∀ wx, Below w.heap.size w wx → Calls Try.prog 40 #[.slice la l.length lc] wx fun e w' => ∃ a c, e = .returned (.slice a (kdL l).length c) ∧ KdS wx w' (kdL l) a c := fun wx q => kinds_anyG (hl.later q) hn hr
      clear hl hz hg hc hn hr
      go_enter Try.func19, Try.ntmps19
      go_wp2_with (first
        | (go_at_call 21; (with_reducible refine cC.mono ?_); rintro e w1 ⟨rfl, hb⟩; (have hB1 : Hid (Below w.heap.size w w1) := hb); clear hb cC)
        | (go_at_call 33; (with_reducible refine (cA _ hB1.out).mono ?_); rintro e w2 ⟨a, cap, P, rfl, hm, hM⟩; (have hI : Hid (RsM w w2 a cap P) := ⟨⟨own_mono_q hM.l.o hB1.out.size, fun s hs => own_mono_q (hM.l.i s hs) hB1.out.size⟩, bthen hB1.out hM.b⟩); (have hPm : Hid (P.map (·.2.1) = ringsL (okL l) 4) := hm); clear hm hM cA))
      have hPI : (P.length : Int) ≤ 9223372036854775807 := rows_len (rg_rows hI.out.l)
      go_loopw [22] (fun u wr => ∃ j : Nat, j ≤ P.length ∧ u = .int .i64 (j : Int) ∧ Hid (RsM w wr a cap P ∧ ∀ z ∈ P.take j, eqR zs z = false)) (fun u _ => P.length - (intOf u).toNat)
      case atStart => exact ⟨0, Nat.zero_le _, rfl, hI.out, fun z hz => by simp at hz⟩
      case round =>
        obtain ⟨j, hj, rfl, hq⟩ := hrel
        clear hI
        by_cases hlj : j < P.length
        · have hjI : (j : Int) < P.length := by omega
          obtain ⟨s, hs⟩ : ∃ s, P[j]? = some s := ⟨_, List.getElem?_eq_getElem hlj⟩
          obtain ⟨b0, o0, x0, _, k0⟩ := rg_ix hq.out.1.l j s hs
          have hsI := rows_len (own_rows (hq.out.1.l.i s (List.mem_of_getElem? hs)) (asZ_one _))
          obtain ⟨s1, sl, s3⟩ := s
          have hsm : Hid (((s1, sl, s3) : Rng) ∈ P) := List.mem_of_getElem? hs
          have hsH : Hid (P[j]? = some ((s1, sl, s3) : Rng)) := hs
          have hslI : (sl.length : Int) ≤ 9223372036854775807 := by (rw [show (asZ sl).length = sl.length by simp [asZ]] at hsI; exact hsI)
          have k0' : wr.cell? ⟨b0, o0, none⟩ = some (.slice s1 sl.length s3) := k0
          clear hs hsI k0
          go_wp2_with fail
          go_loopw [9, 10] (fun u9 u wr => ∃ (i : Nat) (t : Bool), i ≤ sl.length ∧ u = .int .i64 (i : Int) ∧ u9 = .bool t ∧ Hid (RsM w wr a cap P) ∧ Hid (if t = true then sl.length = zs.length ∧ (asZ sl).take i = zs.take i else asZ sl ≠ zs)) (fun _ u _ => sl.length - (intOf u).toNat)
          case atStart =>
            refine ⟨0, ((sl.length : Int) == (zs.length : Int)), Nat.zero_le _, rfl, rfl, hq.out.1, ?_⟩
            show if _ then _ else _
            by_cases e : sl.length = zs.length
            · rw [if_pos (by rw [beq_iff_eq]; omega)]
              exact ⟨e, rfl⟩
            · rw [if_neg (by rw [beq_iff_eq]; omega)]
              intro q
              apply e
              rw [← q]
              simp [asZ]
          case round =>
            obtain ⟨i, t, hi, rfl, rfl, hv, ht⟩ := hrel
            by_cases hil : i < sl.length
            · have hiI : (i : Int) < sl.length := by omega
              cases t with
              | true =>
                have h9 := ht.out
                rw [if_pos rfl] at h9
                have hlz : Hid (sl.length = zs.length) := h9.1
                have htk : Hid ((asZ sl).take i = zs.take i) := h9.2
                clear h9
                obtain ⟨p, hp⟩ : ∃ p, sl[i]? = some p := ⟨_, List.getElem?_eq_getElem hil⟩
                obtain ⟨q, hq9⟩ : ∃ q, zs[i]? = some q := ⟨_, List.getElem?_eq_getElem (by have := hlz.out; omega)⟩
                obtain ⟨b1, o1, x1, l1, c1⟩ := int_ixG (own_rows (hv.out.l.i _ hsm.out) (asZ_one _)) i p hp
                obtain ⟨b2, o2, x2, l2, c2⟩ := zs_ixG (hzH.out.later hv.out.b) i q hq9
                have hnx : Hid (if ((p : Int) == q) = true then sl.length = zs.length ∧ (asZ sl).take (i + 1) = zs.take (i + 1) else asZ sl ≠ zs) := by
                  show if _ then _ else _
                  have e1 : (asZ sl)[i]? = some (p : Int) := by unfold asZ; rw [List.getElem?_map, hp]; rfl
                  by_cases e : (p : Int) = q
                  · rw [if_pos (by rw [beq_iff_eq]; exact e)]
                    exact ⟨hlz.out, by rw [take_one _ i _ e1, take_one _ i _ hq9, htk.out, e]⟩
                  · rw [if_neg (by rw [beq_iff_eq]; exact e)]
                    intro z
                    rw [z, hq9] at e1
                    exact e (Option.some.inj e1).symm
                have hc9 : Hid (wr.cell? ⟨b1, o1, none⟩ = some (.int .i64 (p : Int)) ∧ wr.cell? ⟨b2, o2, none⟩ = some (.int .i64 q) ∧ b1 < wr.heap.size ∧ b2 < wr.heap.size) := ⟨c1, c2, l1, l2⟩
                clear hp hq9 ht c1 c2 l1 l2
                go_upto_region 13 with fail
                have hRd : Hid (∀ w', Below wr.heap.size wr w' → w'.cell? ⟨b1, o1, none⟩ = some (.int .i64 (p : Int)) ∧ w'.cell? ⟨b2, o2, none⟩ = some (.int .i64 q)) := fun w' z => ⟨cell_keepG hc9.out.1 (z.block _ hc9.out.2.2.1), cell_keepG hc9.out.2.1 (z.block _ hc9.out.2.2.2)⟩
                have hS : Hid (Below wr.heap.size wr wr.drew) := bey_drew wr
                refine wp_region_noPanic ?_
                refine wp_region_held_drew (S := fun w' => Below wr.heap.size wr w') (by kernel_rfl) hS.out (fun _ => ?_)
                refine reg_move (i := 0) rfl (by kernel_rfl) (by kernel_rfl) (by kernel_rfl) (fun _ _ _ _ h => h) rfl (.slice s1 sl.length s3) (fun _ => rfl) hS.out ?_
                simp only [Act.put, List.getElem_toArray, List.getElem_cons_succ, List.getElem_cons_zero, List.setIfInBounds_toArray, List.set_cons_zero, List.set_cons_succ]
                refine reg_move (i := 1) rfl (by kernel_rfl) (by kernel_rfl) (by kernel_rfl) (fun _ _ _ _ h => h) rfl (.int .i64 (i : Int)) (fun _ => rfl) hS.out ?_
                simp only [Act.put, List.getElem_toArray, List.getElem_cons_succ, List.getElem_cons_zero, List.setIfInBounds_toArray, List.set_cons_zero, List.set_cons_succ]
                refine reg_move (i := 2) rfl (by kernel_rfl) (by kernel_rfl) (by kernel_rfl) (fun _ _ _ _ h => h) rfl (.pointer (some ⟨b1, o1, none⟩)) (fun wx => by unfold execOp; exact run_value_of (x1 wx)) hS.out ?_
                simp only [Act.put, List.getElem_toArray, List.getElem_cons_succ, List.getElem_cons_zero, List.setIfInBounds_toArray, List.set_cons_zero, List.set_cons_succ]
                refine reg_load1 (i := 3) rfl (by kernel_rfl) (by kernel_rfl) (by kernel_rfl) (fun _ _ _ _ h => h) rfl 3 _ rfl ⟨b1, o1, none⟩ rfl _ Try.underlying3 rfl (.int .i64 (p : Int)) (fun w' z => (hRd.out w' z).1) hS.out ?_
                simp only [Act.put, List.getElem_toArray, List.getElem_cons_succ, List.getElem_cons_zero, List.setIfInBounds_toArray, List.set_cons_zero, List.set_cons_succ]
                refine reg_move (i := 4) rfl (by kernel_rfl) (by kernel_rfl) (by kernel_rfl) (fun _ _ _ _ h => h) rfl (.slice ra zs.length rc) (fun _ => rfl) hS.out ?_
                simp only [Act.put, List.getElem_toArray, List.getElem_cons_succ, List.getElem_cons_zero, List.setIfInBounds_toArray, List.set_cons_zero, List.set_cons_succ]
                refine reg_move (i := 5) rfl (by kernel_rfl) (by kernel_rfl) (by kernel_rfl) (fun _ _ _ _ h => h) rfl (.int .i64 (i : Int)) (fun _ => rfl) hS.out ?_
                simp only [Act.put, List.getElem_toArray, List.getElem_cons_succ, List.getElem_cons_zero, List.setIfInBounds_toArray, List.set_cons_zero, List.set_cons_succ]
                refine reg_move (i := 6) rfl (by kernel_rfl) (by kernel_rfl) (by kernel_rfl) (fun _ _ _ _ h => h) rfl (.pointer (some ⟨b2, o2, none⟩)) (fun wx => by unfold execOp; exact run_value_of (x2 wx)) hS.out ?_
                simp only [Act.put, List.getElem_toArray, List.getElem_cons_succ, List.getElem_cons_zero, List.setIfInBounds_toArray, List.set_cons_zero, List.set_cons_succ]
                refine reg_load1 (i := 7) rfl (by kernel_rfl) (by kernel_rfl) (by kernel_rfl) (fun _ _ _ _ h => h) rfl 3 _ rfl ⟨b2, o2, none⟩ rfl _ Try.underlying3 rfl (.int .i64 q) (fun w' z => (hRd.out w' z).2) hS.out ?_
                simp only [Act.put, List.getElem_toArray, List.getElem_cons_succ, List.getElem_cons_zero, List.setIfInBounds_toArray, List.set_cons_zero, List.set_cons_succ]
                refine reg_move (i := 8) rfl (by kernel_rfl) (by kernel_rfl) (by kernel_rfl) (fun _ _ _ _ h => h) rfl (.bool ((p : Int) == q)) (fun _ => rfl) hS.out ?_
                simp only [Act.put, List.getElem_toArray, List.getElem_cons_succ, List.getElem_cons_zero, List.setIfInBounds_toArray, List.set_cons_zero, List.set_cons_succ]
                refine reg_move (i := 9) rfl (by kernel_rfl) (by kernel_rfl) (by kernel_rfl) (fun _ _ _ _ h => h) rfl (.bool ((p : Int) == q)) (fun _ => rfl) hS.out ?_
                simp only [Act.put, List.getElem_toArray, List.getElem_cons_succ, List.getElem_cons_zero, List.setIfInBounds_toArray, List.set_cons_zero, List.set_cons_succ]
                refine wpAnyH_done (by kernel_rfl) (NoPanic.normal ?_) _
                have hv2 : Hid (RsM w wr.drew a cap P) := ⟨hv.out.l.later hS.out, bthen hv.out.b hS.out⟩
                clear hRd hS hv hc9 x1 x2
                generalize wr.drew = X at *
                go_wp2_with fail
                go_roundw
                case rel => exact ⟨i + 1, _, by omega, by go_num, rfl, hv2.out, hnx.out⟩
                case measure => simp [intOf]; omega
              | false =>
                have hne : Hid (asZ sl ≠ zs) := by (have h := ht.out; rw [if_neg (by decide)] at h; exact h)
                clear ht
                have hno2 : Hid (∀ z ∈ P.take (j + 1), eqR zs z = false) := take_moreR hsH.out hq.out.2 (by (unfold eqR; rw [beq_eq_false_iff_ne]; exact hne.out))
                clear hne hsH
                go_wp2_with fail
                go_roundw
                case rel => exact ⟨j + 1, by omega, by go_num, hv.out, hno2.out⟩
                case measure => simp [intOf]; omega
            · have hie : i = sl.length := by omega
              have hiI : ¬ (i : Int) < sl.length := by omega
              cases t with
              | false =>
                have hne : Hid (asZ sl ≠ zs) := by (have h := ht.out; rw [if_neg (by decide)] at h; exact h)
                clear ht
                have hno2 : Hid (∀ z ∈ P.take (j + 1), eqR zs z = false) := take_moreR hsH.out hq.out.2 (by (unfold eqR; rw [beq_eq_false_iff_ne]; exact hne.out))
                clear hne hsH
                go_wp2_with fail
                go_roundw
                case rel => exact ⟨j + 1, by omega, by go_num, hv.out, hno2.out⟩
                case measure => simp [intOf]; omega
              | true =>
                have hEq : asZ sl = zs := by
                  have h := ht.out
                  rw [if_pos rfl] at h
                  have h2 := h.2
                  rw [hie, List.take_of_length_le (by simp [asZ]), List.take_of_length_le (by omega)] at h2
                  exact h2
                have hslR : sl ∈ ringsL (okL l) 4 := by
                  rw [← hPm.out]
                  exact List.mem_map.mpr ⟨_, hsm.out, rfl⟩
                obtain ⟨r1, r2, r3⟩ := ringsL_mem hslR
                have hgg : Hid (g = (!clsB (kdL l) sl true sl.length 0 (fun _ => false) (fun _ => false), 0)) := by
                  show _ = _
                  rw [apD_L hrH.out sl r1, ← hgH.out]
                  unfold grdR
                  rw [if_pos rfl, if_neg h4, if_pos (List.any_eq_true.mpr ⟨sl, hslR, by rw [hEq]; exact beq_self_eq_true _⟩), ← hEq, asZ_back, show (asZ sl).length = sl.length by simp [asZ]]
                have hzr : Hid (zs.length = sl.length) := by (show _ = _; rw [← hEq]; simp [asZ])
                have cZ : ∀ (wx wy : World) (ka : Option Addr) (kc : Nat), Below w.heap.size w wx → KdS wx wy (kdL l) ka kc → Calls Try.prog 39 #[.slice ka (kdL l).length kc, .slice ra zs.length rc, .int .i64 0, .agg #[.bool false, .bool false, .bool false, .bool false, .bool false, .bool false], .agg #[.bool false, .bool false, .bool false, .bool false], .bool true] wy fun e w' => e = .returned (.bool (clsB (kdL l) sl true sl.length 0 (fun _ => false) (fun _ => false))) ∧ Below wy.heap.size wy w' := fun wx wy ka kc q hK => by
                  rw [hzr.out]
                  have hz2 := hzH.out.later (bthen q hK.b)
                  rw [← hEq] at hz2
                  exact closes_anyG (ap := true) (kdL_len hnH.out) (kdL_by hrH.out) r3 sl.length 0 (fun _ => false) (fun _ => false) wy (by omega) (own_rows hK.o (kd_len _)) hz2
                have hKI : ((kdL l).length : Int) ≤ 1024 := by (have := kdL_len hnH.out; omega)
                obtain ⟨bb, hbb⟩ : ∃ bb, clsB (kdL l) sl true sl.length 0 (fun _ => false) (fun _ => false) = bb := ⟨_, rfl⟩
                rw [hbb] at cZ hgg
                have hge := hgg.out
                subst hge
                clear hgg hgH hbb hslR r1 r2 r3 hEq hrH hnH
                go_wp2_with (first
                  | (go_at_call 40; (with_reducible refine (cK _ hv.out.b).mono ?_); rintro e w6 ⟨ka, kc, rfl, hK⟩; (have hK6 : Hid (KdS wr w6 (kdL l) ka kc ∧ Below w.heap.size w w6) := ⟨hK, bthen hv.out.b hK.b⟩); clear hK)
                  | (go_at_call 39; (with_reducible refine (cZ _ _ _ _ hv.out.b hK6.out.1).mono ?_); rintro e w7 ⟨rfl, hb7⟩; (have hF : Hid (Below w.heap.size w w7) := bthen hK6.out.2 hb7); clear hb7))
                go_ret2
                exact ⟨rfl, hF.out⟩
        · have hje : j = P.length := by omega
          have hjI : ¬ (j : Int) < P.length := by omega
          have hge : g = (false, 9) := by
            rw [← hgH.out]
            unfold grdR
            rw [if_pos rfl, if_neg h4, if_neg]
            rw [← any_rings hPm.out]
            intro q
            obtain ⟨z, hz, q⟩ := List.any_eq_true.mp q
            have h2 := hq.out.2 z (by rw [hje, List.take_length]; exact hz)
            rw [h2] at q
            cases q
          subst hge
          clear hgH
          go_wp2
          go_ret2
          exact ⟨rfl, hq.out.1.b⟩
  · have hcb : (c != 0) = true := by rw [bne_iff_ne]; exact h0
    have hge : g = (false, c) := by rw [← hgH.out]; unfold grdR; rw [if_neg h0]
    subst hge
    clear hgH h0 hl hz hg hc
    go_enter Try.func19, Try.ntmps19
    go_wp2_with (go_at_call 21; (with_reducible refine cC.mono ?_); rintro e w1 ⟨rfl, hb⟩; (have hB1 : Hid (Below w.heap.size w w1) := hb); clear hb cC)
    go_ret2
    exact ⟨rfl, hB1.out⟩
end
end Go.Proofs.Ytdfnmlcpimiboaa.pg
