/- The document's own Closed and Cut. -/
import Derived.Test.YtkhhkgfaakgdfaaM35
namespace Go.Proofs.Ytkhhkgfaakgdfaa.pg
open Go.ChangeShapes Go.WideShapes Go.ChangeAt Go.RowKit Go.Shelf
set_option linter.unusedVariables false
set_option linter.unusedSimpArgs false
set_option maxRecDepth 100000
attribute [local go_sem ↓] Go.wp_at_zero Go.wp_at_succ
def inTo (ps : List Int) (B : Nat → Nat → Bool) (i k : Nat) : Bool := (ps.take k).any fun x => ((i : Int) == x) || B i x.toNat
theorem inTo_more {ps : List Int} {B : Nat → Nat → Bool} {i k a : Nat} (h : ps[k]? = some (a : Int)) : inTo ps B i (k + 1) = (inTo ps B i k || (((i : Int) == (a : Int)) || B i a)) := by
  unfold inTo
  rw [take_one ps k _ h, List.any_append]
  simp
theorem plR_c {n : Nat} {ps : List Int} {al : Bool} {c : Int} (h : plR n ps al c) : c = 2 ∨ c = 1 ∨ c = 0 := by
  rcases h with ⟨_, h⟩ | ⟨_, _, h⟩ | ⟨_, _, _, h⟩ <;> simp [h]
set_option maxHeartbeats 1000000 in
theorem rclo_err (l : List Ev) (la : Option Addr) (lc : Nat) (ps : List Int) (pa : Option Addr) (pc : Nat) (w : World) (hlen : l.length ≤ 256) (hp : Rows w 1 pa pc (ps.map chCells)) (c : Int) (hc : plR l.length ps false c) (h0 : c = 2 ∨ c = 1) :
    Calls Try.prog 33 #[.slice la l.length lc, .slice pa ps.length pc] w fun e w' => e = .returned (.tuple #[.slice none 0 0, .int .i64 c]) ∧ Below w.heap.size w w' := by
  have cP := rplaces_any l la lc ps pa pc false w hlen hp c hc
  clear hp hc
  rcases h0 with rfl | rfl
  all_goals
    go_enter Try.func33, Try.ntmps33
    go_wp2_with (first
      | (go_at_call 54; (with_reducible refine cP.mono ?_); rintro e w1 ⟨rfl, hb'⟩; (have hb : Hid (Below w.heap.size w w1) := hb'); clear hb' cP))
    go_ret2
    exact ⟨rfl, hb.out⟩
set_option maxHeartbeats 2000000 in
theorem rclo_ok (l : List Ev) (la : Option Addr) (lc : Nat) (ps : List Int) (pa : Option Addr) (pc : Nat) (w : World) (hl : Rows w 26 la lc (l.map Ev.cells)) (hlen : l.length ≤ 256) (hp : Rows w 1 pa pc (ps.map chCells)) (hc : plR l.length ps false 0) (hin : ∀ p ∈ ps, 0 ≤ p ∧ p < l.length) {B : Nat → Nat → Bool} (hB : Tells (dpf l) B) (f : Nat → Bool) (hf : Hid (∀ i, f i = inTo ps B i ps.length)) :
    Calls Try.prog 33 #[.slice la l.length lc, .slice pa ps.length pc] w fun e w' => ∃ va vc, e = .returned (.tuple #[.slice va (lst f l.length).length vc, .int .i64 0]) ∧ LsS w (lst f l.length) va vc w' := by
  have hpI := rows_len hp
  have hlI : (l.length : Int) ≤ 256 := by omega
  have hlH : Hid (Rows w 26 la lc (l.map Ev.cells)) := hl
  have hpH : Hid (Rows w 1 pa pc (ps.map chCells)) := hp
  have hinH : Hid (∀ p ∈ ps, 0 ≤ p ∧ p < l.length) := hin
  have cP := rplaces_any l la lc ps pa pc false w hlen hp 0 hc
  have cM : ∀ wx, Below w.heap.size w wx → Calls Try.prog 26 #[.slice la l.length lc] wx fun e w' => ∃ A rb, e = .returned (.slice (some ⟨A, 0, none⟩) l.length l.length) ∧ RbS wx w' A l.length l.length rb B := fun wx hb => rbef_any l la lc wx (hlH.out.later hb) hlen B hB
  obtain ⟨iN, hiN, hzN, hsN, hbN⟩ := info_q infoN_u
  clear hl hp hin hc hB
  go_enter Try.func33, Try.ntmps33
  go_wp2_with (first
    | (go_at_call 54; (with_reducible refine cP.mono ?_); rintro e w1 ⟨rfl, hb'⟩; (have hb : Hid (Below w.heap.size w w1) := hb'); clear hb' cP)
    | (go_at_call 26; (with_reducible refine (cM _ hb.out).mono ?_); rintro e w2 ⟨A, rb, rfl, hm7⟩; (have hm : Hid (Mat w2 w1.heap.size A l.length l.length rb B) := hm7.m); (have hb2 : Hid (Below w.heap.size w w2) := bthen hb.out hm7.b); clear hm7 cM))
  have s0 : Hid (LsS w2 (lst f 0) none 0 w2) := ⟨Below.refl _ _, own_nil_q _ _ _ _⟩
  go_loopw [8, 9] (fun o u wr => ∃ (k : Nat) (va : Option Addr) (vc : Nat), k ≤ l.length ∧ u = .int .i64 k ∧ o = .slice va (lst f k).length vc ∧ Hid (LsS w2 (lst f k) va vc wr)) (fun _ u _ => l.length - (intOf u).toNat)
  case atStart => exact ⟨0, none, 0, by omega, rfl, rfl, s0⟩
  case round =>
    obtain ⟨i, va, vc, hk, rfl, rfl, hs⟩ := hrel
    clear s0
    by_cases hlt : i < l.length
    · have hkI : (i : Int) < l.length := by omega
      have hll := lst_len f i
      have hmore : Hid (lst f (i + 1) = lst f i ++ (if f i = true then [(i : Int)] else [])) := rfl
      have h00 : inTo ps B i 0 = false := by simp [inTo]
      generalize lst f i = L at *
      go_wp2_with fail
      go_loopw [10, 11] (fun u v wr => ∃ k : Nat, k ≤ ps.length ∧ v = .int .i64 k ∧ u = .bool (inTo ps B i k) ∧ Hid (LsS w2 L va vc wr)) (fun _ v _ => ps.length - (intOf v).toNat)
      case atStart => exact ⟨0, Nat.zero_le _, rfl, by rw [h00], hs⟩
      case round =>
        obtain ⟨k, hk2, rfl, rfl, hs2⟩ := hrel
        clear hs h00
        by_cases hltk : k < ps.length
        · obtain ⟨x, hx, hxm⟩ := get_lt ps k hltk
          have hkI2 : (k : Int) < ps.length := by omega
          obtain ⟨x0, x1⟩ := hinH.out x hxm
          obtain ⟨a, rfl⟩ := Int.eq_ofNat_of_zero_le x0
          obtain ⟨b1, o1, hix1, hbl1, v1⟩ := ch_ix (hpH.out.later (bthen hb2.out hs2.out.be)) k _ hx
          have xA := ix_row A l.length i hlt
          have xR := ix_bool (rb i) l.length a (by omega)
          have u1 := (hm.out.later hs2.out.be).row hlt hlt
          have u2 := ((hm.out.later hs2.out.be).cell (i := i) (j := a) hlt (by omega)).1
          have hN : Hid (inTo ps B i (k + 1) = (inTo ps B i k || (((i : Int) == (a : Int)) || B i a))) := inTo_more hx
          obtain ⟨U, hU⟩ : ∃ U, inTo ps B i k = U := ⟨_, rfl⟩
          obtain ⟨V, hV⟩ : ∃ V, B i a = V := ⟨_, rfl⟩
          rw [hV] at u2 hN
          rw [hU] at hN ⊢
          clear hU hV hx hxm x0 x1
          cases U with
          | true =>
            go_wp2_with fail
            go_quiet (fail)
            go_wp2
            go_roundw
            case rel => exact ⟨k + 1, by omega, by go_num, by rw [hN.out]; simp, hs2.out.later (below_drewN (Below.refl _ _) _)⟩
            case measure => simp [intOf]; omega
          | false =>
            by_cases hia : i = a
            · subst hia
              have hee : ((i : Int) == (i : Int)) = true := by simp
              go_wp2_with fail
              go_quiet (fail)
              go_wp2
              go_roundw
              case rel => exact ⟨k + 1, by omega, by go_num, by rw [hN.out]; simp, hs2.out.later (below_drewN (Below.refl _ _) _)⟩
              case measure => simp [intOf]; omega
            · have hee : ((i : Int) == (a : Int)) = false := by rw [beq_eq_false_iff_ne]; omega
              have hee2 : (i == a) = false := by rw [beq_eq_false_iff_ne]; omega
              cases V with
              | true =>
                go_wp2_with fail
                go_quiet (fail)
                go_wp2
                go_roundw
                case rel => exact ⟨k + 1, by omega, by go_num, by rw [hN.out]; simp, hs2.out.later (below_drewN (Below.refl _ _) _)⟩
                case measure => simp [intOf]; omega
              | false =>
                go_wp2_with fail
                go_quiet (fail)
                go_wp2
                go_roundw
                case rel => exact ⟨k + 1, by omega, by go_num, by rw [hN.out, hee]; simp, hs2.out.later (below_drewN (Below.refl _ _) _)⟩
                case measure => simp [intOf]; omega
        · have hk3 : k = ps.length := by omega
          subst hk3
          obtain ⟨b, hb⟩ : ∃ b, f i = b := ⟨_, rfl⟩
          rw [← hf.out i, hb]
          cases b with
          | true =>
            have hN : Hid (lst f (i + 1) = L ++ [(i : Int)]) := by show _ = _; rw [hmore.out, if_pos hb]
            clear hmore hb
            go_wp2_with (first
              | (at_builtin; (refine wpList_app1 rfl (.tmp 54) (.tmp 56) 30 rfl w2.heap.size 3 iN _ 1 8 Try.underlying30 hiN hzN hsN hbN rfl (by decide) va vc (L.map chCells) (by rw [List.length_map]; rfl) hs2.out.ow (chCells (i : Int)) rfl rfl (one1u _) (by rw [List.length_map]; unfold maxLen; omega) (by rw [List.length_map]; omega) hs2.out.be.size ?_); intro va' vc' w5 hg; rw [List.length_map]; (have hg2 : Hid (LsS w2 (L ++ [(i : Int)]) va' vc' w5) := hs2.out.grown hg); clear hg))
            go_roundw
            case rel => exact ⟨i + 1, va', vc', by omega, by go_num, by rw [hN.out, List.length_append]; rfl, by rw [hN.out]; exact hg2⟩
            case measure => simp [intOf]; omega
          | false =>
            have hN : Hid (lst f (i + 1) = L) := by show _ = _; rw [hmore.out, if_neg (by rw [hb]; exact Bool.false_ne_true), List.append_nil]
            clear hmore hb
            go_wp2
            go_roundw
            case rel => exact ⟨i + 1, va, vc, by omega, by go_num, by rw [hN.out], by rw [hN.out]; exact hs2⟩
            case measure => simp [intOf]; omega
    · have hk2 : i = l.length := by omega
      subst hk2
      go_wp2
      go_ret2
      exact ⟨va, vc, rfl, ⟨bthen hb2.out hs.out.be, own_mono_q hs.out.ow hb2.out.size⟩⟩
end Go.Proofs.Ytkhhkgfaakgdfaa.pg
/- Closed and Cut of package order. -/
namespace Go.Proofs.Ytkhhkgfaakgdfaa.pg
open Go.ChangeShapes Go.WideShapes Go.ChangeAt Go.RowKit Go.Shelf
set_option linter.unusedVariables false
set_option linter.unusedSimpArgs false
set_option maxRecDepth 100000
attribute [local go_sem ↓] Go.wp_at_zero Go.wp_at_succ
theorem infoB_some : ∃ i, Try.prog.info? 4 = some i := by
  have h : (Try.prog.info? 4).isSome = true := by kernel_rfl
  exact Option.isSome_iff_exists.mp h
theorem eqS_one (a b : Bool) (w : World) : (Op.equalIn 9999 4 (.bool a) (.bool b)).run Try.prog w = .ok (a == b) w := by
  have ub := Try.underlying4
  go_simp
theorem eqS_part (q : Nat → Bool) (i : Nat) (hi : i < 256) (w : World) : (part 4 (boolRow 256 q) (i * 1)).run Try.prog w = .ok (.bool (q i)) w := by
  have a1 := Try.isAgg4
  rw [Nat.mul_one]
  unfold part
  simp only [Sem.run_bind, a1, Result.andThen_ok]
  simp [boolRow_at hi]
theorem run_eqS (f g : Nat → Bool) (w : World) : ∀ is : List Nat, (∀ i ∈ is, i < 256) → (Op.eqItems 9999 4 1 (boolRow 256 f) (boolRow 256 g) is).run Try.prog w = .ok (is.all fun k => f k == g k) w
  | [], _ => by rw [Op.eqItems]; rfl
  | i :: is, h => by
    have ih := run_eqS f g w is fun k hk => h k (by simp [hk])
    have hi := h i (by simp)
    rw [Op.eqItems]
    simp only [Sem.run_bind, eqS_part _ _ hi, eqS_one, Result.andThen_ok, List.all_cons]
    cases hq : (f i == g i)
    · rfl
    · simp only [Bool.not_true, Bool.false_eq_true, if_false, Bool.true_and]
      exact ih
theorem eqS_run (f g : Nat → Bool) (w : World) : (binOp .eql 85 (.agg (boolRow 256 f)) (.agg (boolRow 256 g))).run Try.prog w = .ok (.bool ((List.range 256).all fun k => f k == g k)) w := by
  obtain ⟨i, hi⟩ := infoB_some
  have hc1 : Try.prog.cellsOf 4 = 1 := by kernel_rfl
  have h : (Op.equalIn 10000 85 (.agg (boolRow 256 f)) (.agg (boolRow 256 g))).run Try.prog w = .ok ((List.range 256).all fun k => f k == g k) w := by
    rw [show (10000 : Nat) = 9999 + 1 from rfl, run_equalIn_array w 9999 _ _ Try.underlying85 hi, hc1]
    exact run_eqS f g w _ fun k hk => List.mem_range.mp hk
  rw [run_eql_struct, h]; rfl
section
variable {l : List Ev} (hrt : ∀ x ∈ l, rightP x) {B : Nat → Nat → Bool} (hB : Tells (dpf l) B)
include hrt hB
theorem clo_rel (f : Nat → Bool) : cfd (rel (evf l) l.length).2 f (dn (rel (evf l) l.length).2.length (rel (evf l) l.length).2.length) = cloB B l.length f :=
  cfd_end hB (fun p => edges_mem hrt hB p) f (by rw [rel_list hrt hB l.length (Nat.le_refl _)]; exact elist_up _ _)
end
/-- closed, of look's own relation. -/
theorem rclosed_any (l : List Ev) (la : Option Addr) (lc : Nat) (ca : Option Addr) (cn cc : Nat) (da : Option Addr) (dc : Nat) (f : Nat → Bool) (w : World) (hlen : l.length ≤ 256) (hrt : ∀ x ∈ l, rightP x) {B : Nat → Nat → Bool} (hB : Tells (dpf l) B) (hE : Rows w 2 da dc ((rel (evf l) l.length).2.map edg)) :
    Calls Try.prog 53 #[relV la l.length lc ca cn cc da (rel (evf l) l.length).2.length dc, .agg (boolRow 256 f)] w fun e w' => e = .returned (.agg (boolRow 256 (cloB B l.length f))) ∧ Below w.heap.size w w' := by
  have := closed_any la l.length lc ca cn cc (rel (evf l) l.length).2 da dc f w hE (by have := rel_edges (evf l) l.length hlen; omega) (fun p hp => by have := rel_pairs (evf l) l.length p hp; omega)
  rwa [clo_rel hrt hB] at this
theorem RelB.rows {w W : World} {l : List Ev} {la : Option Addr} {lc Rr : Nat} {ca : Option Addr} {cc : Nat} {da : Option Addr} {dc : Nat} (h : RelB w W l la lc Rr ca cc da dc) : Rows W 2 da dc ((rel (evf l) l.length).2.map edg) := own_rows h.e fun row hm => by rw [List.mem_map] at hm; obtain ⟨y, _, rfl⟩ := hm; rfl
set_option maxHeartbeats 1000000 in
theorem closed_err (l : List Ev) (la : Option Addr) (lc : Nat) (ps : List Int) (pa : Option Addr) (pc : Nat) (w : World) (hl : Rows w 26 la lc (l.map Ev.cells)) (hp : Rows w 1 pa pc (ps.map chCells)) (c : Int) (hc : lookP l ps c) :
    Calls Try.prog 30 #[.slice la l.length lc, .slice pa ps.length pc] w fun e w' => e = .returned (.tuple #[.slice none 0 0, .int .i64 c]) ∧ Below w.heap.size w w' := by
  have c1 := look_err l la lc ps pa pc w hl hp c hc
  have h7 := lookP_c hc
  clear hl hc hp
  rcases h7 with rfl | rfl | rfl
  all_goals
    go_enter Try.func30, Try.ntmps30
    go_wp2_with (first
      | (go_at_call 42; (refine c1.mono ?_); rintro e w1 ⟨rfl, hb'⟩; (have hb : Hid (Below w.heap.size w w1) := hb'); clear hb' c1)
      | (refine wpList_store_new rfl 78 _ _ rfl rfl _ _ rfl (by kernel_rfl) rfl (one3 _ _ _ _ _ _ _ _ _) ?_))
    go_ret2
    exact ⟨rfl, bthen hb.out (boxed _ _)⟩
set_option maxHeartbeats 1000000 in
theorem cut_err (l : List Ev) (la : Option Addr) (lc : Nat) (ps : List Int) (pa : Option Addr) (pc : Nat) (w : World) (hl : Rows w 26 la lc (l.map Ev.cells)) (hp : Rows w 1 pa pc (ps.map chCells)) (c : Int) (hc : lookP l ps c) :
    Calls Try.prog 29 #[.slice la l.length lc, .slice pa ps.length pc] w fun e w' => e = .returned (.tuple #[.bool false, .int .i64 c]) ∧ Below w.heap.size w w' := by
  have c1 := look_err l la lc ps pa pc w hl hp c hc
  have h7 := lookP_c hc
  clear hl hc hp
  rcases h7 with rfl | rfl | rfl
  all_goals
    go_enter Try.func29, Try.ntmps29
    go_wp2_with (first
      | (go_at_call 42; (refine c1.mono ?_); rintro e w1 ⟨rfl, hb'⟩; (have hb : Hid (Below w.heap.size w w1) := hb'); clear hb' c1)
      | (refine wpList_store_new rfl 78 _ _ rfl rfl _ _ rfl (by kernel_rfl) rfl (one3 _ _ _ _ _ _ _ _ _) ?_))
    go_ret2
    exact ⟨rfl, bthen hb.out (boxed _ _)⟩
set_option maxHeartbeats 2000000 in
theorem closed_ok (l : List Ev) (la : Option Addr) (lc : Nat) (ps : List Int) (pa : Option Addr) (pc : Nat) (w : World) (hl : Rows w 26 la lc (l.map Ev.cells)) (hp : Rows w 1 pa pc (ps.map chCells)) (hlen : l.length ≤ 256) (hrt : ∀ x ∈ l, rightP x) (hps : ps.length ≤ 256) (hin : ∀ p ∈ ps, 0 ≤ p ∧ p < l.length) {B : Nat → Nat → Bool} (hB : Tells (dpf l) B) :
    Calls Try.prog 30 #[.slice la l.length lc, .slice pa ps.length pc] w fun e w' => ∃ va vc, e = .returned (.tuple #[.slice va (lst (cloB B l.length (fOf ps)) 256).length vc, .int .i64 0]) ∧ LsS w (lst (cloB B l.length (fOf ps)) 256) va vc w' := by
  have c1 := look_any l la lc ps pa pc w hl hp hlen hrt hps hin
  have hpH : Hid (Rows w 1 pa pc (ps.map chCells)) := hp
  have hin2 : ∀ p ∈ ps, 0 ≤ p ∧ p < 256 := fun p hp => by have := hin p hp; omega
  have hrtH : Hid (∀ x ∈ l, rightP x) := hrt
  have hBH : Hid (Tells (dpf l) B) := hB
  have huR : Hid (Try.prog.underlying 78 = _) := Try.underlying78
  clear hl hp hin hrt hB
  go_enter Try.func30, Try.ntmps30
  go_wp2_with (first
    | (go_at_call 42; (refine c1.mono ?_); rintro e w1 ⟨ca, cc, da, dc, rfl, oc', oe', hb'⟩; (have rB : Hid (RelB w _ l la lc w1.heap.size ca cc da dc) := relB_new (Nat.le_refl _) oc' oe' hb'); clear oc' oe' hb' c1)
    | (refine wpList_store_new rfl 78 _ _ rfl rfl _ _ rfl (by kernel_rfl) rfl (one3 _ _ _ _ _ _ _ _ _) ?_))
  generalize w1.alloc (.cells #[.slice la l.length lc, .slice ca l.length cc, .slice da (rel (evf l) l.length).2.length dc] 78) = W at *
  generalize w1.heap.size = Rr at *
  refine wp_region_noPanic ?_
  refine wp_region_held_drew (S := fun w' => Below W.heap.size W w') (by kernel_rfl) (bey_drew W) (fun hH => ?_)
  refine reg_load (i := 0) rfl (by kernel_rfl) (by kernel_rfl) (by kernel_rfl) (fun _ _ _ _ h => h) rfl 78 _ rfl Rr 0 rfl [.slice la l.length lc, .slice ca l.length cc, .slice da (rel (evf l) l.length).2.length dc] _ (fun w' h' => (rB.out.later h').range) huR.out rfl (infoR3 _ _ _ _ _ _ _ _ _) hH ?_
  simp only [Act.put, List.getElem_toArray, List.getElem_cons_succ, List.getElem_cons_zero, List.setIfInBounds_toArray, List.set_cons_zero, List.set_cons_succ]
  refine reg_move (i := 1) rfl (by kernel_rfl) (by kernel_rfl) (by kernel_rfl) (fun _ _ _ _ h => h) rfl _ (fun _ => rfl) hH ?_
  simp only [Act.put, List.getElem_toArray, List.getElem_cons_succ, List.getElem_cons_zero, List.setIfInBounds_toArray, List.set_cons_zero, List.set_cons_succ]
  refine reg_call1 (i := 2) (by kernel_rfl) rfl rfl 51 _ _ rfl (.slice pa ps.length pc) rfl (cf_fn Try.func51 (by kernel_rfl) (by kernel_rfl) _ _) _ (setOf_any ps pa pc _ (hpH.out.later (bthen rB.out.b hH)) hin2) ?_
  rintro e w2 ⟨rfl, hb2⟩
  have hH2 : Below W.heap.size W w2 := bthen hH hb2
  refine ⟨_, rfl, hH2, fun _ => ?_⟩
  simp only [Act.put, List.getElem_toArray, List.getElem_cons_succ, List.getElem_cons_zero, List.setIfInBounds_toArray, List.set_cons_zero, List.set_cons_succ]
  refine reg_call2 (i := 3) (by kernel_rfl) rfl rfl 53 _ _ _ _ rfl (relV la l.length lc ca l.length cc da (rel (evf l) l.length).2.length dc) (.agg (boolRow 256 (fOf ps))) rfl rfl (cf_fn Try.func53 (by kernel_rfl) (by kernel_rfl) _ _) _ (rclosed_any l la lc ca l.length cc da dc (fOf ps) w2 hlen hrtH.out hBH.out ((rB.out.later hH2).rows)) ?_
  rintro e w3 ⟨rfl, hb3⟩
  have hH3 : Below W.heap.size W w3 := bthen hH2 hb3
  refine ⟨_, rfl, hH3, fun _ => ?_⟩
  simp only [Act.put, List.getElem_toArray, List.getElem_cons_succ, List.getElem_cons_zero, List.setIfInBounds_toArray, List.set_cons_zero, List.set_cons_succ]
  refine reg_call1 (i := 4) (by kernel_rfl) rfl rfl 46 _ _ rfl (.agg (boolRow 256 (cloB B l.length (fOf ps)))) rfl (cf_fn Try.func46 (by kernel_rfl) (by kernel_rfl) _ _) _ (list_any _ w3) ?_
  rintro e w4 ⟨va, vc, rfl, hl4⟩
  have hH4 : Below W.heap.size W w4 := bthen hH3 hl4.be
  refine ⟨_, rfl, hH4, fun _ => ?_⟩
  have hfin : Hid (LsS w (lst (cloB B l.length (fOf ps)) 256) va vc w4) := ⟨bthen rB.out.b hH4, own_mono_q hl4.ow (bthen rB.out.b hH3).size⟩
  clear hl4
  simp only [Act.put, List.getElem_toArray, List.getElem_cons_succ, List.getElem_cons_zero, List.setIfInBounds_toArray, List.set_cons_zero, List.set_cons_succ]
  refine reg_move (i := 5) rfl (by kernel_rfl) (by kernel_rfl) (by kernel_rfl) (fun _ _ _ _ h => h) rfl _ (fun _ => rfl) hH4 ?_
  simp only [Act.put, List.getElem_toArray, List.getElem_cons_succ, List.getElem_cons_zero, List.setIfInBounds_toArray, List.set_cons_zero, List.set_cons_succ]
  refine reg_move (i := 6) rfl (by kernel_rfl) (by kernel_rfl) (by kernel_rfl) (fun _ _ _ _ h => h) rfl _ (fun _ => rfl) hH4 ?_
  simp only [Act.put, List.getElem_toArray, List.getElem_cons_succ, List.getElem_cons_zero, List.setIfInBounds_toArray, List.set_cons_zero, List.set_cons_succ]
  refine wpAnyH_done (by kernel_rfl) (NoPanic.normal ?_) _
  clear hH hH2 hH3 hH4 hb2 hb3
  go_wp2
  go_ret2
  exact ⟨va, vc, rfl, hfin.out⟩
set_option maxHeartbeats 2000000 in
theorem cut_ok (l : List Ev) (la : Option Addr) (lc : Nat) (ps : List Int) (pa : Option Addr) (pc : Nat) (w : World) (hl : Rows w 26 la lc (l.map Ev.cells)) (hp : Rows w 1 pa pc (ps.map chCells)) (hlen : l.length ≤ 256) (hrt : ∀ x ∈ l, rightP x) (hps : ps.length ≤ 256) (hin : ∀ p ∈ ps, 0 ≤ p ∧ p < l.length) {B : Nat → Nat → Bool} (hB : Tells (dpf l) B) (R : Bool) (hR : Hid (R = (List.range 256).all fun k => cloB B l.length (fOf ps) k == fOf ps k)) :
    Calls Try.prog 29 #[.slice la l.length lc, .slice pa ps.length pc] w fun e w' => e = .returned (.tuple #[.bool R, .int .i64 0]) ∧ Below w.heap.size w w' := by
  have c1 := look_any l la lc ps pa pc w hl hp hlen hrt hps hin
  have hin2 : ∀ p ∈ ps, 0 ≤ p ∧ p < 256 := fun p hp => by have := hin p hp; omega
  have hpH : Hid (Rows w 1 pa pc (ps.map chCells)) := hp
  have cO : ∀ wx, Below w.heap.size w wx → Calls Try.prog 51 #[.slice pa ps.length pc] wx fun e w' => e = .returned (.agg (boolRow 256 (fOf ps))) ∧ Below wx.heap.size wx w' := fun wx hb => setOf_any ps pa pc wx (hpH.out.later hb) hin2
  have hrtH : Hid (∀ x ∈ l, rightP x) := hrt
  have hBH : Hid (Tells (dpf l) B) := hB
  have huR : Hid (Try.prog.underlying 78 = _) := Try.underlying78
  have huS : Hid (Try.prog.underlying 85 = _) := Try.underlying85
  have hzS : Hid (∀ w, (zeroValue 85).run Try.prog w = .ok (.agg (boolRow 256 fun _ => false)) w) := zeroSt
  obtain ⟨g, hg⟩ : ∃ g : List Value, boolRow 256 (fOf ps) = g.toArray := ⟨_, rfl⟩
  obtain ⟨h, hh⟩ : ∃ h : List Value, boolRow 256 (cloB B l.length (fOf ps)) = h.toArray := ⟨_, rfl⟩
  have heq : ∀ wx, (binOp .eql 85 (.agg h.toArray) (.agg g.toArray)).run Try.prog wx = .ok (.bool R) wx := fun wx => by rw [← hg, ← hh, eqS_run, hR.out]
  have hg256 : Hid ((Try.prog.info? 85).map (·.size) = some g.length) := by
    have := infoSt (fOf ps)
    rw [hg, List.size_toArray] at this
    exact this
  have hone : Hid (g.toArray.all (·.oneCell') = true) := by have := boolRow_one 256 (fOf ps); rwa [hg] at this
  have hgs : Hid ((boolRow 256 fun _ => false).size = g.toArray.size) := by show _ = _; rw [← hg, boolRow_size, boolRow_size]
  have hgi : Hid ((Try.prog.info? 85).map (·.size) = some g.toArray.size) := by have := infoSt (fOf ps); rwa [hg] at this
  have cC : ∀ ca cc da dc wx, Rows wx 2 da dc ((rel (evf l) l.length).2.map edg) → Calls Try.prog 53 #[.agg [.slice la l.length lc, .slice ca l.length cc, .slice da (rel (evf l) l.length).2.length dc].toArray, .agg g.toArray] wx fun e w' => e = .returned (.agg h.toArray) ∧ Below wx.heap.size wx w' := fun ca cc da dc wx hr => by
    have := rclosed_any l la lc ca l.length cc da dc (fOf ps) wx hlen hrtH.out hBH.out hr
    rw [hg, hh] at this
    exact this
  rw [hg] at cO
  clear hl hp hin hrt hB hR hg hh
  go_enter Try.func29, Try.ntmps29
  go_wp2_with (first
    | (go_at_call 42; (refine c1.mono ?_); rintro e w1 ⟨ca, cc, da, dc, rfl, oc', oe', hb'⟩; (have rB : Hid (RelB w _ l la lc w1.heap.size ca cc da dc) := relB_new (Nat.le_refl _) oc' oe' hb'); clear oc' oe' hb' c1)
    | (refine wpList_store_new rfl 78 _ _ rfl rfl _ _ rfl (by kernel_rfl) rfl (one3 _ _ _ _ _ _ _ _ _) ?_)
    | (go_at_call 51; (refine (cO _ rB.out.b).mono ?_); rintro e w2 ⟨rfl, hb2⟩; (have r2 : Hid (RelB w w2 l la lc w1.heap.size ca cc da dc) := rB.out.later hb2); clear hb2 cO)
    | (refine wpList_alloc_big rfl 85 rfl hzS.out ?_)
    | (refine wpList_store_new rfl 85 _ _ rfl rfl _ g.toArray rfl hgi.out hgs.out hone.out ?_))
  have r3 : Hid (RelB w (w2.alloc (.cells g.toArray 85)) l la lc w1.heap.size ca cc da dc) := r2.out.later (boxed _ _)
  have hnew : Hid _ := heap_alloc_new w2 (.cells g.toArray 85)
  obtain ⟨W, hW⟩ : ∃ W, w2.alloc (.cells g.toArray 85) = W := ⟨_, rfl⟩
  rw [hW] at r3 hnew ⊢
  clear hW r2 rB
  generalize w1.heap.size = Rr at *
  obtain ⟨Sb, hSb⟩ : ∃ Sb, w2.heap.size = Sb := ⟨_, rfl⟩
  rw [hSb] at hnew ⊢
  clear hSb
  have z1 : ∀ s : Cls (Bey W), s.w.rangeAt Rr 0 [.slice la l.length lc, .slice ca l.length cc, .slice da (rel (evf l) l.length).2.length dc] := fun s => (r3.out.later s.h).range
  have z2 : ∀ s : Cls (Bey W), s.w.rangeAt Sb 0 g := fun s q v hv => cell_of ((s.h.block Sb (Array.getElem?_eq_some_iff.mp hnew.out).1).trans hnew.out) (by rw [Nat.zero_add]; simpa using hv)
  have cC2 : ∀ s : Cls (Bey W), Calls Try.prog 53 #[.agg [.slice la l.length lc, .slice ca l.length cc, .slice da (rel (evf l) l.length).2.length dc].toArray, .agg g.toArray] s.w fun e w' => e = .returned (.agg h.toArray) ∧ Below s.w.heap.size s.w w' := fun s => cC ca cc da dc s.w (r3.out.later s.h).rows
  have hneB := bey_some W
  clear cC
  simp only [Act.put, List.setIfInBounds_toArray, List.set_cons_zero, List.set_cons_succ]
  refine wp_region_cls (Bey W) (by kernel_rfl) (by kernel_rfl) (bey_drew W) ?_
  repeat (first
    | (go_big_quiet_want; (first | refine quiet_load_mid 78 _ rfl Rr 0 rfl _ _ z1 huR.out rfl (infoR3 _ _ _ _ _ _ _ _ _) ?_ | refine quiet_load_mid 85 _ rfl Sb 0 rfl g _ z2 huS.out rfl hg256.out ?_); (simp only [Act.put, List.setIfInBounds_toArray, List.set_cons_zero, List.set_cons_succ]); go_big_quiet_on)
    | go_big_quiet_step ((go_at_call 53; exact calls_bey (cC2 _))))
  refine wpQuiet_nil ?_
  intro _ hw'
  obtain ⟨sq, hw''⟩ := hw'
  subst hw''
  clear z1 z2 cC2 hneB heq
  go_wp2
  go_ret2
  exact ⟨rfl, bthen r3.out.b sq.h⟩
end Go.Proofs.Ytkhhkgfaakgdfaa.pg
