/- OrderCuts, the walk. -/
import Derived.Test.YtkhhkgfaakgdfaaM43
import Derived.Test.YtkhhkgfaakgdfaaM42
namespace Go.Proofs.Ytkhhkgfaakgdfaa.pg
open Go.ChangeShapes Go.WideShapes Go.ChangeAt Go.RowKit Go.Shelf
set_option linter.unusedVariables false
set_option linter.unusedSimpArgs false
set_option maxRecDepth 100000
attribute [local go_sem ↓] Go.wp_at_zero Go.wp_at_succ
set_option maxHeartbeats 4000000 in
theorem cuts_ok (l : List Ev) (la : Option Addr) (lc : Nat) (ps : List Int) (pa : Option Addr) (pc : Nat) (i : Int) (w : World) (hl : Rows w 26 la lc (l.map Ev.cells)) (hp : Rows w 1 pa pc (ps.map chCells)) (hck : checkP l 0) (hlen : l.length ≤ 256) (hrt : ∀ x ∈ l, rightP x) (hps : ps.length ≤ 256) (hin : ∀ p ∈ ps, 0 ≤ p ∧ p < l.length) :
    Calls Try.prog 7 #[.slice la l.length lc, .slice pa ps.length pc, .int .i64 i] w fun e w' => e = .returned (.bool true) ∧ Below w.heap.size w w' := by
  obtain ⟨B, hB⟩ := tells_some (dpf l)
  have hlI := rows_len hl
  have hpI := rows_len hp
  have hlH : Hid (Rows w 26 la lc (l.map Ev.cells)) := hl
  have hpH : Hid (Rows w 1 pa pc (ps.map chCells)) := hp
  have hlenI : (l.length : Int) ≤ 256 := by omega
  obtain ⟨c, hC3, hC5, c1, cK, cD⟩ := closed_pack l la lc ps pa pc w hl hp hlen hrt hps hin hB
  have cI : ∀ (L : List Int) va vc ua uc wx, Rows wx 1 va vc (L.map chCells) → Rows wx 1 ua uc (L.map chCells) → Calls Try.prog 19 #[.slice va L.length vc, .slice ua L.length uc] wx fun e w' => e = .returned (.bool true) ∧ Below wx.heap.size wx w' := fun L va vc ua uc wx h1 h2 => sameInts_u L va ua vc uc wx h1 h2
  have cL : ∀ va vc wx, LsS w (allL l.length) va vc wx → Calls Try.prog 28 #[.slice la l.length lc, .slice va (allL l.length).length vc] wx fun e w' => e = .returned (.tuple #[.bool true, .int .i64 0]) ∧ Below wx.heap.size wx w' := fun va vc wx h => linear_all l la lc va vc w wx hlH.out h hlen hrt
  have cS : ∀ wx, Calls Try.prog 16 #[] wx fun e w' => e = .returned (.bool true) ∧ Below wx.heap.size wx w' := fun wx => speaks12_any wx
  have hrtH : Hid (∀ x ∈ l, rightP x) := hrt
  have hckH : Hid (checkP l 0) := hck
  have hBH : Hid (Tells (dpf l) B) := hB
  have hallL : Hid (∀ k, (allL k).length = k) := allL_len
  have hallM : Hid (∀ k, allL (k + 1) = allL k ++ [(k : Int)]) := allL_more
  obtain ⟨iN, hiN, hzN, hsN, hbN⟩ := info_q infoN_u
  clear hl hp hck hrt hin hB
  have hC5H : Hid (∀ x ∈ ps, x ∈ c) := hC5
  have hcI : (c.length : Int) ≤ 256 := by omega
  clear hC5
  go_enter Try.func7, Try.ntmps7
  go_wp2_with (first
    | (go_at_call 30; (with_reducible refine c1.mono ?_); rintro e w1 ⟨va, vc, rfl, hs1⟩; (have hs : Hid (LsS w c va vc w1) := hs1); clear hs1 c1)
    | (go_at_call 29; (with_reducible refine (cK _ _ _ hs.out).mono ?_); rintro e w2 ⟨rfl, hb2⟩; (have hs : Hid (LsS w c va vc w2) := hs.out.later hb2); clear hb2 cK)
    | (go_at_call 30; (with_reducible refine (cD _ _ _ hs.out).mono ?_); rintro e w3 ⟨ua, uc, rfl, hr3, hb3⟩; (have hs : Hid (LsS w c va vc w3) := hs.out.later hb3); (have hr : Hid (Rows w3 1 ua uc (c.map chCells)) := hr3); clear hb3 hr3 cD)
    | (go_at_call 19; (with_reducible refine (cI _ _ _ _ _ _ hs.out.rows hr.out).mono ?_); rintro e w4 ⟨rfl, hb4⟩; (have hs4 : Hid (LsS w c va vc w4) := hs.out.later hb4); clear hb4 cI hr hs))
  go_loopw [13] (fun u wr => ∃ k : Nat, k ≤ ps.length ∧ u = .int .i64 k ∧ Hid (LsS w c va vc wr)) (fun u _ => ps.length - (intOf u).toNat)
  case atStart => exact ⟨0, Nat.zero_le _, rfl, hs4⟩
  case round =>
    obtain ⟨k, hk, rfl, hs⟩ := hrel
    clear hs4
    by_cases hlt : k < ps.length
    · obtain ⟨x, hx, hxm⟩ := get_lt ps k hlt
      have hxc := hC5H.out x hxm
      have hkI : (k : Int) < ps.length := by omega
      go_wp2_with fail
      have h00 : anyI c x 0 = false := by simp [anyI]
      go_loopw [14, 15] (fun u v wr => ∃ j : Nat, j ≤ c.length ∧ v = .int .i64 j ∧ u = .bool (anyI c x j) ∧ Hid (LsS w c va vc wr)) (fun _ v _ => c.length - (intOf v).toNat)
      case atStart => exact ⟨0, Nat.zero_le _, rfl, by rw [h00], hs⟩
      case round =>
        obtain ⟨j, hj, rfl, rfl, hs2⟩ := hrel
        clear hs h00
        by_cases hltj : j < c.length
        · obtain ⟨y, hy, hym⟩ := get_lt c j hltj
          have hjI : (j : Int) < c.length := by omega
          obtain ⟨b1, o1, hix1, hbl1, v1⟩ := ch_ix hs2.out.rows j y hy
          obtain ⟨b2, o2, hix2, hbl2, v2⟩ := ch_ix (hpH.out.later hs2.out.be) k x hx
          have hN : Hid (anyI c x (j + 1) = (anyI c x j || y == x)) := anyI_more hy
          obtain ⟨U, hU⟩ : ∃ U, anyI c x j = U := ⟨_, rfl⟩
          rw [hU] at hN ⊢
          clear hU hy hym hx hxm hxc
          cases U with
          | true =>
            go_wp2_with fail
            go_quiet (fail)
            go_wp2
            go_roundw
            case rel => exact ⟨j + 1, by omega, by go_num, by rw [hN.out]; simp, hs2.out.later (below_drewN (Below.refl _ _) _)⟩
            case measure => simp [intOf]; omega
          | false =>
            obtain ⟨V, hV⟩ : ∃ V, (y == x) = V := ⟨_, rfl⟩
            rw [hV] at hN
            cases V with
            | true =>
              go_wp2_with fail
              go_quiet (fail)
              go_wp2
              go_roundw
              case rel => exact ⟨j + 1, by omega, by go_num, by rw [hN.out]; simp [hV], hs2.out.later (below_drewN (Below.refl _ _) _)⟩
              case measure => simp [intOf]; omega
            | false =>
              go_wp2_with fail
              go_quiet (fail)
              go_wp2
              go_roundw
              case rel => exact ⟨j + 1, by omega, by go_num, by rw [hN.out]; simp [hV], hs2.out.later (below_drewN (Below.refl _ _) _)⟩
              case measure => simp [intOf]; omega
        · have hj2 : j = c.length := by omega
          subst hj2
          have hU := anyI_end hxc
          rw [hU]
          go_wp2
          go_roundw
          case rel => exact ⟨k + 1, by omega, by go_num, hs2⟩
          case measure => simp [intOf]; omega
    · have hk2 : k = ps.length := by omega
      subst hk2
      have s0 : Hid (LsS w (allL 0) none 0 wr) := ⟨hs.out.be, own_nil_q _ _ _ _⟩
      clear hs hpH hC5H
      go_wp2_with fail
      go_loopw [16, 17] (fun o u wr => ∃ (k : Nat) (va : Option Addr) (vc : Nat), k ≤ l.length ∧ u = .int .i64 k ∧ o = .slice va (allL k).length vc ∧ Hid (LsS w (allL k) va vc wr)) (fun _ u _ => l.length - (intOf u).toNat)
      case atStart => exact ⟨0, none, 0, by omega, rfl, rfl, s0⟩
      case round =>
        obtain ⟨k, ua, uc, hk, rfl, rfl, hs⟩ := hrel
        clear s0
        by_cases hlt : k < l.length
        · have hkI : (k : Int) < l.length := by omega
          have hll := hallL.out k
          have hN : Hid (allL (k + 1) = allL k ++ [(k : Int)]) := hallM.out k
          generalize allL k = L at *
          go_wp2_with (first
            | (at_builtin; (refine wpList_app1 rfl (.tmp 98) (.tmp 100) 30 rfl w.heap.size 3 iN _ 1 8 Try.underlying30 hiN hzN hsN hbN rfl (by decide) ua uc (L.map chCells) (by rw [List.length_map]; rfl) hs.out.ow (chCells (k : Int)) rfl rfl (one1u _) (by rw [List.length_map]; unfold maxLen; omega) (by rw [List.length_map]; omega) hs.out.be.size ?_); intro va' vc' w2 hg; rw [List.length_map]; (have hg2 : Hid (LsS w (L ++ [(k : Int)]) va' vc' w2) := hs.out.grown hg); clear hg))
          go_roundw
          case rel => exact ⟨k + 1, va', vc', by omega, by go_num, by rw [hN.out, List.length_append, hll]; rfl, by rw [hN.out]; exact hg2⟩
          case measure => simp [intOf]; omega
        · have hk2 : k = l.length := by omega
          subst hk2
          by_cases hi : 0 ≤ i ∧ i < l.length
          · obtain ⟨i0, i1⟩ := hi
            obtain ⟨i, rfl⟩ := Int.eq_ofNat_of_zero_le i0
            obtain ⟨P, hPl, cP, cK⟩ := past_pack l la lc i w hlH.out hlen hrtH.out hBH.out (by omega)
            clear i0 i1 hBH hrtH hckH hlH
            go_wp2_with (first
              | (go_at_call 28; (with_reducible refine (cL _ _ _ hs.out).mono ?_); rintro e w4 ⟨rfl, hb4⟩; (have hb5 : Hid (Below w.heap.size w w4) := bthen hs.out.be hb4); clear hb4 cL)
              | (go_at_call 24; (with_reducible refine (cP _ hb5.out).mono ?_); rintro e w5 ⟨xa, xc, rfl, hs5⟩; (have hP : Hid (Below w.heap.size w w5 ∧ Rows w5 1 xa xc (P.map chCells)) := ⟨bthen hb5.out hs5.be, hs5.rows⟩); clear hs5 cP)
              | (refine wpList_empty rfl 30 3 rfl iN Try.underlying30 hiN ?_; (have hgo : Hid (OwnL (w5.alloc (.cells #[] 3)) w.heap.size 3 1 (some ⟨w5.heap.size, 0, none⟩) 0 []) := own_empty w5 _ _ _ hP.out.1.size); (have hP : Hid (Below w.heap.size w (w5.alloc (.cells #[] 3)) ∧ Rows (w5.alloc (.cells #[] 3)) 1 xa xc (P.map chCells)) := ⟨bthen hP.out.1 (boxed _ _), hP.out.2.later (boxed _ _)⟩))
              | (at_builtin; (refine wpList_app rfl (.tmp 131) (.tmp 132) 30 rfl w.heap.size 3 iN _ 1 8 Try.underlying30 hiN hzN hsN hbN rfl (by decide) (some ⟨w5.heap.size, 0, none⟩) 0 [] rfl hgo.out xa xc (P.map chCells) (by rw [List.length_map]; rfl) hP.out.2 (len1u _) (one1all _) (by rw [List.length_map]; unfold maxLen; show 0 + _ ≤ _; omega) (by rw [List.length_map]; show (0 + _) * _ ≤ _; omega) hP.out.1.size ?_); intro va' vc' w6 ho2 hk2 hB2 hbl2; simp only [List.nil_append, List.length_map] at ho2 ⊢; (have hs6 : Hid (LsS w P va' vc' w6) := ⟨below_min hP.out.1 hP.out.1.size hB2, ho2⟩); clear ho2 hk2 hB2 hbl2 hgo hP)
              | (at_builtin; (refine wpList_app1 rfl (.tmp 133) (.tmp 135) 30 rfl w.heap.size 3 iN _ 1 8 Try.underlying30 hiN hzN hsN hbN rfl (by decide) va' vc' (P.map chCells) (by rw [List.length_map]; rfl) hs6.out.ow (chCells (i : Int)) rfl rfl (one1u _) (by rw [List.length_map]; unfold maxLen; omega) (by rw [List.length_map]; omega) hs6.out.be.size ?_); intro va7 vc7 w7 hg; rw [List.length_map]; (have hs7 : Hid (LsS w (P ++ [(i : Int)]) va7 vc7 w7) := hs6.out.grown hg); clear hg hs6)
              | (go_at_call 29; (with_reducible refine (cK _ _ _ hs7.out).mono ?_); rintro e w8 ⟨rfl, hb8⟩; (have hb9 : Hid (Below w.heap.size w w8) := bthen hs7.out.be hb8); clear hb8 cK)
              | (go_at_call 16; (with_reducible refine (cS _).mono ?_); rintro e w9 ⟨rfl, hb10⟩; (have hb11 : Hid (Below w.heap.size w w9) := bthen hb9.out hb10); clear hb10 cS))
            go_ret
            exact ⟨rfl, hb11.out⟩
          · have q1 : lookP l [i] 1 := .inr ⟨hckH.out, .inr ⟨by simp, ⟨i, by simp, hi⟩, rfl⟩⟩
            have cP : ∀ wx, Below w.heap.size w wx → Calls Try.prog 24 #[.slice la l.length lc, .int .i64 i] wx fun e w' => e = .returned (.tuple #[.slice none 0 0, .int .i64 1]) ∧ Below wx.heap.size wx w' := fun wx hb => past_err l la lc i wx (hlH.out.later hb) 1 q1
            have d1 : ∀ wx, Calls Try.prog 25 #[.slice la l.length lc, .int .i64 i] wx fun e w' => e = .returned (.bool false) ∧ w' = wx := fun wx => place_is l la lc i hlI false (decide_eq_false hi) wx
            clear q1 hi hBH hrtH hckH
            go_wp2_with (first
              | (go_at_call 28; (with_reducible refine (cL _ _ _ hs.out).mono ?_); rintro e w4 ⟨rfl, hb4⟩; (have hb5 : Hid (Below w.heap.size w w4) := bthen hs.out.be hb4); clear hb4 cL)
              | (go_at_call 24; (with_reducible refine (cP _ hb5.out).mono ?_); rintro e w5 ⟨rfl, hb6⟩; (have hb7 : Hid (Below w.heap.size w w5) := bthen hb5.out hb6); clear hb6 cP)
              | (go_at_call 25; (with_reducible refine (d1 _).mono ?_); rintro e w6 ⟨rfl, rfl⟩; clear d1)
              | (go_at_call 16; (with_reducible refine (cS _).mono ?_); rintro e w9 ⟨rfl, hb10⟩; (have hb11 : Hid (Below w.heap.size w w9) := bthen hb7.out hb10); clear hb10 cS))
            go_ret
            exact ⟨rfl, hb11.out⟩
abbrev IntsIn (w : World) (a : Option Addr) (cap : Nat) (l : List Int) : Prop := Rows w 1 a cap (l.map chCells)
section
variable {H : Type} {enc : TypeId × Value → H} {w : World} {base : Nat} {spare : Nat → Bool} {held : Bool}
theorem ints_sz {n : Nat} {a : Option Addr} {len cap : Nat} {y : DataW H × List MemPlace} (h : DataW.trod enc Try.prog w base spare held n 30 [.slice a len cap] = some y) (hs : Sz Try.prog 30 y.1) : ∃ l : List Int, l.length = len ∧ IntsIn w a cap l := by
  obtain ⟨l, rfl, h1, h2, h3⟩ := rows_sz (k := 1) 0 chCells I64 Try.underlying30 (by kernel_rfl) (by omega) (fun n cs y hl h _ => by
    match cs, hl, h with
    | [c0], _, h =>
      obtain ⟨z, rfl, b⟩ := int_in Try.underlying3 h
      exact ⟨z, rfl, b⟩) h hs
  exact ⟨l, rfl, h1⟩
end
theorem cuts_any (l : List Ev) (la : Option Addr) (lc : Nat) (ps : List Int) (pa : Option Addr) (pc : Nat) (i : Int) (w : World) (hl : EvsIn w la lc l) (hp : IntsIn w pa pc ps) (_ : (Lit.int .i64 i).wf = true) :
    Calls Try.prog 7 #[.slice la l.length lc, .slice pa ps.length pc, .int .i64 i] w fun e w' => e = .returned (.bool true) ∧ Below w.heap.size w w' := by
  rcases look_ex (l := l) ps with ⟨hc, h1, h2⟩ | ⟨c, hc⟩
  · obtain ⟨hlen, hrt⟩ : l.length ≤ 256 ∧ ∀ x ∈ l, rightP x := by rcases hc with ⟨_, q⟩ | ⟨_, _, q⟩ | ⟨a, b, _⟩ <;> first | exact ⟨a, b⟩ | omega
    exact cuts_ok l la lc ps pa pc i w hl.1 hp hc hlen hrt h1 h2
  · exact cuts_err l la lc ps pa pc i w hl.1 hp c hc
end Go.Proofs.Ytkhhkgfaakgdfaa.pg
/- OrderLists. -/
namespace Go.Proofs.Ytkhhkgfaakgdfaa.pg
open Go.ChangeShapes Go.WideShapes Go.ChangeAt Go.RowKit Go.Shelf
set_option linter.unusedVariables false
set_option linter.unusedSimpArgs false
set_option maxRecDepth 100000
attribute [local go_sem ↓] Go.wp_at_zero Go.wp_at_succ
set_option maxHeartbeats 1000000 in
theorem lists_err (l : List Ev) (la : Option Addr) (lc : Nat) (ps : List Int) (pa : Option Addr) (pc : Nat) (w : World) (hl : Rows w 26 la lc (l.map Ev.cells)) (hp : Rows w 1 pa pc (ps.map chCells)) (c : Int) (hc : checkP l c) (h7 : c = 2 ∨ c = 7) :
    Calls Try.prog 5 #[.slice la l.length lc, .slice pa ps.length pc] w fun e w' => e = .returned (.bool true) ∧ Below w.heap.size w w' := by
  have hlH : Hid (Rows w 26 la lc (l.map Ev.cells)) := hl
  have hpH : Hid (Rows w 1 pa pc (ps.map chCells)) := hp
  have c1 := linear_err l la lc ps pa pc w hl hp c (.inl ⟨hc, h7⟩)
  have c2 : ∀ wx, Below w.heap.size w wx → Calls Try.prog 29 #[.slice la l.length lc, .slice pa ps.length pc] wx fun e w' => e = .returned (.tuple #[.bool false, .int .i64 c]) ∧ Below wx.heap.size wx w' := fun wx hb => cut_err l la lc ps pa pc wx (hlH.out.later hb) (hpH.out.later hb) c (.inl ⟨hc, h7⟩)
  have c3 : ∀ wx, Below w.heap.size w wx → Calls Try.prog 30 #[.slice la l.length lc, .slice pa ps.length pc] wx fun e w' => e = .returned (.tuple #[.slice none 0 0, .int .i64 c]) ∧ Below wx.heap.size wx w' := fun wx hb => closed_err l la lc ps pa pc wx (hlH.out.later hb) (hpH.out.later hb) c (.inl ⟨hc, h7⟩)
  have cK : ∀ wx, Below w.heap.size w wx → Calls Try.prog 15 #[.slice la l.length lc] wx fun e w' => e = .returned (.int .i64 c) ∧ Below wx.heap.size wx w' := fun wx hb => rcheck_any l la lc wx (hlH.out.later hb) c hc
  have cS : ∀ wx, Calls Try.prog 16 #[] wx fun e w' => e = .returned (.bool true) ∧ Below wx.heap.size wx w' := fun wx => speaks12_any wx
  clear hl hc hp
  rcases h7 with rfl | rfl
  all_goals
    go_enter Try.func5, Try.ntmps5
    go_wp2_with (first
      | (go_at_call 28; (with_reducible refine c1.mono ?_); rintro e w1 ⟨rfl, hb1⟩; (have hB1 : Hid (Below w.heap.size w w1) := hb1); clear hb1 c1)
      | (go_at_call 29; (with_reducible refine (c2 _ hB1.out).mono ?_); rintro e w2 ⟨rfl, hb2⟩; (have hB2 : Hid (Below w.heap.size w w2) := bthen hB1.out hb2); clear hb2 c2)
      | (go_at_call 30; (with_reducible refine (c3 _ hB2.out).mono ?_); rintro e w3 ⟨rfl, hb3⟩; (have hB3 : Hid (Below w.heap.size w w3) := bthen hB2.out hb3); clear hb3 c3)
      | (go_at_call 15; (with_reducible refine (cK _ hB3.out).mono ?_); rintro e w4 ⟨rfl, hb4⟩; (have hB4 : Hid (Below w.heap.size w w4) := bthen hB3.out hb4); clear hb4 cK)
      | (go_at_call 16; (with_reducible refine (cS _).mono ?_); rintro e w5 ⟨rfl, hb5⟩; (have hB5 : Hid (Below w.heap.size w w5) := bthen hB4.out hb5); clear hb5 cS))
    go_ret
    exact ⟨rfl, hB5.out⟩
set_option maxHeartbeats 2000000 in
theorem lists_same (l : List Ev) (la : Option Addr) (lc : Nat) (ps : List Int) (pa : Option Addr) (pc : Nat) (w : World) (hl : Rows w 26 la lc (l.map Ev.cells)) (hck : checkP l 0) (a b : Bool) (e f g : Int) (c : List Int)
    (c1 : ∀ wx, Below w.heap.size w wx → Calls Try.prog 28 #[.slice la l.length lc, .slice pa ps.length pc] wx fun r w' => r = .returned (.tuple #[.bool a, .int .i64 e]) ∧ Below wx.heap.size wx w')
    (c2 : ∀ wx, Below w.heap.size w wx → Calls Try.prog 29 #[.slice la l.length lc, .slice pa ps.length pc] wx fun r w' => r = .returned (.tuple #[.bool b, .int .i64 f]) ∧ Below wx.heap.size wx w')
    (c3 : ∀ wx, Below w.heap.size w wx → Calls Try.prog 30 #[.slice la l.length lc, .slice pa ps.length pc] wx fun r w' => ∃ va vc, r = .returned (.tuple #[.slice va c.length vc, .int .i64 g]) ∧ LsS wx c va vc w')
    (d1 : ∀ wx, Below w.heap.size w wx → Calls Try.prog 31 #[.slice la l.length lc, .slice pa ps.length pc] wx fun r w' => r = .returned (.tuple #[.bool a, .int .i64 e]) ∧ Below wx.heap.size wx w')
    (d2 : ∀ wx, Below w.heap.size w wx → Calls Try.prog 32 #[.slice la l.length lc, .slice pa ps.length pc] wx fun r w' => r = .returned (.tuple #[.bool b, .int .i64 f]) ∧ Below wx.heap.size wx w')
    (d3 : ∀ wx, Below w.heap.size w wx → Calls Try.prog 33 #[.slice la l.length lc, .slice pa ps.length pc] wx fun r w' => ∃ va vc, r = .returned (.tuple #[.slice va c.length vc, .int .i64 g]) ∧ LsS wx c va vc w') :
    Calls Try.prog 5 #[.slice la l.length lc, .slice pa ps.length pc] w fun r w' => r = .returned (.bool true) ∧ Below w.heap.size w w' := by
  have hlH : Hid (Rows w 26 la lc (l.map Ev.cells)) := hl
  have c1' := c1 w (Below.refl _ _)
  have cK : ∀ wx, Below w.heap.size w wx → Calls Try.prog 15 #[.slice la l.length lc] wx fun e w' => e = .returned (.int .i64 0) ∧ Below wx.heap.size wx w' := fun wx hb => rcheck_any l la lc wx (hlH.out.later hb) 0 hck
  have cS : ∀ wx, Calls Try.prog 16 #[] wx fun e w' => e = .returned (.bool true) ∧ Below wx.heap.size wx w' := fun wx => speaks12_any wx
  have cI : ∀ va vc ua uc wx, Rows wx 1 va vc (c.map chCells) → Rows wx 1 ua uc (c.map chCells) → Calls Try.prog 19 #[.slice va c.length vc, .slice ua c.length uc] wx fun e w' => e = .returned (.bool true) ∧ Below wx.heap.size wx w' := fun va vc ua uc wx h1 h2 => sameInts_u c va ua vc uc wx h1 h2
  have haa : (a == a) = true := by simp
  have hbb : (b == b) = true := by simp
  have hee : (e == e) = true := by simp
  have hff : (f == f) = true := by simp
  have hgg : (g == g) = true := by simp
  clear hl hck c1
  go_enter Try.func5, Try.ntmps5
  go_wp2_with (first
    | (go_at_call 28; (with_reducible refine c1'.mono ?_); rintro e w1 ⟨rfl, hb1⟩; (have hB1 : Hid (Below w.heap.size w w1) := hb1); clear hb1 c1')
    | (go_at_call 29; (with_reducible refine (c2 _ hB1.out).mono ?_); rintro e w2 ⟨rfl, hb2⟩; (have hB2 : Hid (Below w.heap.size w w2) := bthen hB1.out hb2); clear hb2 c2)
    | (go_at_call 30; (with_reducible refine (c3 _ hB2.out).mono ?_); rintro e w3 ⟨va, vc, rfl, hs3⟩; (have hB3 : Hid (Below w.heap.size w w3 ∧ Rows w3 1 va vc (c.map chCells)) := ⟨bthen hB2.out hs3.be, hs3.rows⟩); clear hs3 c3)
    | (go_at_call 15; (with_reducible refine (cK _ hB3.out.1).mono ?_); rintro e w4 ⟨rfl, hb4⟩; (have hB4 : Hid (Below w.heap.size w w4 ∧ Rows w4 1 va vc (c.map chCells)) := ⟨bthen hB3.out.1 hb4, hB3.out.2.later hb4⟩); clear hb4 cK)
    | (go_at_call 16; (with_reducible refine (cS _).mono ?_); rintro e w5 ⟨rfl, hb5⟩; (have hB5 : Hid (Below w.heap.size w w5 ∧ Rows w5 1 va vc (c.map chCells)) := ⟨bthen hB4.out.1 hb5, hB4.out.2.later hb5⟩); clear hb5 cS)
    | (go_at_call 31; (with_reducible refine (d1 _ hB5.out.1).mono ?_); rintro e w6 ⟨rfl, hb6⟩; (have hB6 : Hid (Below w.heap.size w w6 ∧ Rows w6 1 va vc (c.map chCells)) := ⟨bthen hB5.out.1 hb6, hB5.out.2.later hb6⟩); clear hb6 d1)
    | (go_at_call 32; (with_reducible refine (d2 _ hB6.out.1).mono ?_); rintro e w7 ⟨rfl, hb7⟩; (have hB7 : Hid (Below w.heap.size w w7 ∧ Rows w7 1 va vc (c.map chCells)) := ⟨bthen hB6.out.1 hb7, hB6.out.2.later hb7⟩); clear hb7 d2)
    | (go_at_call 33; (with_reducible refine (d3 _ hB7.out.1).mono ?_); rintro e w8 ⟨ua, uc, rfl, hs8⟩; (have hB8 : Hid (Below w.heap.size w w8 ∧ Rows w8 1 va vc (c.map chCells) ∧ Rows w8 1 ua uc (c.map chCells)) := ⟨bthen hB7.out.1 hs8.be, hB7.out.2.later hs8.be, hs8.rows⟩); clear hs8 d3)
    | (go_at_call 19; (with_reducible refine (cI _ _ _ _ _ hB8.out.2.1 hB8.out.2.2).mono ?_); rintro e w9 ⟨rfl, hb9⟩; (have hB9 : Hid (Below w.heap.size w w9) := bthen hB8.out.1 hb9); clear hb9 cI))
  go_ret
  exact ⟨rfl, hB9.out⟩
theorem ls_nil (w w' : World) (h : Below w.heap.size w w') : LsS w [] none 0 w' := ⟨h, own_nil_q _ _ _ _⟩
/-- Places that are wrong are wrong to both. -/
theorem lookP_pl {l : List Ev} {ps : List Int} {c : Int} (hck : checkP l 0) (hc : lookP l ps c) : (c = 2 ∨ c = 1) ∧ ∀ al, plR l.length ps al c := by
  rcases hc with ⟨h1, h2⟩ | ⟨_, ⟨h1, rfl⟩ | ⟨h1, ⟨p, hp, h2⟩, rfl⟩⟩
  · exfalso
    rcases hck with ⟨_, q⟩ | ⟨_, _, q⟩ | ⟨a, b, _⟩
    · omega
    · omega
    · rcases h1 with ⟨q, _⟩ | ⟨_, q, _⟩ | ⟨_, _, q⟩
      · omega
      · obtain ⟨x, hx, hq⟩ := q; exact hq (b x hx)
      · omega
  · exact ⟨.inl rfl, fun al => .inl ⟨h1, rfl⟩⟩
  · refine ⟨.inr rfl, fun al => .inr (.inl ⟨h1, .inl ?_, rfl⟩)⟩
    obtain ⟨j, hj, e⟩ := List.mem_iff_getElem.mp hp
    exact ⟨j, p, by rw [List.getElem?_eq_getElem hj, e], .inl h2⟩
theorem lists_any (l : List Ev) (la : Option Addr) (lc : Nat) (ps : List Int) (pa : Option Addr) (pc : Nat) (w : World) (hl : EvsIn w la lc l) (hp : IntsIn w pa pc ps) :
    Calls Try.prog 5 #[.slice la l.length lc, .slice pa ps.length pc] w fun e w' => e = .returned (.bool true) ∧ Below w.heap.size w w' := by
  obtain ⟨c0, hc0⟩ := check_ex l
  by_cases h0 : c0 = 0
  · subst h0
    obtain ⟨hlen, hrt⟩ : l.length ≤ 256 ∧ ∀ x ∈ l, rightP x := by rcases hc0 with ⟨_, q⟩ | ⟨_, _, q⟩ | ⟨a, b, _⟩ <;> first | exact ⟨a, b⟩ | omega
    rcases look_ex (l := l) ps with ⟨_, hps, hin⟩ | ⟨c, hc⟩
    · obtain ⟨B, hB⟩ := tells_some (dpf l)
      have hf := cloB_lt hB (fOf_lt hin)
      have hL : lst (cloB B l.length (fOf ps)) 256 = lst (cloB B l.length (fOf ps)) l.length := lst_cut 256 hlen fun k h _ => by
        rw [Bool.eq_false_iff]; intro q; have := hf k q; omega
      have hCs := cut_same hlen hf fun k h => (cloB_iff B l.length (fOf ps) k).mpr (.inl h)
      have k3 := fun wx (hb : Below w.heap.size w wx) => closed_ok l la lc ps pa pc wx (hl.1.later hb) (hp.later hb) hlen hrt hps hin hB
      have e3 := fun wx (hb : Below w.heap.size w wx) => rclo_ok l la lc ps pa pc wx (hl.1.later hb) hlen (hp.later hb) (plR_in hps hlen hin) hin hB (cloB B l.length (fOf ps)) (inTo_end hin B)
      have k2 := fun wx (hb : Below w.heap.size w wx) => cut_ok l la lc ps pa pc wx (hl.1.later hb) (hp.later hb) hlen hrt hps hin hB _ (rfl : _ = _)
      have hcl := lst_len (cloB B l.length (fOf ps)) l.length
      rw [hL] at k3
      rw [hCs] at k2
      generalize lst (cloB B l.length (fOf ps)) l.length = c at *
      have e2 := fun wx (hb : Below w.heap.size w wx) => rcut_ok l la lc ps pa pc wx (hp.later hb) c (by omega) (e3 wx hb) _ (rfl : _ = _)
      by_cases hn : ps.length ≠ l.length ∨ (lst (fOf ps) 256).length ≠ l.length
      · have k1 := fun wx (hb : Below w.heap.size w wx) => linear_bad l la lc ps pa pc wx (hl.1.later hb) (hp.later hb) hlen hrt hps hin hn
        have e1 := fun wx (hb : Below w.heap.size w wx) => rlin_err l la lc ps pa pc wx hlen (hp.later hb) 1 (plR_lin1 hps hlen hin hn) (.inr rfl)
        exact lists_same l la lc ps pa pc w hl.1 hc0 _ _ _ _ _ c k1 k2 k3 e1 e2 e3
      · have h1 : ps.length = l.length := by omega
        have h2 : (lst (fOf ps) 256).length = l.length := by omega
        have k1 := fun wx (hb : Below w.heap.size w wx) => linear_ok l la lc ps pa pc wx (hl.1.later hb) (hp.later hb) hlen hrt hps hin h1 h2 _ (rfl : _ = _)
        have e1 := fun wx (hb : Below w.heap.size w wx) => rlin_ok l la lc ps pa pc wx (hl.1.later hb) hlen (hp.later hb) (plR_lin0 hps hlen hin h1 h2) hin hB _ (lin_same hps hlen hin hB (edges_mem hrt hB) h1 h2)
        exact lists_same l la lc ps pa pc w hl.1 hc0 _ _ _ _ _ c k1 k2 k3 e1 e2 e3
    · obtain ⟨h1, h2⟩ := lookP_pl hc0 hc
      refine lists_same l la lc ps pa pc w hl.1 hc0 false false c c c [] (fun wx hb => ?_) (fun wx hb => ?_) (fun wx hb => ?_) (fun wx hb => ?_) (fun wx hb => ?_) (fun wx hb => ?_)
      · exact linear_err l la lc ps pa pc wx (hl.1.later hb) (hp.later hb) c hc
      · exact cut_err l la lc ps pa pc wx (hl.1.later hb) (hp.later hb) c hc
      · exact (closed_err l la lc ps pa pc wx (hl.1.later hb) (hp.later hb) c hc).mono fun e w' h => ⟨none, 0, h.1, ls_nil _ _ h.2⟩
      · exact rlin_err l la lc ps pa pc wx hlen (hp.later hb) c (h2 true) h1
      · exact rcut_err l la lc ps pa pc wx hlen (hp.later hb) c (h2 false) h1
      · exact (rclo_err l la lc ps pa pc wx hlen (hp.later hb) c (h2 false) h1).mono fun e w' h => ⟨none, 0, h.1, ls_nil _ _ h.2⟩
  · have h7 : c0 = 2 ∨ c0 = 7 := by rcases hc0 with ⟨_, q⟩ | ⟨_, _, q⟩ | ⟨_, _, q⟩ <;> omega
    exact lists_err l la lc ps pa pc w hl.1 hp c0 hc0 h7
end Go.Proofs.Ytkhhkgfaakgdfaa.pg
