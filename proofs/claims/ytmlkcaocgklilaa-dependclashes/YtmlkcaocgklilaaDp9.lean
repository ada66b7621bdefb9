/- Clash of package depend, of any lists; DependClashes, walked. -/
import Derived.Test.YtmlkcaocgklilaaMt1
import Derived.Test.YtmlkcaocgklilaaDp7
namespace Go.Proofs.Ytmlkcaocgklilaa.pg
open Go.ChangeShapes Go.WideShapes Go.ChangeAt Go.RowKit
set_option linter.unusedVariables false
set_option linter.unusedSimpArgs false
set_option maxRecDepth 100000
attribute [local go_sem ↓] Go.wp_at_zero Go.wp_at_succ
/-- A list of accesses that came in. -/
def AccsIn (w : World) (b : Option Addr) (c : Nat) (l : List Acc) : Prop := Rows w 3 b c (l.map Acc.cells) ∧ (∀ x ∈ l, x.wf) ∧ l.length * 24 ≤ reachBytes
section
variable {H : Type} {enc : TypeId × Value → H} {w : World} {base : Nat} {spare : Nat → Bool} {held : Bool}
theorem accs_sz {n : Nat} {a : Option Addr} {len cap : Nat} {y : DataW H × List MemPlace} (h : DataW.trod enc Try.prog w base spare held n 39 [.slice a len cap] = some y) (hs : Sz Try.prog 39 y.1) : ∃ l : List Acc, l.length = len ∧ AccsIn w a cap l := by
  obtain ⟨l, rfl, h1, h2, h3⟩ := rows_sz (k := 3) ⟨0, 0, false⟩ Acc.cells Acc.wf Try.underlying39 (by kernel_rfl) (by omega) (fun n cs y hl h _ => acc_in hl h) h hs
  have hb : Try.prog.bytesOf 44 = 24 := by kernel_rfl
  rw [hb] at h3
  exact ⟨l, rfl, h1, h2, h3⟩
end
theorem clash_any (a b : List Acc) (aa ba : Option Addr) (ac bc : Nat) (w : World) (ha : AccsIn w aa ac a) (hb : AccsIn w ba bc b) (R : Bool) (hR : Hid (R = clash a b)) :
    Calls Try.prog 9 #[.slice aa a.length ac, .slice ba b.length bc] w fun e w' => e = .returned (.bool R) ∧ Below w.heap.size w w' := by
  by_cases hs : a.length ≤ 24 ∨ b.length ≤ 24
  · exact clash_short a b aa ba ac bc w ha.1 hb.1 hs R hR
  · have la := rows_len ha.1
    have lb := rows_len hb.1
    have hmin : (24 : Int) < min (a.length : Int) (b.length : Int) := by rw [Int.lt_min]; omega
    have h3 := ha.2.2
    have c1 : Calls Try.prog 14 #[.slice aa a.length ac, .slice ba b.length bc] w _ := meet_any a b aa ba ac bc w ha.1 hb.1 ha.2.1 hb.2.1 (by unfold reachBytes at h3; unfold maxLen; omega) R hR
    clear ha hb hs h3
    go_enter Try.func9, Try.ntmps9
    go_wp2
    go_step3
    go_wp2_with (go_at_call 14; (with_reducible refine c1.mono ?_); rintro e w1 ⟨rfl, hb1⟩)
    rw [Exit.noGoto_ret]
    go_ret
    exact ⟨rfl, hb1⟩
theorem clashes_any (a : List Acc) (aa : Option Addr) (ac : Nat) (b : List Acc) (ba : Option Addr) (bc : Nat) (w : World) (ha : AccsIn w aa ac a) (hb : AccsIn w ba bc b) :
    Calls Try.prog 4 #[.slice aa a.length ac, .slice ba b.length bc] w fun e w' => e = .returned (.bool true) ∧ Below w.heap.size w w' := by
  obtain ⟨R, hR⟩ : ∃ R, Hid (R = clash a b) := ⟨_, rfl⟩
  have c1 : Calls Try.prog 9 #[.slice aa a.length ac, .slice ba b.length bc] w _ := clash_any a b aa ba ac bc w ha hb R hR
  have c2 : ∀ wx, Below w.heap.size w wx → Calls Try.prog 10 #[.slice aa a.length ac, .slice ba b.length bc] wx _ := fun wx h => rclash_any a b aa ba ac bc wx (ha.1.later h) (hb.1.later h) R hR
  have c3 : ∀ wx, Calls Try.prog 11 #[] wx _ := fun wx => speaks_any wx
  clear ha hb hR
  cases R
  all_goals
    go_enter Try.func4, Try.ntmps4
    go_wp2_with (first
      | (go_at_call 9; (with_reducible refine c1.mono ?_); rintro e w1 ⟨rfl, hb1⟩)
      | (go_at_call 10; (with_reducible refine (c2 _ hb1).mono ?_); rintro e w2 ⟨rfl, n2, rfl⟩; (have hb2 := below_drewN hb1 n2))
      | (go_at_call 11; (with_reducible refine (c3 _).mono ?_); rintro e w3 ⟨rfl, hb3⟩))
    go_ret
    exact ⟨rfl, bthen hb2 hb3⟩
end Go.Proofs.Ytmlkcaocgklilaa.pg
