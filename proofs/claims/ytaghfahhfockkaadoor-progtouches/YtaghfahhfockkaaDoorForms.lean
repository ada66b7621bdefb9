/- The table of forms that package prog lays, as its row lists it; the contracts of prog.Form, Local, Visible, word.Arity and the document's own. -/
import Derived.Test.YtaghfahhfockkaaDoorRows
import Derived.WalkKit
import Derived.ProofKit
import Derived.OpenShut
import Derived.WalkSpells
import Derived.WalkLawsBesides
import Derived.Lib.LaidTab
namespace Go.Proofs.YtaghfahhfockkaaDoor.prog
open Go.ChangeShapes Go.WideShapes Go.ChangeAt Go.RowKit
set_option linter.unusedVariables false
theorem cells_of_strs {H : Type} {enc : TypeId × Value → H} {P : Program} {w : World} {base : Nat} {sp : Nat → Bool} {held : Bool} {fuel : Nat} {t e : TypeId} {n : Nat} {cs : List Value} {ss : List (List UInt8)} {p : List MemPlace}
    (ht : P.underlying t = some (.array n e)) (he : P.underlying e = some .string) (hce : P.cellsOf e = 1) (hct : P.cellsOf t = n)
    (h : DataW.trod enc P w base sp held fuel t cs = some (.agg (ss.map fun s => .lit (.string s)), p)) : cs = ss.map fun s => Value.string ⟨s.toArray⟩ := by
  cases fuel with
  | zero => simp [DataW.trod] at h
  | succ fuel =>
    simp only [DataW.trod, ht, hce, hct, Nat.mul_one] at h
    split at h
    · rename_i hl
      obtain ⟨xs, hm, hx⟩ := Option.map_eq_some_iff.1 h
      have hxs : xs.map (·.1) = ss.map fun s => (DataW.lit (.string s) : DataW H) := by
        have := congrArg Prod.fst hx
        simpa using this
      have hxl : xs.length = n := by simpa using Lib.mapM_length hm
      have hzl : ss.length = n := by
        have := congrArg List.length hxs
        simp at this
        omega
      apply List.ext_getElem?
      intro i
      by_cases hi : i < n
      · obtain ⟨b, hb, hf⟩ := Lib.mapM_at hm i i (by simp [hi])
        obtain ⟨z, hc, rfl, _⟩ := DataW.trod_string he hf
        have h1 : cs[i]? = some (.string z) := by
          have := congrArg (·[0]?) hc
          simpa [List.getElem?_take, List.getElem?_drop] using this
        have h2 : (xs.map (·.1))[i]? = some (DataW.lit (.string z.data.toList) : DataW H) := by simp [hb]
        rw [hxs] at h2
        simp only [List.getElem?_map, Option.map_eq_some_iff, DataW.lit.injEq, Lit.string.injEq] at h2
        obtain ⟨z', hz', rfl⟩ := h2
        simp [h1, hz']
      · rw [List.getElem?_eq_none (by omega), List.getElem?_eq_none (by simp; omega)]
    · cases h
/-- The forms, at each operation's number. -/
def tab : List (List UInt8) := [[], [], [], [], [], [], [], [], [], [], [], [], [], [], [], [], [], [], [], [], [], [], [], [], [], [], [], [], [], [], [], [], [], [], [], [], [], [], [], [], [114, 45, 45, 110], [114, 114, 45, 45], [116, 45, 45, 45], [114, 116, 45, 45], [114, 45, 45, 110], [45, 45, 45, 45], [], [], [], [], [114, 118, 45, 45], [118, 114, 45, 45], [111, 97, 114, 45], [114, 97, 114, 119], [97, 114, 45, 45], [108, 45, 45, 45], [108, 45, 45, 45], [114, 108, 45, 45], [99, 114, 45, 45], [111, 99, 111, 45], [99, 45, 45, 45], [115, 45, 45, 45], [111, 102, 112, 45], [114, 45, 45, 45], [45, 45, 45, 45], [114, 45, 45, 110]]
/-- The variable holds the table. -/
def Forms (w : World) : Prop := ∀ i, i < 66 → w.cell? ⟨0, i, none⟩ = some (.string ⟨(tab.getD i []).toArray⟩)
theorem Forms.later {w w' : World} (h : Forms w) (hb : Below w.heap.size w w') : Forms w' := fun i hi => cell_later hb (h i hi)
theorem gForms : Tryd.prog.globalNamed "scarab/prog.forms" = some 0 := by kernel_rfl
theorem forms_of {rest : List (String × DataW Unit)} {W : World} {t : TypeId} (hty : (Tryd.prog.globals[0]?).map (·.type) = some t) (ht : Tryd.prog.underlying t = some (.array 66 9)) (hct : Tryd.prog.cellsOf t = 66)
    (h : laidMet Tryd.prog (("scarab/prog.forms", .agg (tab.map fun s => .lit (.string s))) :: rest) W) : Forms W := by
  obtain ⟨ps, ⟨g', t', cs, fuel, p, q, hg', ht', hvar, hd, _, _⟩, _⟩ := h
  obtain rfl := Option.some.inj (gForms.symm.trans hg')
  obtain rfl := Option.some.inj (hty.symm.trans ht')
  have hcs := cells_of_strs ht Tryd.underlying9 (by kernel_rfl) hct hd
  intro i hi
  have := World.var?_cell gForms hvar i
  rw [this, ← Array.getElem?_toList, hcs]
  have hl : i < tab.length := hi
  simp [hl, List.getD]
/-- The form of an operation. -/
def frm (op : Int) : ByteArray := if op < 0 then ⟨#[]⟩ else if 1 ≤ op ∧ op ≤ 15 then ⟨#[114, 114, 45, 45]⟩ else if 16 ≤ op ∧ op ≤ 36 then ⟨#[114, 114, 114, 45]⟩ else if op < 66 then ⟨(tab.getD op.toNat []).toArray⟩ else ⟨#[]⟩
theorem arity_any (op : Int) (h1 : -9223372036854775808 ≤ op) (h2 : op ≤ 9223372036854775807) (w : World) (r : Int) (hr : (if 1 ≤ op ∧ op ≤ 15 then 1 else if 16 ≤ op ∧ op ≤ 36 then 2 else 0 : Int) = r) :
    Calls Tryd.prog 24 #[.int .i64 op] w fun e w' => e = .returned (.int .i64 r) ∧ w' = w := by
  by_cases ha : 1 ≤ op ∧ op ≤ 15
  · rw [if_pos ha] at hr; subst hr
    obtain ⟨ha, hb⟩ := ha
    go_enter Tryd.func24, Tryd.ntmps24
    go_wp2
    go_ret
    exact ⟨rfl, rfl⟩
  · rw [if_neg ha] at hr
    by_cases hb : 16 ≤ op ∧ op ≤ 36
    · rw [if_pos hb] at hr; subst hr
      obtain ⟨hb, hc⟩ := hb
      clear ha
      go_enter Tryd.func24, Tryd.ntmps24
      go_wp2
      go_ret
      exact ⟨rfl, rfl⟩
    · rw [if_neg hb] at hr; subst hr
      by_cases h0 : op < 1
      · clear ha hb
        go_enter Tryd.func24, Tryd.ntmps24
        go_wp2
        go_ret
        exact ⟨rfl, rfl⟩
      · have h3 : 36 < op := by omega
        clear ha hb
        go_enter Tryd.func24, Tryd.ntmps24
        go_wp2
        go_ret
        exact ⟨rfl, rfl⟩
theorem form_any (op : Int) (h1 : -9223372036854775808 ≤ op) (h2 : op ≤ 9223372036854775807) (w : World) (hF : Forms w) (B : ByteArray) (hB : frm op = B) :
    Calls Tryd.prog 13 #[.int .i64 op] w fun e w' => e = .returned (.string B) ∧ w' = w := by
  have cA := fun w => arity_any op h1 h2 w _ rfl
  unfold frm at hB
  by_cases ha : 1 ≤ op ∧ op ≤ 15
  · rw [if_neg (by omega), if_pos ha] at hB; subst hB
    simp only [if_pos ha] at cA
    clear hF
    go_enter Tryd.func13, Tryd.ntmps13
    go_wp2_with (go_at_call 24; with_reducible refine (cA _).mono ?_; rintro e w' ⟨rfl, hw⟩; replace hw := hw.symm; subst hw)
    go_ret
    exact ⟨rfl, rfl⟩
  · simp only [if_neg ha] at cA
    rw [if_neg ha] at hB
    by_cases hb : 16 ≤ op ∧ op ≤ 36
    · rw [if_neg (by omega), if_pos hb] at hB; subst hB
      simp only [if_pos hb] at cA
      clear hF
      go_enter Tryd.func13, Tryd.ntmps13
      go_wp2_with (go_at_call 24; with_reducible refine (cA _).mono ?_; rintro e w' ⟨rfl, hw⟩; replace hw := hw.symm; subst hw)
      go_ret
      exact ⟨rfl, rfl⟩
    · simp only [if_neg hb] at cA
      rw [if_neg hb] at hB
      by_cases hc : op < 0
      · rw [if_pos hc] at hB; subst hB
        clear hF ha hb
        go_enter Tryd.func13, Tryd.ntmps13
        go_wp2_with (go_at_call 24; with_reducible refine (cA _).mono ?_; rintro e w' ⟨rfl, hw⟩; replace hw := hw.symm; subst hw)
        go_ret
        exact ⟨rfl, rfl⟩
      · rw [if_neg hc] at hB
        by_cases hd : op < 66
        · rw [if_pos hd] at hB; subst hB
          have hcell := hF op.toNat (by omega)
          have h0 : 0 ≤ op := by omega
          generalize (⟨(tab.getD op.toNat []).toArray⟩ : ByteArray) = B at *
          clear hF ha hb hc
          go_enter Tryd.func13, Tryd.ntmps13
          go_wp2_with (go_at_call 24; with_reducible refine (cA _).mono ?_; rintro e w' ⟨rfl, hw⟩; replace hw := hw.symm; subst hw)
          go_ret
          exact ⟨rfl, rfl⟩
        · rw [if_neg hd] at hB; subst hB
          have h0 : 66 ≤ op := by omega
          clear hF ha hb hc hd
          go_enter Tryd.func13, Tryd.ntmps13
          go_wp2_with (go_at_call 24; with_reducible refine (cA _).mono ?_; rintro e w' ⟨rfl, hw⟩; replace hw := hw.symm; subst hw)
          go_ret
          exact ⟨rfl, rfl⟩
set_option maxHeartbeats 4000000 in
theorem refform_any (op : Int) (h1 : -9223372036854775808 ≤ op) (h2 : op ≤ 9223372036854775807) (w : World) (B : ByteArray) (hB : frm op = B) :
    Calls Tryd.prog 66 #[.int .i64 op] w fun e w' => e = .returned (.string B) ∧ w' = w := by
  by_cases ha : 1 ≤ op ∧ op ≤ 15
  · unfold frm at hB
    rw [if_neg (by omega), if_pos ha] at hB; subst hB
    obtain ⟨ha, hb⟩ := ha
    go_enter Tryd.func66, Tryd.ntmps66
    go_wp2
    go_ret
    exact ⟨rfl, rfl⟩
  · by_cases hb : 16 ≤ op ∧ op ≤ 36
    · unfold frm at hB
      rw [if_neg (by omega), if_neg ha, if_pos hb] at hB; subst hB
      obtain ⟨hb, hc⟩ := hb
      clear ha
      go_enter Tryd.func66, Tryd.ntmps66
      go_wp2
      go_ret
      exact ⟨rfl, rfl⟩
    · by_cases hd : 37 ≤ op ∧ op ≤ 65
      · rcases (by omega : op = 37 ∨ op = 38 ∨ op = 39 ∨ op = 40 ∨ op = 41 ∨ op = 42 ∨ op = 43 ∨ op = 44 ∨ op = 45 ∨ op = 46 ∨ op = 47 ∨ op = 48 ∨ op = 49 ∨ op = 50 ∨ op = 51 ∨ op = 52 ∨ op = 53 ∨ op = 54 ∨ op = 55 ∨ op = 56 ∨ op = 57 ∨ op = 58 ∨ op = 59 ∨ op = 60 ∨ op = 61 ∨ op = 62 ∨ op = 63 ∨ op = 64 ∨ op = 65) with rfl | rfl | rfl | rfl | rfl | rfl | rfl | rfl | rfl | rfl | rfl | rfl | rfl | rfl | rfl | rfl | rfl | rfl | rfl | rfl | rfl | rfl | rfl | rfl | rfl | rfl | rfl | rfl | rfl
        all_goals
          subst hB
          clear ha hb hd h1 h2
          go_enter Tryd.func66, Tryd.ntmps66
          go_wp2
          go_ret
          exact ⟨rfl, rfl⟩
      · have hB2 : (⟨#[]⟩ : ByteArray) = B := by
          rw [← hB]; unfold frm
          by_cases h0 : op < 0
          · rw [if_pos h0]
          · rw [if_neg h0, if_neg ha, if_neg hb]
            by_cases h6 : op < 66
            · have : op = 0 := by omega
              subst this; rfl
            · rw [if_neg h6]
        subst hB2
        by_cases h0 : op < 1
        · clear ha hb hd hB
          go_enter Tryd.func66, Tryd.ntmps66
          go_wp2
          go_ret
          exact ⟨rfl, rfl⟩
        · have h3 : 65 < op := by omega
          clear ha hb hd hB h0
          go_enter Tryd.func66, Tryd.ntmps66
          go_wp2
          go_ret
          exact ⟨rfl, rfl⟩
/-- Local, visible. -/
def loc (op : Int) : Bool := decide ((1 ≤ op ∧ op ≤ 36) ∨ (40 ≤ op ∧ op ≤ 45))
def vis (op : Int) : Bool := decide (50 ≤ op ∧ op ≤ 65)
theorem frm_empty (op : Int) : ((frm op).toList == []) = !(loc op || vis op) := by
  by_cases hd : 37 ≤ op ∧ op ≤ 65
  · rcases (by omega : op = 37 ∨ op = 38 ∨ op = 39 ∨ op = 40 ∨ op = 41 ∨ op = 42 ∨ op = 43 ∨ op = 44 ∨ op = 45 ∨ op = 46 ∨ op = 47 ∨ op = 48 ∨ op = 49 ∨ op = 50 ∨ op = 51 ∨ op = 52 ∨ op = 53 ∨ op = 54 ∨ op = 55 ∨ op = 56 ∨ op = 57 ∨ op = 58 ∨ op = 59 ∨ op = 60 ∨ op = 61 ∨ op = 62 ∨ op = 63 ∨ op = 64 ∨ op = 65) with rfl | rfl | rfl | rfl | rfl | rfl | rfl | rfl | rfl | rfl | rfl | rfl | rfl | rfl | rfl | rfl | rfl | rfl | rfl | rfl | rfl | rfl | rfl | rfl | rfl | rfl | rfl | rfl | rfl <;> rw [ByteArray.toList_eq] <;> rfl
  · by_cases ha : 1 ≤ op ∧ op ≤ 15
    · unfold frm loc; rw [if_neg (by omega), if_pos ha, decide_eq_true (by omega), ByteArray.toList_eq]; rfl
    · by_cases hb : 16 ≤ op ∧ op ≤ 36
      · unfold frm loc; rw [if_neg (by omega), if_neg ha, if_pos hb, decide_eq_true (by omega), ByteArray.toList_eq]; rfl
      · have e : frm op = ⟨#[]⟩ := by
          unfold frm
          by_cases h0 : op < 0
          · rw [if_pos h0]
          · rw [if_neg h0, if_neg ha, if_neg hb]
            by_cases h6 : op < 66
            · have : op = 0 := by omega
              subst this; rfl
            · rw [if_neg h6]
        unfold loc vis
        rw [e, decide_eq_false (by omega), decide_eq_false (by omega), ByteArray.toList_eq]; rfl
theorem ret_bool {a b : Bool} (h : a = b) : Ending.returned (.bool a) = .returned (.bool b) := by rw [h]
theorem reflocal_any (op : Int) (h1 : -9223372036854775808 ≤ op) (h2 : op ≤ 9223372036854775807) (w : World) (r : Bool) (hr : loc op = r) :
    Calls Tryd.prog 64 #[.int .i64 op] w fun e w' => e = .returned (.bool r) ∧ w' = w := by
  subst hr
  rcases (by omega : op < 1 ∨ (1 ≤ op ∧ op ≤ 36) ∨ (36 < op ∧ op < 40) ∨ (40 ≤ op ∧ op ≤ 45) ∨ 45 < op) with h | h | h | h | h
  all_goals
    first | rw [show loc op = true from decide_eq_true (by omega)] | rw [show loc op = false from decide_eq_false (by omega)]
    go_enter Tryd.func64, Tryd.ntmps64
    go_wp2
    go_ret
    exact ⟨ret_bool (by first | rfl | (simp <;> omega)), rfl⟩
theorem refvisible_any (op : Int) (h1 : -9223372036854775808 ≤ op) (h2 : op ≤ 9223372036854775807) (w : World) (r : Bool) (hr : vis op = r) :
    Calls Tryd.prog 65 #[.int .i64 op] w fun e w' => e = .returned (.bool r) ∧ w' = w := by
  subst hr
  rcases (by omega : op < 50 ∨ (50 ≤ op ∧ op ≤ 65) ∨ 65 < op) with h | h | h
  all_goals
    first | rw [show vis op = true from decide_eq_true (by omega)] | rw [show vis op = false from decide_eq_false (by omega)]
    go_enter Tryd.func65, Tryd.ntmps65
    go_wp2
    go_ret
    exact ⟨ret_bool (by first | rfl | (simp <;> omega)), rfl⟩
end Go.Proofs.YtaghfahhfockkaaDoor.prog
