/- The table of forms that package prog lays, as its row lists it; the contracts of prog.Form, Local, Visible, word.Arity and the document's own. -/
import Derived.Test.YtafefnkgdnmjbaaGreatDoorRows
import Derived.WalkKit
import Derived.ProofKit
import Derived.OpenShut
import Derived.WalkSpells
import Derived.WalkLawsBesides
import Derived.Lib.LaidTab
import Derived.Test.YtafefnkgdnmjbaaGreatDoorM1
import Derived.Test.YtafefnkgdnmjbaaGreatDoorM26
import Derived.Handy
import Derived.Deep.QuietTactic
import Derived.BigQuiet
namespace Go.Proofs.YtafefnkgdnmjbaaGreatDoor.prog
open Go.ChangeShapes Go.WideShapes Go.ChangeAt Go.RowKit
set_option linter.unusedVariables false
theorem cells_of_strs {H : Type} {enc : TypeId × Value → H} {P : Program} {w : World} {base : Nat} {sp : Nat → Bool} {held : Bool} {fuel : Nat} {t e : TypeId} {n : Nat} {cs : List Value} {ss : List (List UInt8)} {p : List MemPlace}
    (ht : P.underlying t = some (.array n e)) (he : P.underlying e = some .string) (hce : P.cellsOf e = 1) (hct : P.cellsOf t = n)
    (h : DataW.trod enc P w base sp held fuel t cs = some (.agg (ss.map fun s => .lit (.string s)), p)) : cs = ss.map fun s => Value.string ⟨s.toArray⟩ := by
  cases fuel with
  | zero => simp [DataW.trod] at h
  | succ fuel =>
    simp only [DataW.trod, ht, hce, hct, Nat.mul_one] at h
    split at h
    · rename_i hl
      obtain ⟨xs, hm, hx⟩ := Option.map_eq_some_iff.1 h
      have hxs : xs.map (·.1) = ss.map fun s => (DataW.lit (.string s) : DataW H) := by
        have := congrArg Prod.fst hx
        simpa using this
      have hxl : xs.length = n := by simpa using Lib.mapM_length hm
      have hzl : ss.length = n := by
        have := congrArg List.length hxs
        simp at this
        omega
      apply List.ext_getElem?
      intro i
      by_cases hi : i < n
      · obtain ⟨b, hb, hf⟩ := Lib.mapM_at hm i i (by simp [hi])
        obtain ⟨z, hc, rfl, _⟩ := DataW.trod_string he hf
        have h1 : cs[i]? = some (.string z) := by
          have := congrArg (·[0]?) hc
          simpa [List.getElem?_take, List.getElem?_drop] using this
        have h2 : (xs.map (·.1))[i]? = some (DataW.lit (.string z.data.toList) : DataW H) := by simp [hb]
        rw [hxs] at h2
        simp only [List.getElem?_map, Option.map_eq_some_iff, DataW.lit.injEq, Lit.string.injEq] at h2
        obtain ⟨z', hz', rfl⟩ := h2
        simp [h1, hz']
      · rw [List.getElem?_eq_none (by omega), List.getElem?_eq_none (by simp; omega)]
    · cases h
/-- The forms, at each operation's number. -/
def tab : List (List UInt8) := [[], [], [], [], [], [], [], [], [], [], [], [], [], [], [], [], [], [], [], [], [], [], [], [], [], [], [], [], [], [], [], [], [], [], [], [], [], [], [], [], [114, 45, 45, 110], [114, 114, 45, 45], [116, 45, 45, 45], [114, 116, 45, 45], [114, 45, 45, 110], [45, 45, 45, 45], [], [], [], [], [114, 118, 45, 45], [118, 114, 45, 45], [111, 97, 114, 45], [114, 97, 114, 119], [97, 114, 45, 45], [108, 45, 45, 45], [108, 45, 45, 45], [114, 108, 45, 45], [99, 114, 45, 45], [111, 99, 111, 45], [99, 45, 45, 45], [115, 45, 45, 45], [111, 102, 112, 45], [114, 45, 45, 45], [45, 45, 45, 45], [114, 45, 45, 110]]
/-- The variable holds the table. -/
def Forms (w : World) : Prop := ∀ i, i < 66 → w.cell? ⟨0, i, none⟩ = some (.string ⟨(tab.getD i []).toArray⟩)
theorem Forms.later {w w' : World} (h : Forms w) (hb : Below w.heap.size w w') : Forms w' := fun i hi => cell_later hb (h i hi)
theorem gForms : Tryz.prog.globalNamed "scarab/prog.forms" = some 0 := by kernel_rfl
theorem forms_of {rest : List (String × DataW Unit)} {W : World} {t : TypeId} (hty : (Tryz.prog.globals[0]?).map (·.type) = some t) (ht : Tryz.prog.underlying t = some (.array 66 9)) (hct : Tryz.prog.cellsOf t = 66)
    (h : laidMet Tryz.prog (("scarab/prog.forms", .agg (tab.map fun s => .lit (.string s))) :: rest) W) : Forms W := by
  obtain ⟨ps, ⟨g', t', cs, fuel, p, q, hg', ht', hvar, hd, _, _⟩, _⟩ := h
  obtain rfl := Option.some.inj (gForms.symm.trans hg')
  obtain rfl := Option.some.inj (hty.symm.trans ht')
  have hcs := cells_of_strs ht Tryz.underlying9 (by kernel_rfl) hct hd
  intro i hi
  have := World.var?_cell gForms hvar i
  rw [this, ← Array.getElem?_toList, hcs]
  have hl : i < tab.length := hi
  simp [hl, List.getD]
/-- The form of an operation. -/
def frm (op : Int) : ByteArray := if op < 0 then ⟨#[]⟩ else if 1 ≤ op ∧ op ≤ 15 then ⟨#[114, 114, 45, 45]⟩ else if 16 ≤ op ∧ op ≤ 36 then ⟨#[114, 114, 114, 45]⟩ else if op < 66 then ⟨(tab.getD op.toNat []).toArray⟩ else ⟨#[]⟩
theorem arity_any (op : Int) (h1 : -9223372036854775808 ≤ op) (h2 : op ≤ 9223372036854775807) (w : World) (r : Int) (hr : (if 1 ≤ op ∧ op ≤ 15 then 1 else if 16 ≤ op ∧ op ≤ 36 then 2 else 0 : Int) = r) :
    Calls Tryz.prog 179 #[.int .i64 op] w fun e w' => e = .returned (.int .i64 r) ∧ w' = w := by
  by_cases ha : 1 ≤ op ∧ op ≤ 15
  · rw [if_pos ha] at hr; subst hr
    obtain ⟨ha, hb⟩ := ha
    go_enter Tryz.func179, Tryz.ntmps179
    go_wp2
    go_ret
    exact ⟨rfl, rfl⟩
  · rw [if_neg ha] at hr
    by_cases hb : 16 ≤ op ∧ op ≤ 36
    · rw [if_pos hb] at hr; subst hr
      obtain ⟨hb, hc⟩ := hb
      clear ha
      go_enter Tryz.func179, Tryz.ntmps179
      go_wp2
      go_ret
      exact ⟨rfl, rfl⟩
    · rw [if_neg hb] at hr; subst hr
      by_cases h0 : op < 1
      · clear ha hb
        go_enter Tryz.func179, Tryz.ntmps179
        go_wp2
        go_ret
        exact ⟨rfl, rfl⟩
      · have h3 : 36 < op := by omega
        clear ha hb
        go_enter Tryz.func179, Tryz.ntmps179
        go_wp2
        go_ret
        exact ⟨rfl, rfl⟩
theorem form_any (op : Int) (h1 : -9223372036854775808 ≤ op) (h2 : op ≤ 9223372036854775807) (w : World) (hF : Forms w) (B : ByteArray) (hB : frm op = B) :
    Calls Tryz.prog 172 #[.int .i64 op] w fun e w' => e = .returned (.string B) ∧ w' = w := by
  have cA := fun w => arity_any op h1 h2 w _ rfl
  unfold frm at hB
  by_cases ha : 1 ≤ op ∧ op ≤ 15
  · rw [if_neg (by omega), if_pos ha] at hB; subst hB
    simp only [if_pos ha] at cA
    clear hF
    go_enter Tryz.func172, Tryz.ntmps172
    go_wp2_with (go_at_call 179; with_reducible refine (cA _).mono ?_; rintro e w' ⟨rfl, hw⟩; replace hw := hw.symm; subst hw)
    go_ret
    exact ⟨rfl, rfl⟩
  · simp only [if_neg ha] at cA
    rw [if_neg ha] at hB
    by_cases hb : 16 ≤ op ∧ op ≤ 36
    · rw [if_neg (by omega), if_pos hb] at hB; subst hB
      simp only [if_pos hb] at cA
      clear hF
      go_enter Tryz.func172, Tryz.ntmps172
      go_wp2_with (go_at_call 179; with_reducible refine (cA _).mono ?_; rintro e w' ⟨rfl, hw⟩; replace hw := hw.symm; subst hw)
      go_ret
      exact ⟨rfl, rfl⟩
    · simp only [if_neg hb] at cA
      rw [if_neg hb] at hB
      by_cases hc : op < 0
      · rw [if_pos hc] at hB; subst hB
        clear hF ha hb
        go_enter Tryz.func172, Tryz.ntmps172
        go_wp2_with (go_at_call 179; with_reducible refine (cA _).mono ?_; rintro e w' ⟨rfl, hw⟩; replace hw := hw.symm; subst hw)
        go_ret
        exact ⟨rfl, rfl⟩
      · rw [if_neg hc] at hB
        by_cases hd : op < 66
        · rw [if_pos hd] at hB; subst hB
          have hcell := hF op.toNat (by omega)
          have h0 : 0 ≤ op := by omega
          generalize (⟨(tab.getD op.toNat []).toArray⟩ : ByteArray) = B at *
          clear hF ha hb hc
          go_enter Tryz.func172, Tryz.ntmps172
          go_wp2_with (go_at_call 179; with_reducible refine (cA _).mono ?_; rintro e w' ⟨rfl, hw⟩; replace hw := hw.symm; subst hw)
          go_ret
          exact ⟨rfl, rfl⟩
        · rw [if_neg hd] at hB; subst hB
          have h0 : 66 ≤ op := by omega
          clear hF ha hb hc hd
          go_enter Tryz.func172, Tryz.ntmps172
          go_wp2_with (go_at_call 179; with_reducible refine (cA _).mono ?_; rintro e w' ⟨rfl, hw⟩; replace hw := hw.symm; subst hw)
          go_ret
          exact ⟨rfl, rfl⟩
set_option maxHeartbeats 4000000 in
theorem refform_any (op : Int) (h1 : -9223372036854775808 ≤ op) (h2 : op ≤ 9223372036854775807) (w : World) (B : ByteArray) (hB : frm op = B) :
    Calls Tryz.prog 146 #[.int .i64 op] w fun e w' => e = .returned (.string B) ∧ w' = w := by
  by_cases ha : 1 ≤ op ∧ op ≤ 15
  · unfold frm at hB
    rw [if_neg (by omega), if_pos ha] at hB; subst hB
    obtain ⟨ha, hb⟩ := ha
    go_enter Tryz.func146, Tryz.ntmps146
    go_wp2
    go_ret
    exact ⟨rfl, rfl⟩
  · by_cases hb : 16 ≤ op ∧ op ≤ 36
    · unfold frm at hB
      rw [if_neg (by omega), if_neg ha, if_pos hb] at hB; subst hB
      obtain ⟨hb, hc⟩ := hb
      clear ha
      go_enter Tryz.func146, Tryz.ntmps146
      go_wp2
      go_ret
      exact ⟨rfl, rfl⟩
    · by_cases hd : 37 ≤ op ∧ op ≤ 65
      · rcases (by omega : op = 37 ∨ op = 38 ∨ op = 39 ∨ op = 40 ∨ op = 41 ∨ op = 42 ∨ op = 43 ∨ op = 44 ∨ op = 45 ∨ op = 46 ∨ op = 47 ∨ op = 48 ∨ op = 49 ∨ op = 50 ∨ op = 51 ∨ op = 52 ∨ op = 53 ∨ op = 54 ∨ op = 55 ∨ op = 56 ∨ op = 57 ∨ op = 58 ∨ op = 59 ∨ op = 60 ∨ op = 61 ∨ op = 62 ∨ op = 63 ∨ op = 64 ∨ op = 65) with rfl | rfl | rfl | rfl | rfl | rfl | rfl | rfl | rfl | rfl | rfl | rfl | rfl | rfl | rfl | rfl | rfl | rfl | rfl | rfl | rfl | rfl | rfl | rfl | rfl | rfl | rfl | rfl | rfl
        all_goals
          subst hB
          clear ha hb hd h1 h2
          go_enter Tryz.func146, Tryz.ntmps146
          go_wp2
          go_ret
          exact ⟨rfl, rfl⟩
      · have hB2 : (⟨#[]⟩ : ByteArray) = B := by
          rw [← hB]; unfold frm
          by_cases h0 : op < 0
          · rw [if_pos h0]
          · rw [if_neg h0, if_neg ha, if_neg hb]
            by_cases h6 : op < 66
            · have : op = 0 := by omega
              subst this; rfl
            · rw [if_neg h6]
        subst hB2
        by_cases h0 : op < 1
        · clear ha hb hd hB
          go_enter Tryz.func146, Tryz.ntmps146
          go_wp2
          go_ret
          exact ⟨rfl, rfl⟩
        · have h3 : 65 < op := by omega
          clear ha hb hd hB h0
          go_enter Tryz.func146, Tryz.ntmps146
          go_wp2
          go_ret
          exact ⟨rfl, rfl⟩
/-- Local, visible. -/
def loc (op : Int) : Bool := decide ((1 ≤ op ∧ op ≤ 36) ∨ (40 ≤ op ∧ op ≤ 45))
def vis (op : Int) : Bool := decide (50 ≤ op ∧ op ≤ 65)
theorem frm_empty (op : Int) : ((frm op).toList == []) = !(loc op || vis op) := by
  by_cases hd : 37 ≤ op ∧ op ≤ 65
  · rcases (by omega : op = 37 ∨ op = 38 ∨ op = 39 ∨ op = 40 ∨ op = 41 ∨ op = 42 ∨ op = 43 ∨ op = 44 ∨ op = 45 ∨ op = 46 ∨ op = 47 ∨ op = 48 ∨ op = 49 ∨ op = 50 ∨ op = 51 ∨ op = 52 ∨ op = 53 ∨ op = 54 ∨ op = 55 ∨ op = 56 ∨ op = 57 ∨ op = 58 ∨ op = 59 ∨ op = 60 ∨ op = 61 ∨ op = 62 ∨ op = 63 ∨ op = 64 ∨ op = 65) with rfl | rfl | rfl | rfl | rfl | rfl | rfl | rfl | rfl | rfl | rfl | rfl | rfl | rfl | rfl | rfl | rfl | rfl | rfl | rfl | rfl | rfl | rfl | rfl | rfl | rfl | rfl | rfl | rfl <;> rw [ByteArray.toList_eq] <;> rfl
  · by_cases ha : 1 ≤ op ∧ op ≤ 15
    · unfold frm loc; rw [if_neg (by omega), if_pos ha, decide_eq_true (by omega), ByteArray.toList_eq]; rfl
    · by_cases hb : 16 ≤ op ∧ op ≤ 36
      · unfold frm loc; rw [if_neg (by omega), if_neg ha, if_pos hb, decide_eq_true (by omega), ByteArray.toList_eq]; rfl
      · have e : frm op = ⟨#[]⟩ := by
          unfold frm
          by_cases h0 : op < 0
          · rw [if_pos h0]
          · rw [if_neg h0, if_neg ha, if_neg hb]
            by_cases h6 : op < 66
            · have : op = 0 := by omega
              subst this; rfl
            · rw [if_neg h6]
        unfold loc vis
        rw [e, decide_eq_false (by omega), decide_eq_false (by omega), ByteArray.toList_eq]; rfl
theorem ret_bool {a b : Bool} (h : a = b) : Ending.returned (.bool a) = .returned (.bool b) := by rw [h]
theorem reflocal_any (op : Int) (h1 : -9223372036854775808 ≤ op) (h2 : op ≤ 9223372036854775807) (w : World) (r : Bool) (hr : loc op = r) :
    Calls Tryz.prog 144 #[.int .i64 op] w fun e w' => e = .returned (.bool r) ∧ w' = w := by
  subst hr
  rcases (by omega : op < 1 ∨ (1 ≤ op ∧ op ≤ 36) ∨ (36 < op ∧ op < 40) ∨ (40 ≤ op ∧ op ≤ 45) ∨ 45 < op) with h | h | h | h | h
  all_goals
    first | rw [show loc op = true from decide_eq_true (by omega)] | rw [show loc op = false from decide_eq_false (by omega)]
    go_enter Tryz.func144, Tryz.ntmps144
    go_wp2
    go_ret
    exact ⟨ret_bool (by first | rfl | (simp <;> omega)), rfl⟩
theorem refvisible_any (op : Int) (h1 : -9223372036854775808 ≤ op) (h2 : op ≤ 9223372036854775807) (w : World) (r : Bool) (hr : vis op = r) :
    Calls Tryz.prog 145 #[.int .i64 op] w fun e w' => e = .returned (.bool r) ∧ w' = w := by
  subst hr
  rcases (by omega : op < 50 ∨ (50 ≤ op ∧ op ≤ 65) ∨ 65 < op) with h | h | h
  all_goals
    first | rw [show vis op = true from decide_eq_true (by omega)] | rw [show vis op = false from decide_eq_false (by omega)]
    go_enter Tryz.func145, Tryz.ntmps145
    go_wp2
    go_ret
    exact ⟨ret_bool (by first | rfl | (simp <;> omega)), rfl⟩
end Go.Proofs.YtafefnkgdnmjbaaGreatDoor.prog
/- The contracts of package prog's small looks at a program. -/
namespace Go.Proofs.YtafefnkgdnmjbaaGreatDoor.pg.pp
open Go.ChangeShapes Go.WideShapes Go.ChangeAt Go.RowKit
set_option linter.unusedVariables false
set_option linter.unusedSimpArgs false
set_option maxRecDepth 100000
theorem ret_b {a b : Bool} (h : a = b) : Ending.returned (.bool a) = .returned (.bool b) := by rw [h]
theorem ret_i {a b : Int} (h : a = b) : Ending.returned (.int .i64 a) = .returned (.int .i64 b) := by rw [h]
theorem between_t (x a b : Int) (w : World) (h : a ≤ x ∧ x ≤ b) : Calls Tryz.prog 151 #[.int .i64 x, .int .i64 a, .int .i64 b] w fun e w' => e = .returned (.bool true) ∧ w' = w := by
  obtain ⟨h1, h2⟩ := h
  go_enter Tryz.func151, Tryz.ntmps151
  go_wp2
  go_ret
  exact ⟨rfl, rfl⟩
theorem between_f (x a b : Int) (w : World) (h : x < a ∨ b < x) : Calls Tryz.prog 151 #[.int .i64 x, .int .i64 a, .int .i64 b] w fun e w' => e = .returned (.bool false) ∧ w' = w := by
  by_cases h1 : a ≤ x
  · have h2 : ¬ x ≤ b := by omega
    go_enter Tryz.func151, Tryz.ntmps151
    go_wp2
    go_ret
    exact ⟨rfl, rfl⟩
  · clear h
    go_enter Tryz.func151, Tryz.ntmps151
    go_wp2
    go_ret
    exact ⟨rfl, rfl⟩
theorem below_t (x n : Int) (w : World) (h : 0 ≤ x ∧ x < n) : Calls Tryz.prog 171 #[.int .i64 x, .int .i64 n] w fun e w' => e = .returned (.bool true) ∧ w' = w := by
  obtain ⟨h1, h2⟩ := h
  go_enter Tryz.func171, Tryz.ntmps171
  go_wp2
  go_ret
  exact ⟨rfl, rfl⟩
theorem below_f (x n : Int) (w : World) (h : x < 0 ∨ n ≤ x) : Calls Tryz.prog 171 #[.int .i64 x, .int .i64 n] w fun e w' => e = .returned (.bool false) ∧ w' = w := by
  by_cases h1 : 0 ≤ x
  · have h2 : ¬ x < n := by omega
    go_enter Tryz.func171, Tryz.ntmps171
    go_wp2
    go_ret
    exact ⟨rfl, rfl⟩
  · clear h
    go_enter Tryz.func171, Tryz.ntmps171
    go_wp2
    go_ret
    exact ⟨rfl, rfl⟩
theorem unless_any (b : Bool) (e0 : Int) (w : World) : Calls Tryz.prog 180 #[.bool b, .int .i64 e0] w fun e w' => e = .returned (.int .i64 (if b = true then 0 else e0)) ∧ w' = w := by
  cases b
  all_goals
    go_enter Tryz.func180, Tryz.ntmps180
    go_wp2
    go_ret
    exact ⟨by simp, rfl⟩
theorem roomFor_any (k first regs : Int) (w : World) (hk : I64 k) (hf : I64 first) (h0 : 0 ≤ regs) (h8 : regs ≤ 8) (r : Bool) (hr : Hid (decide (roomP k first regs) = r)) :
    Calls Tryz.prog 181 #[.int .i64 k, .int .i64 first, .int .i64 regs] w fun e w' => e = .returned (.bool r) ∧ w' = w := by
  unfold I64 at hk hf
  obtain ⟨k1, k2⟩ := hk
  obtain ⟨f1, f2⟩ := hf
  by_cases hz : k = 0
  · subst hz
    go_enter Tryz.func181, Tryz.ntmps181
    go_wp2
    go_ret
    exact ⟨ret_b (by rw [← hr.out]; simp [roomP]; rfl), rfl⟩
  · by_cases hn : first < 0
    · go_enter Tryz.func181, Tryz.ntmps181
      go_wp2
      go_ret
      exact ⟨ret_b (by rw [← hr.out]; simp [roomP, hz, hn]), rfl⟩
    · by_cases hp : 0 < k
      · go_enter Tryz.func181, Tryz.ntmps181
        go_wp2
        go_ret
        refine ⟨ret_b ?_, rfl⟩
        rw [← hr.out]
        rw [decide_eq_decide]
        unfold roomP
        rw [if_neg hz, if_neg (show ¬ first < 0 by omega)]
        omega
      · go_enter Tryz.func181, Tryz.ntmps181
        go_wp2
        go_ret
        refine ⟨ret_b ?_, rfl⟩
        rw [← hr.out]
        rw [decide_eq_decide]
        unfold roomP
        rw [if_neg hz, if_neg (show ¬ first < 0 by omega)]
/-- What a new box is: its cells, and that all else lies as it lay. -/
theorem boxed (w : World) (o : Obj) : Below w.heap.size w (w.alloc o) := (Below.refl _ _).alloc (Nat.le_refl _) _
theorem checkSizes_any (M : MPr) (w : World) (h : M.lies w) (r : Int) (hr : Hid (sizesE M.pr = r)) :
    Calls Tryz.prog 124 #[M.val] w fun e w' => e = .returned (.int .i64 r) ∧ Below w.heap.size w w' := by
  have no : ¬ (M.vars.length ≤ 8 ∧ (0 ≤ M.locks ∧ M.locks ≤ 4) ∧ M.chans.length ≤ 4 ∧ (1 ≤ M.fns.length ∧ M.fns.length ≤ 8)) → r = 30 := fun hn => by
    rw [← hr.out]; unfold sizesE; rw [if_neg]; simpa [MPr.pr] using hn
  by_cases h1 : (M.vars.length : Int) ≤ 8
  · by_cases h2 : 0 ≤ M.locks ∧ M.locks ≤ 4
    · by_cases h3 : (M.chans.length : Int) ≤ 4
      · by_cases h4 : (1 : Int) ≤ M.fns.length ∧ (M.fns.length : Int) ≤ 8
        · have hb := boxed w (.cells #[.slice M.va M.vars.length M.vcap, .int .i64 M.locks, .slice M.cha M.chans.length M.chcap, .slice M.fa M.fns.length M.fcap] 36)
          have hL := h.later hb
          have hw : sizesE M.pr = firstE (fun c => if 0 ≤ c ∧ c ≤ 4 then 0 else 31) M.chans := by
            unfold sizesE; rw [if_pos]; rfl; simp [MPr.pr]; omega
          go_enter Tryz.func124, Tryz.ntmps124
          go_wp2_with (go_at_call 151; with_reducible refine (between_t _ _ _ _ (by omega)).mono ?_; rintro e w' ⟨rfl, rfl⟩)
          generalize w.alloc (.cells #[.slice M.va M.vars.length M.vcap, .int .i64 M.locks, .slice M.cha M.chans.length M.chcap, .slice M.fa M.fns.length M.fcap] 36) = W at *
          go_loop [31] (fun i => ∃ k : Nat, k ≤ M.chans.length ∧ i = .int .i64 k ∧ ∀ j y, j < k → M.chans[j]? = some y → 0 ≤ y ∧ y ≤ 4) (fun i => M.chans.length - (intOf i).toNat)
          case atStart => exact ⟨0, Nat.zero_le _, rfl, fun j y hj => by omega⟩
          case round =>
            obtain ⟨k, hk, rfl, hall⟩ := hrel
            by_cases hlt : k < M.chans.length
            · obtain ⟨x, hx, hm⟩ := get_lt M.chans k hlt
              obtain ⟨b, o, hix, _, hc⟩ := ch_ix hL.2.1 k x hx
              by_cases hx4 : 0 ≤ x ∧ x ≤ 4
              · go_wp2_with (go_at_call 151; with_reducible refine (between_t _ _ _ _ (by omega)).mono ?_; rintro e w' ⟨rfl, rfl⟩)
                go_round
                case rel => exact ⟨k + 1, by omega, by go_num, fun j y hj hy => by
                  by_cases hjk : j = k
                  · subst hjk; rw [hx] at hy; cases hy; exact hx4
                  · exact hall j y (by omega) hy⟩
                case measure => simp [intOf]; omega
              · have hv : Hid (r = 31) := by
                  show r = _
                  rw [← hr.out, hw, firstE_hit _ _ k x hx (fun i y hi hy => if_pos (hall i y hi hy)) (by simp [hx4])]
                  exact if_neg hx4
                go_wp2_with (go_at_call 151; with_reducible refine (between_f _ _ _ _ (by omega)).mono ?_; rintro e w' ⟨rfl, rfl⟩)
                go_ret
                exact ⟨ret_i hv.out.symm, hb⟩
            · have hv : Hid (r = 0) := by
                show r = _
                rw [← hr.out, hw]
                refine firstE_zero _ _ fun x hx => ?_
                obtain ⟨j, hj, rfl⟩ := List.getElem_of_mem hx
                exact if_pos (hall j _ (by omega) (List.getElem?_eq_getElem hj))
              go_wp2
              go_ret
              exact ⟨ret_i hv.out.symm, hb⟩
        · have hv : Hid _ := no (by omega)
          go_enter Tryz.func124, Tryz.ntmps124
          go_wp2_with (go_at_call 151; first | (with_reducible refine (between_t _ _ _ _ (by omega)).mono ?_; rintro e w' ⟨rfl, rfl⟩) | (with_reducible refine (between_f _ _ _ _ (by omega)).mono ?_; rintro e w' ⟨rfl, rfl⟩))
          go_ret
          exact ⟨ret_i hv.out.symm, boxed _ _⟩
      · have hv : Hid _ := no (by omega)
        go_enter Tryz.func124, Tryz.ntmps124
        go_wp2_with (go_at_call 151; (with_reducible refine (between_t _ _ _ _ (by omega)).mono ?_; rintro e w' ⟨rfl, rfl⟩))
        go_ret
        exact ⟨ret_i hv.out.symm, boxed _ _⟩
    · have hv : Hid _ := no (by omega)
      go_enter Tryz.func124, Tryz.ntmps124
      go_wp2_with (go_at_call 151; (with_reducible refine (between_f _ _ _ _ (by omega)).mono ?_; rintro e w' ⟨rfl, rfl⟩))
      go_ret
      exact ⟨ret_i hv.out.symm, boxed _ _⟩
  · have hv : Hid _ := no (by omega)
    go_enter Tryz.func124, Tryz.ntmps124
    go_wp2
    go_ret
    exact ⟨ret_i hv.out.symm, boxed _ _⟩
theorem shaped_any (M : MFn) (w : World) (h : M.lies w) (r : Bool) (hr : Hid (decide (shaped M.fn) = r)) :
    Calls Tryz.prog 152 #[M.val] w fun e w' => e = .returned (.bool r) ∧ Below w.heap.size w w' := by
  have no : ¬ ((0 ≤ M.regs ∧ M.regs ≤ 8) ∧ (0 ≤ M.params ∧ M.params ≤ M.regs) ∧ (1 ≤ M.code.length ∧ M.code.length ≤ 64) ∧ M.sels.length ≤ 4) → r = false := fun hn => by
    rw [← hr.out, decide_eq_false_iff_not]
    intro ⟨a, b, c, d, e⟩
    simp only [MFn.fn, List.length_map] at a b c d
    exact hn ⟨a, b, c, d⟩
  by_cases h1 : 0 ≤ M.regs ∧ M.regs ≤ 8
  · by_cases h2 : 0 ≤ M.params ∧ M.params ≤ M.regs
    · by_cases h3 : (1 : Int) ≤ M.code.length ∧ (M.code.length : Int) ≤ 64
      · by_cases h4 : (M.sels.length : Int) ≤ 4
        · have hb := boxed w (.cells #[.int .i64 M.params, .int .i64 M.regs, .slice M.ca M.code.length M.ccap, .slice M.sa M.sels.length M.scap] 165)
          have hL := h.later hb
          have hsz : w.heap.size < (w.alloc (.cells #[.int .i64 M.params, .int .i64 M.regs, .slice M.ca M.code.length M.ccap, .slice M.sa M.sels.length M.scap] 165)).heap.size := by simp
          go_enter Tryz.func152, Tryz.ntmps152
          go_wp2_with (go_at_call 151; with_reducible refine (between_t _ _ _ _ (by omega)).mono ?_; rintro e w' ⟨rfl, rfl⟩)
          generalize w.alloc (.cells #[.int .i64 M.params, .int .i64 M.regs, .slice M.ca M.code.length M.ccap, .slice M.sa M.sels.length M.scap] 165) = W at *
          go_loopw [33] (fun i wr => ∃ k : Nat, k ≤ M.sels.length ∧ i = .int .i64 k ∧ (∀ j y, j < k → M.sels[j]? = some y → 1 ≤ y.cases.length ∧ y.cases.length ≤ 4) ∧ Below W.heap.size W wr) (fun i _ => M.sels.length - (intOf i).toNat)
          case atStart => exact ⟨0, Nat.zero_le _, rfl, fun j y hj => by omega, Below.refl _ _⟩
          case round =>
            obtain ⟨k, hk, rfl, hall, hbr⟩ := hrel
            by_cases hlt : k < M.sels.length
            · obtain ⟨x, hx, hm⟩ := get_lt M.sels k hlt
              have hLr := hL.later hbr
              obtain ⟨b, o, hix, hbl, hc0, hc1⟩ := sel_ix hLr.2.1 k x hx
              by_cases hx4 : (1 : Int) ≤ x.cases.length ∧ (x.cases.length : Int) ≤ 4
              · go_wp2_with (go_at_call 151; with_reducible refine (between_t _ _ _ _ (by omega)).mono ?_; rintro e w' ⟨rfl, rfl⟩)
                go_roundw
                case rel => exact ⟨k + 1, by omega, by go_num, (fun j y hj hy => by
                  by_cases hjk : j = k
                  · subst hjk; rw [hx] at hy; cases hy; omega
                  · exact hall j y (by omega) hy), hbr.trans ((boxed _ _).mono hbr.size)⟩
                case measure => simp [intOf]; omega
              · have hv : Hid (r = false) := by
                  show r = _
                  rw [← hr.out, decide_eq_false_iff_not]
                  intro ⟨_, _, _, _, e⟩
                  have := e x.sel (by simp only [MFn.fn, List.mem_map]; exact ⟨x, hm, rfl⟩)
                  simp only [MSel.sel] at this
                  omega
                go_wp2_with (go_at_call 151; with_reducible refine (between_f _ _ _ _ (by omega)).mono ?_; rintro e w' ⟨rfl, rfl⟩)
                go_ret
                exact ⟨ret_b hv.out.symm, hb.trans ((hbr.trans ((boxed _ _).mono hbr.size)).mono (by omega))⟩
            · have hv : Hid (r = true) := by
                show r = _
                rw [← hr.out, decide_eq_true_iff]
                refine ⟨h1, h2, by simp only [MFn.fn]; omega, by simp only [MFn.fn, List.length_map]; omega, fun s hs => ?_⟩
                simp only [MFn.fn, List.mem_map] at hs
                obtain ⟨y, hy, rfl⟩ := hs
                obtain ⟨j, hj, rfl⟩ := List.getElem_of_mem hy
                exact hall j _ (by omega) (List.getElem?_eq_getElem hj)
              go_wp2
              go_ret
              exact ⟨ret_b hv.out.symm, hb.trans (hbr.mono (by omega))⟩
        · have hv : Hid _ := no (by omega)
          go_enter Tryz.func152, Tryz.ntmps152
          go_wp2_with (go_at_call 151; (with_reducible refine (between_t _ _ _ _ (by omega)).mono ?_; rintro e w' ⟨rfl, rfl⟩))
          go_ret
          exact ⟨ret_b hv.out.symm, boxed _ _⟩
      · have hv : Hid _ := no (by omega)
        go_enter Tryz.func152, Tryz.ntmps152
        go_wp2_with (go_at_call 151; first | (with_reducible refine (between_t _ _ _ _ (by omega)).mono ?_; rintro e w' ⟨rfl, rfl⟩) | (with_reducible refine (between_f _ _ _ _ (by omega)).mono ?_; rintro e w' ⟨rfl, rfl⟩))
        go_ret
        exact ⟨ret_b hv.out.symm, boxed _ _⟩
    · have hv : Hid _ := no (by omega)
      go_enter Tryz.func152, Tryz.ntmps152
      go_wp2_with (go_at_call 151; first | (with_reducible refine (between_f _ _ _ _ (by omega)).mono ?_; rintro e w' ⟨rfl, rfl⟩) | (with_reducible refine (between_t _ _ _ _ (by omega)).mono ?_; rintro e w' ⟨rfl, rfl⟩))
      go_ret
      exact ⟨ret_b hv.out.symm, boxed _ _⟩
  · have hv : Hid _ := no (by omega)
    go_enter Tryz.func152, Tryz.ntmps152
    go_wp2_with (go_at_call 151; (with_reducible refine (between_f _ _ _ _ (by omega)).mono ?_; rintro e w' ⟨rfl, rfl⟩))
    go_ret
    exact ⟨ret_b hv.out.symm, boxed _ _⟩
theorem sel_room (M : MPr) (k : Nat) (x : Int) (hx : M.chans[k]? = some x) : M.pr.room (k : Int) = x := by
  simp [Pr.room, MPr.pr, hx]
theorem boxed2 (w : World) (o1 o2 : Obj) : Below w.heap.size w ((w.alloc o1).alloc o2) := (boxed w o1).trans ((boxed _ _).mono (boxed w o1).size)
theorem boxed3 (w : World) (o1 o2 o3 : Obj) : Below w.heap.size w (((w.alloc o1).alloc o2).alloc o3) := (boxed2 w o1 o2).trans ((boxed _ _).mono (boxed2 w o1 o2).size)
theorem cell3 {w : World} {a : Addr} {v : Value} (h : w.cell? a = some v) (o1 o2 o3 : Obj) : (((w.alloc o1).alloc o2).alloc o3).cell? a = some v := cell_later (boxed3 w o1 o2 o3) h
set_option maxHeartbeats 1000000 in
theorem checkCase_any (M : MPr) (f : MFn) (c : Cas) (w : World) (h : M.lies w) (r : Int) (hr : Hid (casE M.pr f.fn c = r)) :
    Calls Tryz.prog 170 #[M.val, f.val, c.val] w fun e w' => e = .returned (.int .i64 r) ∧ Below w.heap.size w w' := by
  by_cases h1 : 0 ≤ c.ch ∧ c.ch < M.chans.length
  · have q1 : Hid (inRp c.ch M.pr.chans.length) := h1
    obtain ⟨k, hk⟩ : ∃ k : Nat, c.ch = (k : Int) := ⟨c.ch.toNat, by omega⟩
    obtain ⟨x, hx, hm⟩ := get_lt M.chans k (by omega)
    have hrm : Hid (M.pr.room c.ch = x) := by rw [hk]; exact sel_room M k x hx
    obtain ⟨b, o, hix, hbl, hcl⟩ := ch_ix h.2.1 k x hx
    rw [← hk] at hix
    replace hcl := cell3 hcl
    clear hx hm hk h
    by_cases h2 : 0 ≤ c.reg ∧ c.reg < f.regs
    · have q2 : Hid (inRp c.reg f.fn.regs ∨ c.reg = -1 ∧ c.send = false) := .inl h2
      have hn : ¬ c.reg = -1 := by omega
      by_cases h4 : 0 ≤ c.to ∧ c.to < f.code.length
      · have q4 : Hid (inRp c.to f.fn.code.length) := h4
        cases hs : c.send with
        | true =>
          by_cases h3 : x = 0
          · have hv : Hid (r = 37) := hr.out.symm.trans (casE_kind q1.out q2.out ⟨hs, hrm.out.trans h3⟩)
            go_enter Tryz.func170, Tryz.ntmps170
            go_wp2_with (go_at_call 171; first | (with_reducible refine (below_t _ _ _ (by omega)).mono ?_; rintro e w' ⟨rfl, rfl⟩) | (with_reducible refine (below_f _ _ _ (by omega)).mono ?_; rintro e w' ⟨rfl, rfl⟩))
            go_ret
            exact ⟨ret_i hv.out.symm, boxed3 _ _ _ _⟩
          · have hv : Hid (r = 0) := hr.out.symm.trans (casE_ok q1.out q2.out (fun q => h3 (hrm.out.symm.trans q.2)) q4.out)
            go_enter Tryz.func170, Tryz.ntmps170
            go_wp2_with (go_at_call 171; first | (with_reducible refine (below_t _ _ _ (by omega)).mono ?_; rintro e w' ⟨rfl, rfl⟩) | (with_reducible refine (below_f _ _ _ (by omega)).mono ?_; rintro e w' ⟨rfl, rfl⟩))
            go_ret
            exact ⟨ret_i hv.out.symm, boxed3 _ _ _ _⟩
        | false =>
          have hv : Hid (r = 0) := hr.out.symm.trans (casE_ok q1.out q2.out (fun q => by rw [hs] at q; simp at q) q4.out)
          go_enter Tryz.func170, Tryz.ntmps170
          go_wp2_with (go_at_call 171; first | (with_reducible refine (below_t _ _ _ (by omega)).mono ?_; rintro e w' ⟨rfl, rfl⟩) | (with_reducible refine (below_f _ _ _ (by omega)).mono ?_; rintro e w' ⟨rfl, rfl⟩))
          go_ret
          exact ⟨ret_i hv.out.symm, boxed3 _ _ _ _⟩
      · cases hs : c.send with
        | true =>
          by_cases h3 : x = 0
          · have hv : Hid (r = 37) := hr.out.symm.trans (casE_kind q1.out q2.out ⟨hs, hrm.out.trans h3⟩)
            go_enter Tryz.func170, Tryz.ntmps170
            go_wp2_with (go_at_call 171; first | (with_reducible refine (below_t _ _ _ (by omega)).mono ?_; rintro e w' ⟨rfl, rfl⟩) | (with_reducible refine (below_f _ _ _ (by omega)).mono ?_; rintro e w' ⟨rfl, rfl⟩))
            go_ret
            exact ⟨ret_i hv.out.symm, boxed3 _ _ _ _⟩
          · have hv : Hid (r = 38) := hr.out.symm.trans (casE_target q1.out q2.out (fun q => h3 (hrm.out.symm.trans q.2)) h4)
            go_enter Tryz.func170, Tryz.ntmps170
            go_wp2_with (go_at_call 171; first | (with_reducible refine (below_t _ _ _ (by omega)).mono ?_; rintro e w' ⟨rfl, rfl⟩) | (with_reducible refine (below_f _ _ _ (by omega)).mono ?_; rintro e w' ⟨rfl, rfl⟩))
            go_ret
            exact ⟨ret_i hv.out.symm, boxed3 _ _ _ _⟩
        | false =>
          have hv : Hid (r = 38) := hr.out.symm.trans (casE_target q1.out q2.out (fun q => by rw [hs] at q; simp at q) h4)
          go_enter Tryz.func170, Tryz.ntmps170
          go_wp2_with (go_at_call 171; first | (with_reducible refine (below_t _ _ _ (by omega)).mono ?_; rintro e w' ⟨rfl, rfl⟩) | (with_reducible refine (below_f _ _ _ (by omega)).mono ?_; rintro e w' ⟨rfl, rfl⟩))
          go_ret
          exact ⟨ret_i hv.out.symm, boxed3 _ _ _ _⟩
    · by_cases hn : c.reg = -1
      · cases hs : c.send with
        | true =>
          have hv : Hid (r = 35) := hr.out.symm.trans (casE_reg q1.out (fun q => q.elim h2 fun q => by rw [hs] at q; simp at q))
          go_enter Tryz.func170, Tryz.ntmps170
          go_wp2_with (go_at_call 171; first | (with_reducible refine (below_t _ _ _ (by omega)).mono ?_; rintro e w' ⟨rfl, rfl⟩) | (with_reducible refine (below_f _ _ _ (by omega)).mono ?_; rintro e w' ⟨rfl, rfl⟩))
          go_ret
          exact ⟨ret_i hv.out.symm, boxed3 _ _ _ _⟩
        | false =>
          by_cases h4 : 0 ≤ c.to ∧ c.to < f.code.length
          · have hv : Hid (r = 0) := hr.out.symm.trans (casE_ok q1.out (.inr ⟨hn, hs⟩) (fun q => by rw [hs] at q; simp at q) h4)
            go_enter Tryz.func170, Tryz.ntmps170
            go_wp2_with (go_at_call 171; first | (with_reducible refine (below_t _ _ _ (by omega)).mono ?_; rintro e w' ⟨rfl, rfl⟩) | (with_reducible refine (below_f _ _ _ (by omega)).mono ?_; rintro e w' ⟨rfl, rfl⟩))
            go_ret
            exact ⟨ret_i hv.out.symm, boxed3 _ _ _ _⟩
          · have hv : Hid (r = 38) := hr.out.symm.trans (casE_target q1.out (.inr ⟨hn, hs⟩) (fun q => by rw [hs] at q; simp at q) h4)
            go_enter Tryz.func170, Tryz.ntmps170
            go_wp2_with (go_at_call 171; first | (with_reducible refine (below_t _ _ _ (by omega)).mono ?_; rintro e w' ⟨rfl, rfl⟩) | (with_reducible refine (below_f _ _ _ (by omega)).mono ?_; rintro e w' ⟨rfl, rfl⟩))
            go_ret
            exact ⟨ret_i hv.out.symm, boxed3 _ _ _ _⟩
      · have hv : Hid (r = 35) := hr.out.symm.trans (casE_reg q1.out (fun q => q.elim h2 fun q => hn q.1))
        go_enter Tryz.func170, Tryz.ntmps170
        go_wp2_with (go_at_call 171; first | (with_reducible refine (below_t _ _ _ (by omega)).mono ?_; rintro e w' ⟨rfl, rfl⟩) | (with_reducible refine (below_f _ _ _ (by omega)).mono ?_; rintro e w' ⟨rfl, rfl⟩))
        go_ret
        exact ⟨ret_i hv.out.symm, boxed3 _ _ _ _⟩
  · have hv : Hid (r = 36) := hr.out.symm.trans (casE_obj h1)
    go_enter Tryz.func170, Tryz.ntmps170
    go_wp2_with (go_at_call 171; first | (with_reducible refine (below_t _ _ _ (by omega)).mono ?_; rintro e w' ⟨rfl, rfl⟩) | (with_reducible refine (below_f _ _ _ (by omega)).mono ?_; rintro e w' ⟨rfl, rfl⟩))
    all_goals
      go_ret
      exact ⟨ret_i hv.out.symm, boxed3 _ _ _ _⟩
end Go.Proofs.YtafefnkgdnmjbaaGreatDoor.pg.pp
/- Boxes of a program's parts; the contracts of package prog's looks at selects and instructions. -/
namespace Go.Proofs.YtafefnkgdnmjbaaGreatDoor.pg.pp
open Go.ChangeShapes Go.WideShapes Go.ChangeAt Go.RowKit
set_option linter.unusedVariables false
set_option linter.unusedSimpArgs false
set_option maxRecDepth 100000
theorem rows_len {α : Type} {w : World} {k : Nat} {a : Option Addr} {cap : Nat} {l : List α} {C : α → List Value} (h : Rows w k a cap (l.map C)) : (l.length : Int) ≤ 9223372036854775807 := by
  have h1 := h.1
  have h2 := h.2.1
  rw [List.length_map] at h1
  omega
theorem bthen {w a b : World} (h : Below w.heap.size w a) (k : Below a.heap.size a b) : Below w.heap.size w b := h.trans (k.mono h.size)
/-- A box of its own, and what lies in it. -/
abbrev objP (x : MPr) : Obj := .cells #[.slice x.va x.vars.length x.vcap, .int .i64 x.locks, .slice x.cha x.chans.length x.chcap, .slice x.fa x.fns.length x.fcap] 36
def BoxP (w : World) (B : Nat) (x : MPr) : Prop := w.cell? ⟨B, 0, none⟩ = some (.slice x.va x.vars.length x.vcap) ∧ w.cell? ⟨B, 1, none⟩ = some (.int .i64 x.locks) ∧ w.cell? ⟨B, 2, none⟩ = some (.slice x.cha x.chans.length x.chcap) ∧ w.cell? ⟨B, 3, none⟩ = some (.slice x.fa x.fns.length x.fcap)
theorem BoxP.later {w w' : World} {B : Nat} {x : MPr} (h : BoxP w B x) (hb : Below w.heap.size w w') : BoxP w' B x := ⟨cell_later hb (h.1), cell_later hb (h.2.1), cell_later hb (h.2.2.1), cell_later hb (h.2.2.2)⟩
theorem BoxP.lt {w : World} {B : Nat} {x : MPr} (h : BoxP w B x) : B < w.heap.size := World.block_lt_of_cell? _ _ h.1
theorem boxP_new (w : World) (x : MPr) : BoxP (w.alloc (objP x)) w.heap.size x := by
  refine ⟨?_, ?_, ?_, ?_⟩ <;> exact World.cell?_alloc_at _ _ _ _ rfl
/-- A box of its own, and what lies in it. -/
abbrev objF (x : MFn) : Obj := .cells #[.int .i64 x.params, .int .i64 x.regs, .slice x.ca x.code.length x.ccap, .slice x.sa x.sels.length x.scap] 165
def BoxF (w : World) (B : Nat) (x : MFn) : Prop := w.cell? ⟨B, 0, none⟩ = some (.int .i64 x.params) ∧ w.cell? ⟨B, 1, none⟩ = some (.int .i64 x.regs) ∧ w.cell? ⟨B, 2, none⟩ = some (.slice x.ca x.code.length x.ccap) ∧ w.cell? ⟨B, 3, none⟩ = some (.slice x.sa x.sels.length x.scap)
theorem BoxF.later {w w' : World} {B : Nat} {x : MFn} (h : BoxF w B x) (hb : Below w.heap.size w w') : BoxF w' B x := ⟨cell_later hb (h.1), cell_later hb (h.2.1), cell_later hb (h.2.2.1), cell_later hb (h.2.2.2)⟩
theorem BoxF.lt {w : World} {B : Nat} {x : MFn} (h : BoxF w B x) : B < w.heap.size := World.block_lt_of_cell? _ _ h.1
theorem boxF_new (w : World) (x : MFn) : BoxF (w.alloc (objF x)) w.heap.size x := by
  refine ⟨?_, ?_, ?_, ?_⟩ <;> exact World.cell?_alloc_at _ _ _ _ rfl
/-- A box of its own, and what lies in it. -/
abbrev objS (x : MSel) : Obj := .cells #[.slice x.at_ x.cases.length x.cap, .int .i64 x.els] 221
def BoxS (w : World) (B : Nat) (x : MSel) : Prop := w.cell? ⟨B, 0, none⟩ = some (.slice x.at_ x.cases.length x.cap) ∧ w.cell? ⟨B, 1, none⟩ = some (.int .i64 x.els)
theorem BoxS.later {w w' : World} {B : Nat} {x : MSel} (h : BoxS w B x) (hb : Below w.heap.size w w') : BoxS w' B x := ⟨cell_later hb (h.1), cell_later hb (h.2)⟩
theorem BoxS.lt {w : World} {B : Nat} {x : MSel} (h : BoxS w B x) : B < w.heap.size := World.block_lt_of_cell? _ _ h.1
theorem boxS_new (w : World) (x : MSel) : BoxS (w.alloc (objS x)) w.heap.size x := by
  refine ⟨?_, ?_⟩ <;> exact World.cell?_alloc_at _ _ _ _ rfl
/-- A box of its own, and what lies in it. -/
abbrev objC (x : Cas) : Obj := .cells #[.bool x.send, .int .i64 x.ch, .int .i64 x.reg, .int .i64 x.to] 223
def BoxC (w : World) (B : Nat) (x : Cas) : Prop := w.cell? ⟨B, 0, none⟩ = some (.bool x.send) ∧ w.cell? ⟨B, 1, none⟩ = some (.int .i64 x.ch) ∧ w.cell? ⟨B, 2, none⟩ = some (.int .i64 x.reg) ∧ w.cell? ⟨B, 3, none⟩ = some (.int .i64 x.to)
theorem BoxC.later {w w' : World} {B : Nat} {x : Cas} (h : BoxC w B x) (hb : Below w.heap.size w w') : BoxC w' B x := ⟨cell_later hb (h.1), cell_later hb (h.2.1), cell_later hb (h.2.2.1), cell_later hb (h.2.2.2)⟩
theorem BoxC.lt {w : World} {B : Nat} {x : Cas} (h : BoxC w B x) : B < w.heap.size := World.block_lt_of_cell? _ _ h.1
theorem boxC_new (w : World) (x : Cas) : BoxC (w.alloc (objC x)) w.heap.size x := by
  refine ⟨?_, ?_, ?_, ?_⟩ <;> exact World.cell?_alloc_at _ _ _ _ rfl
/-- A box of its own, and what lies in it. -/
abbrev objI (x : Ins) : Obj := .cells #[.int .i64 x.op, .int .i64 x.a, .int .i64 x.b, .int .i64 x.c, .int .i64 x.n] 161
def BoxI (w : World) (B : Nat) (x : Ins) : Prop := w.cell? ⟨B, 0, none⟩ = some (.int .i64 x.op) ∧ w.cell? ⟨B, 1, none⟩ = some (.int .i64 x.a) ∧ w.cell? ⟨B, 2, none⟩ = some (.int .i64 x.b) ∧ w.cell? ⟨B, 3, none⟩ = some (.int .i64 x.c) ∧ w.cell? ⟨B, 4, none⟩ = some (.int .i64 x.n)
theorem BoxI.later {w w' : World} {B : Nat} {x : Ins} (h : BoxI w B x) (hb : Below w.heap.size w w') : BoxI w' B x := ⟨cell_later hb (h.1), cell_later hb (h.2.1), cell_later hb (h.2.2.1), cell_later hb (h.2.2.2.1), cell_later hb (h.2.2.2.2)⟩
theorem BoxI.lt {w : World} {B : Nat} {x : Ins} (h : BoxI w B x) : B < w.heap.size := World.block_lt_of_cell? _ _ h.1
theorem boxI_new (w : World) (x : Ins) : BoxI (w.alloc (objI x)) w.heap.size x := by
  refine ⟨?_, ?_, ?_, ?_, ?_⟩ <;> exact World.cell?_alloc_at _ _ _ _ rfl
theorem selE_cas {P : Pr} {f : Fn} {s : Sel} {e : Int} (h : firstE (casE P f) s.cases = e) (he : e ≠ 0) : selE P f s = e := by unfold selE; rw [if_neg (by rw [h]; exact he), h]
theorem selE_else {P : Pr} {f : Fn} {s : Sel} (h : firstE (casE P f) s.cases = 0) (he : ¬ (s.els = -1 ∨ inRp s.els f.code.length)) : selE P f s = 38 := by unfold selE; rw [if_pos h, if_neg he]
theorem selE_ok {P : Pr} {f : Fn} {s : Sel} (h : firstE (casE P f) s.cases = 0) (he : s.els = -1 ∨ inRp s.els f.code.length) : selE P f s = 0 := by unfold selE; rw [if_pos h, if_pos he]
set_option maxHeartbeats 1000000 in
theorem checkSelect_any (M : MPr) (f : MFn) (s : MSel) (w : World) (h : M.lies w) (hs : s.lies w) (r : Int) (hr : Hid (selE M.pr f.fn s.sel = r)) :
    Calls Tryz.prog 153 #[M.val, f.val, s.val] w fun e w' => e = .returned (.int .i64 r) ∧ Below w.heap.size w w' := by
  have hb1 := boxed w (objP M)
  have hb2 := boxed (w.alloc (objP M)) (objF f)
  have hb3 := boxed ((w.alloc (objP M)).alloc (objF f)) (objS s)
  have hb := boxed3 w (objP M) (objF f) (objS s)
  have bP := ((boxP_new w M).later hb2).later hb3
  have bF := (boxF_new (w.alloc (objP M)) f).later hb3
  have bS := boxS_new ((w.alloc (objP M)).alloc (objF f)) s
  have hL := h.later hb
  have hS := hs.later hb
  clear hb1 hb2 hb3
  simp only [World.size_alloc] at bF bS
  have hln := rows_len hs.1
  have hz : w.heap.size + 1 + 1 < (((w.alloc (objP M)).alloc (objF f)).alloc (objS s)).heap.size := by simp only [World.size_alloc]; omega
  go_enter Tryz.func153, Tryz.ntmps153
  go_wp2
  generalize ((w.alloc (objP M)).alloc (objF f)).alloc (objS s) = W at *
  go_loopw [13] (fun i wr => ∃ k : Nat, k ≤ s.cases.length ∧ i = .int .i64 k ∧ (∀ j y, j < k → s.cases[j]? = some y → casE M.pr f.fn y = 0) ∧ Below W.heap.size W wr) (fun i _ => s.cases.length - (intOf i).toNat)
  case atStart => exact ⟨0, Nat.zero_le _, rfl, fun j y hj => by omega, Below.refl _ _⟩
  case round =>
    obtain ⟨k, hk, rfl, hall, hbr⟩ := hrel
    obtain ⟨p0, p1, p2, p3⟩ := bP.later hbr
    obtain ⟨f0, f1, f2, f3⟩ := bF.later hbr
    obtain ⟨s0, s1⟩ := bS.later hbr
    have z := hbr.size
    have z0 : w.heap.size < wr.heap.size := by omega
    have z1 : w.heap.size + 1 < wr.heap.size := by omega
    have z2 : w.heap.size + 1 + 1 < wr.heap.size := by omega
    have hbw : Below w.heap.size w wr := hb.trans (hbr.mono (by omega))
    by_cases hlt : k < s.cases.length
    · obtain ⟨x, hx, hm⟩ := get_lt s.cases k hlt
      have hLr := hL.later hbr
      have hSr := hS.later hbr
      obtain ⟨b, o, hix, hbl, c0, c1, c2, c3⟩ := cas_ix hSr.1 k x hx
      have hLa := hLr.later (boxed wr (objC x))
      obtain ⟨e, he⟩ : ∃ e, Hid (casE M.pr f.fn x = e) := ⟨_, rfl⟩
      have hcall := checkCase_any M f x _ hLa e he
      have hbx : Below w.heap.size w (wr.alloc (objC x)) := bthen hbw (boxed wr (objC x))
      have hbW : Below W.heap.size W (wr.alloc (objC x)) := bthen hbr (boxed wr (objC x))
      clear hLa hLr hSr bP bF bS hL hS h hs
      by_cases h0 : e = 0
      · subst h0
        go_wp2_with (go_at_call 170; (with_reducible refine hcall.mono ?_); rintro e w2 ⟨rfl, hb2⟩)
        go_roundw
        case rel => exact ⟨k + 1, by omega, by go_num, (fun j y hj hy => by
          by_cases hjk : j = k
          · subst hjk; rw [hx] at hy; cases hy; exact he.out
          · exact hall j y (by omega) hy), bthen hbW hb2⟩
        case measure => simp [intOf]; omega
      · have hv : Hid (r = e) := hr.out.symm.trans (selE_cas ((firstE_hit _ _ k x hx hall (by rw [he.out]; exact h0)).trans he.out) h0)
        go_wp2_with (go_at_call 170; (with_reducible refine hcall.mono ?_); rintro e w2 ⟨rfl, hb2⟩)
        go_ret
        exact ⟨ret_i hv.out.symm, bthen hbx hb2⟩
    · have hz0 : Hid (firstE (casE M.pr f.fn) s.sel.cases = 0) := firstE_zero _ _ fun x hx => by
        obtain ⟨j, hj, rfl⟩ := List.getElem_of_mem hx
        exact hall j _ (by have : j < s.cases.length := hj; omega) (List.getElem?_eq_getElem hj)
      clear hall bP bF bS hL hS h hs
      by_cases h1 : s.els = -1
      · have hv : Hid (r = 0) := hr.out.symm.trans (selE_ok hz0.out (.inl h1))
        go_wp2
        go_ret
        exact ⟨ret_i hv.out.symm, hbw⟩
      · by_cases h2 : 0 ≤ s.els ∧ s.els < f.code.length
        · have hv : Hid (r = 0) := hr.out.symm.trans (selE_ok hz0.out (.inr h2))
          go_wp2_with (go_at_call 171; (with_reducible refine (below_t _ _ _ (by omega)).mono ?_; rintro e w' ⟨rfl, rfl⟩))
          go_ret
          exact ⟨ret_i hv.out.symm, hbw⟩
        · have hv : Hid (r = 38) := hr.out.symm.trans (selE_else hz0.out (fun q => q.elim h1 h2))
          go_wp2_with (go_at_call 171; (with_reducible refine (below_f _ _ _ (by omega)).mono ?_; rintro e w' ⟨rfl, rfl⟩))
          go_ret
          exact ⟨ret_i hv.out.symm, hbw⟩
end Go.Proofs.YtafefnkgdnmjbaaGreatDoor.pg.pp
