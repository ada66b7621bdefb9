/- The table of names that package word lays, as its row lists it; the contracts of word.Arity, Name, Named and the document's own. -/
import Derived.Test.YtecimplpfghikabDoorRows
import Derived.WalkKit
import Derived.ProofKit
import Derived.OpenShut
import Derived.WalkSpells
import Derived.WalkLawsBesides
import Derived.Lib.LaidTab
namespace Go.Proofs.YtecimplpfghikabDoor.names
open Go.ChangeShapes Go.WideShapes Go.ChangeAt Go.RowKit
set_option linter.unusedVariables false
theorem cells_of_strs {H : Type} {enc : TypeId × Value → H} {P : Program} {w : World} {base : Nat} {sp : Nat → Bool} {held : Bool} {fuel : Nat} {t e : TypeId} {n : Nat} {cs : List Value} {ss : List (List UInt8)} {p : List MemPlace}
    (ht : P.underlying t = some (.array n e)) (he : P.underlying e = some .string) (hce : P.cellsOf e = 1) (hct : P.cellsOf t = n)
    (h : DataW.trod enc P w base sp held fuel t cs = some (.agg (ss.map fun s => .lit (.string s)), p)) : cs = ss.map fun s => Value.string ⟨s.toArray⟩ := by
  cases fuel with
  | zero => simp [DataW.trod] at h
  | succ fuel =>
    simp only [DataW.trod, ht, hce, hct, Nat.mul_one] at h
    split at h
    · rename_i hl
      obtain ⟨xs, hm, hx⟩ := Option.map_eq_some_iff.1 h
      have hxs : xs.map (·.1) = ss.map fun s => (DataW.lit (.string s) : DataW H) := by
        have := congrArg Prod.fst hx
        simpa using this
      have hxl : xs.length = n := by simpa using Lib.mapM_length hm
      have hzl : ss.length = n := by
        have := congrArg List.length hxs
        simp at this
        omega
      apply List.ext_getElem?
      intro i
      by_cases hi : i < n
      · obtain ⟨b, hb, hf⟩ := Lib.mapM_at hm i i (by simp [hi])
        obtain ⟨z, hc, rfl, _⟩ := DataW.trod_string he hf
        have h1 : cs[i]? = some (.string z) := by
          have := congrArg (·[0]?) hc
          simpa [List.getElem?_take, List.getElem?_drop] using this
        have h2 : (xs.map (·.1))[i]? = some (DataW.lit (.string z.data.toList) : DataW H) := by simp [hb]
        rw [hxs] at h2
        simp only [List.getElem?_map, Option.map_eq_some_iff, DataW.lit.injEq, Lit.string.injEq] at h2
        obtain ⟨z', hz', rfl⟩ := h2
        simp [h1, hz']
      · rw [List.getElem?_eq_none (by omega), List.getElem?_eq_none (by simp; omega)]
    · cases h
/-- The names, at each operation's number. -/
def tab : List (List UInt8) := [[], [110, 101, 103], [110, 111, 116], [97, 98, 115], [111, 110, 101, 115], [108, 101, 97, 100], [116, 114, 97, 105, 108], [102, 108, 105, 112], [98, 111, 111, 108], [110, 111], [105, 56], [105, 49, 54], [105, 51, 50], [117, 56], [117, 49, 54], [117, 51, 50], [97, 100, 100], [115, 117, 98], [109, 117, 108], [100, 105, 118], [114, 101, 109], [97, 110, 100], [111, 114], [120, 111, 114], [99, 108, 101, 97, 114], [115, 104, 108], [115, 104, 114], [117, 115, 104, 114], [114, 111, 116, 108], [101, 113], [110, 101], [108, 116], [108, 101], [117, 108, 116], [109, 105, 110], [109, 97, 120], [104, 105, 103, 104]]
def nb (k : Nat) : ByteArray := ⟨(tab.getD k []).toArray⟩
/-- The variable holds the table. -/
def Names (w : World) : Prop := ∀ i, i < 37 → w.cell? ⟨0, i, none⟩ = some (.string (nb i))
theorem Names.later {w w' : World} (h : Names w) (hb : Below w.heap.size w w') : Names w' := fun i hi => cell_later hb (h i hi)
theorem gNames : Tryd.prog.globalNamed "scarab/word.names" = some 0 := by kernel_rfl
theorem names_of {rest : List (String × DataW Unit)} {W : World} {t : TypeId} (hty : (Tryd.prog.globals[0]?).map (·.type) = some t) (ht : Tryd.prog.underlying t = some (.array 37 9)) (hct : Tryd.prog.cellsOf t = 37)
    (h : laidMet Tryd.prog (("scarab/word.names", .agg (tab.map fun s => .lit (.string s))) :: rest) W) : Names W := by
  obtain ⟨ps, ⟨g', t', cs, fuel, p, q, hg', ht', hvar, hd, _, _⟩, _⟩ := h
  obtain rfl := Option.some.inj (gNames.symm.trans hg')
  obtain rfl := Option.some.inj (hty.symm.trans ht')
  have hcs := cells_of_strs ht Tryd.underlying9 (by kernel_rfl) hct hd
  intro i hi
  have := World.var?_cell gNames hvar i
  rw [this, ← Array.getElem?_toList, hcs]
  have hl : i < tab.length := hi
  simp [hl, List.getD, nb]
/-- Which name a text is, from the k-th on; 0: none. -/
def idx (l : List UInt8) : Nat → Nat → Nat
  | 0, _ => 0
  | fuel + 1, k => if tab.getD k [] == l then k else idx l fuel (k + 1)
theorem idx_back : ((List.range 36).all fun i => idx (tab.getD (i + 1) []) 36 1 == i + 1) = true := by decide
theorem idx_name (k : Nat) (h1 : 1 ≤ k) (h2 : k ≤ 36) : idx (tab.getD k []) 36 1 = k := by
  have := List.all_eq_true.1 idx_back (k - 1) (by simp; omega)
  rw [show k - 1 + 1 = k by omega] at this
  simpa using this
theorem eq_texts (k : Nat) (s : ByteArray) (l : List UInt8) (hs : s.data.toList = l) : ((nb k).toList == s.toList) = (tab.getD k [] == l) := by
  rw [ByteArray.toList_eq, ByteArray.toList_eq, hs]; rfl
theorem arity_any (op : Int) (h1 : 1 ≤ op) (h2 : op ≤ 36) (w : World) : Calls Tryd.prog 9 #[.int .i64 op] w fun e w' => ∃ r, e = .returned (.int .i64 r) ∧ (r == 0) = false ∧ w' = w := by
  by_cases ha : op ≤ 15
  · go_enter Tryd.func9, Tryd.ntmps9
    go_wp2
    go_ret
    exact ⟨1, rfl, by decide, rfl⟩
  · go_enter Tryd.func9, Tryd.ntmps9
    go_wp2
    go_ret
    exact ⟨2, rfl, by decide, rfl⟩
theorem refarity_any (op : Int) (h1 : 1 ≤ op) (h2 : op ≤ 36) (w : World) : Calls Tryd.prog 10 #[.int .i64 op] w fun e w' => ∃ r, e = .returned (.int .i64 r) ∧ (r == 0) = false ∧ w' = w := by
  by_cases ha : op ≤ 15
  · go_enter Tryd.func10, Tryd.ntmps10
    go_wp2
    go_ret
    exact ⟨1, rfl, by decide, rfl⟩
  · go_enter Tryd.func10, Tryd.ntmps10
    go_wp2
    go_ret
    exact ⟨2, rfl, by decide, rfl⟩
theorem name_any (k : Nat) (h1 : 1 ≤ k) (h2 : k ≤ 36) (w : World) (hN : Names w) (B : ByteArray) (hB : nb k = B) :
    Calls Tryd.prog 11 #[.int .i64 k] w fun e w' => e = .returned (.string B) ∧ w' = w := by
  have cA := fun w => arity_any k (by omega) (by omega) w
  have hc := hN k (by omega)
  rw [hB] at hc
  have h1I : (1 : Int) ≤ (k : Int) := by omega
  have h2I : (k : Int) ≤ 36 := by omega
  clear hN hB
  go_enter Tryd.func11, Tryd.ntmps11
  go_wp2_with (go_at_call 9; with_reducible refine (cA _).mono ?_; rintro e w' ⟨r, rfl, hr, hw⟩; replace hw := hw.symm; subst hw)
  go_ret
  exact ⟨rfl, rfl⟩
/-- The cells of the document's list. -/
def NM : Array Value := ((List.range 36).map fun i => Value.string (nb (i + 1))).toArray
theorem NM_get (i : Nat) (h : i < 36) : NM[i]? = some (.string (nb (i + 1))) := by simp [NM, h]
set_option maxRecDepth 100000 in
theorem refnames_any (w : World) : Calls Tryd.prog 27 #[] w fun e w' => e = .returned (.slice (some ⟨w.heap.size, 0, none⟩) 36 36) ∧ w' = w.alloc (.cells NM 9) := by
  go_enter Tryd.func27, Tryd.ntmps27
  go_wp2
  go_ret
  exact ⟨rfl, rfl⟩
set_option maxHeartbeats 1000000 in
theorem named_any (s : ByteArray) (l : List UInt8) (hs : s.data.toList = l) (w : World) (hN : Names w) (R : Nat) (hR : Hid (idx l 36 1 = R)) (b : Bool) (hb0 : Hid (decide (0 < R) = b)) :
    Calls Tryd.prog 13 #[.string s] w fun e w' => e = .returned (.tuple #[.int .i64 ((R : Nat) : Int), .bool b]) ∧ w' = w := by
  have heq := fun k => eq_texts k s l hs
  go_enter Tryd.func13, Tryd.ntmps13
  go_wp2
  go_loop [4] (fun i => ∃ k : Nat, 1 ≤ k ∧ k ≤ 37 ∧ i = .int .i64 k ∧ Hid (idx l (37 - k) k = R)) (fun i => 37 - (intOf i).toNat)
  case atStart => exact ⟨1, by omega, by omega, rfl, hR⟩
  case round =>
    obtain ⟨k, hk1, hk, rfl, hrun⟩ := hrel
    by_cases hk36 : k ≤ 36
    · have hc := hN k (by omega)
      have he := heq k
      have hst : idx l (37 - k) k = if tab.getD k [] == l then k else idx l (37 - (k + 1)) (k + 1) := by
        rw [show 37 - k = (37 - (k + 1)) + 1 by omega]; rfl
      have hI1 : (1 : Int) ≤ (k : Int) := by omega
      have hI2 : (k : Int) ≤ 36 := by omega
      cases hb : (tab.getD k [] == l) with
      | true =>
        rw [hb] at he hst
        have hRk : R = k := by rw [← hrun.out, hst]; rfl
        subst hRk
        have hb1 : b = true := by rw [← hb0.out]; exact decide_eq_true (by omega)
        subst hb1
        generalize nb R = B at *
        clear hN heq hR hrun hst hb hb0
        go_wp2
        go_ret2
        exact ⟨rfl, rfl⟩
      | false =>
        rw [hb] at he hst
        have hrun2 : Hid (idx l (37 - (k + 1)) (k + 1) = R) := by have := hrun.out; rw [hst] at this; exact this
        generalize nb k = B at *
        clear hN heq hR hrun hst hb hb0
        go_wp2
        go_round
        case rel => exact ⟨k + 1, by omega, by omega, by go_num, hrun2⟩
        case measure => simp [intOf]; omega
    · have hk37 : k = 37 := by omega
      subst hk37
      have hR0 : R = 0 := hrun.out.symm
      subst hR0
      have hb1 : b = false := by rw [← hb0.out]; rfl
      subst hb1
      clear hN heq hR hrun hb0
      go_wp2
      go_ret2
      exact ⟨rfl, rfl⟩
set_option maxHeartbeats 1000000 in
theorem refnamed_any (s : ByteArray) (l : List UInt8) (hs : s.data.toList = l) (w : World) (R : Nat) (hR : Hid (idx l 36 1 = R)) :
    Calls Tryd.prog 14 #[.string s] w fun e w' => e = .returned (.int .i64 ((R : Nat) : Int)) ∧ w' = w.alloc (.cells NM 9) := by
  have heq := fun k => eq_texts k s l hs
  have cN := refnames_any w
  have hcell : ∀ i, i < 36 → (w.alloc (.cells NM 9)).cell? ⟨w.heap.size, i, none⟩ = some (.string (nb (i + 1))) := fun i hi => by
    rw [cell_of_row _ w.heap.size i NM 9 (0, 0) (heap_alloc_new w _), NM_get i hi]
  generalize hW : w.alloc (.cells NM 9) = W at *
  clear hW
  go_enter Tryd.func14, Tryd.ntmps14
  go_wp2_with (go_at_call 27; with_reducible refine cN.mono ?_; rintro e w' ⟨rfl, hw⟩; replace hw := hw.symm; subst hw)
  go_loop [4] (fun i => ∃ k : Nat, k ≤ 36 ∧ i = .int .i64 k ∧ Hid (idx l (36 - k) (k + 1) = R)) (fun i => 36 - (intOf i).toNat)
  case atStart => exact ⟨0, by omega, rfl, hR⟩
  case round =>
    obtain ⟨k, hk, rfl, hrun⟩ := hrel
    by_cases hk36 : k < 36
    · have hc := hcell k (by omega)
      have he := heq (k + 1)
      have hst : idx l (36 - k) (k + 1) = if tab.getD (k + 1) [] == l then k + 1 else idx l (36 - (k + 1)) (k + 1 + 1) := by
        rw [show 36 - k = (36 - (k + 1)) + 1 by omega]; rfl
      have hI2 : (k : Int) < 36 := by omega
      cases hb : (tab.getD (k + 1) [] == l) with
      | true =>
        rw [hb] at he hst
        have hRk : R = k + 1 := by rw [← hrun.out, hst]; rfl
        have hRI : Hid (((R : Nat) : Int) = (k : Int) + 1) := by show ((R : Nat) : Int) = _; omega
        generalize nb (k + 1) = B at *
        clear hcell heq hR hrun hst hb hRk cN
        go_wp2
        go_ret
        exact ⟨congrArg (fun x => Ending.returned (.int .i64 x)) hRI.out.symm, rfl⟩
      | false =>
        rw [hb] at he hst
        have hrun2 : Hid (idx l (36 - (k + 1)) (k + 1 + 1) = R) := by have := hrun.out; rw [hst] at this; exact this
        generalize nb (k + 1) = B at *
        clear hcell heq hR hrun hst hb cN
        go_wp2
        go_round
        case rel => exact ⟨k + 1, by omega, by go_num, hrun2⟩
        case measure => simp [intOf]; omega
    · have hk37 : k = 36 := by omega
      subst hk37
      have hR0 : R = 0 := hrun.out.symm
      subst hR0
      clear hcell heq hR hrun cN
      go_wp2
      go_ret
      exact ⟨rfl, rfl⟩
theorem refname_any (k : Nat) (h1 : 1 ≤ k) (h2 : k ≤ 36) (w : World) (B : ByteArray) (hB : nb k = B) :
    Calls Tryd.prog 12 #[.int .i64 k] w fun e w' => e = .returned (.string B) ∧ w' = w.alloc (.cells NM 9) := by
  have cA := fun w => refarity_any k (by omega) (by omega) w
  have cN := refnames_any w
  have hcell : (w.alloc (.cells NM 9)).cell? ⟨w.heap.size, k - 1, none⟩ = some (.string B) := by
    rw [cell_of_row _ w.heap.size (k - 1) NM 9 (0, 0) (heap_alloc_new w _), NM_get (k - 1) (by omega), show k - 1 + 1 = k by omega, hB]
  have hcell2 : (w.alloc (.cells NM 9)).cell? ⟨w.heap.size, ((k : Int) - 1).toNat, none⟩ = some (.string B) := by rw [show ((k : Int) - 1).toNat = k - 1 by omega]; exact hcell
  have h1I : (0 : Int) ≤ (k : Int) - 1 := by omega
  have h2I : (k : Int) - 1 < 36 := by omega
  generalize hW : w.alloc (.cells NM 9) = W at *
  clear hB hW h1 h2
  go_enter Tryd.func12, Tryd.ntmps12
  go_wp2_with (first | (go_at_call 10; with_reducible refine (cA _).mono ?_; rintro e w' ⟨r, rfl, hr, hw⟩; replace hw := hw.symm; subst hw) | (go_at_call 27; with_reducible refine cN.mono ?_; rintro e w' ⟨rfl, hw⟩; replace hw := hw.symm; subst hw))
  go_ret
  exact ⟨rfl, rfl⟩
end Go.Proofs.YtecimplpfghikabDoor.names
