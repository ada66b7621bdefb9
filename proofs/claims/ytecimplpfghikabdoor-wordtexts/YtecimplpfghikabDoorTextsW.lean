/- Text and Parse of package word at the text of a word; the walk of the statement on texts. -/
import Derived.Test.YtecimplpfghikabDoorRefText
import Derived.Test.YtecimplpfghikabDoorShelfB
import Derived.Test.YtecimplpfghikabDoorWord
import Derived.Lib.AppendIntMem
import Derived.Lib.AtoiErrMem
namespace Go.Proofs.YtecimplpfghikabDoor.texts
open Go.ChangeShapes Go.WideShapes Go.ChangeAt Go.RowKit
open wrapped
set_option linter.unusedVariables false
/-- The library's table of the powers of ten is as its initialiser lays it. -/
def Tab (w : World) : Prop := Lib.TabIs Tryd.prog w "internal/strconv.uint64pow10" .u64 Lib.pow10Tab
theorem Tab.later {w w' : World} (h : Tab w) (hb : Below w.heap.size w w') : Tab w' := by
  unfold Tab Lib.TabIs World.var? at *
  obtain ⟨g, hg⟩ : ∃ g, Tryd.prog.globalNamed "internal/strconv.uint64pow10" = some g := by
    cases hg : Tryd.prog.globalNamed "internal/strconv.uint64pow10" with
    | none => simp [hg] at h
    | some g => exact ⟨g, rfl⟩
  simp only [hg, Option.bind_some] at h ⊢
  have hlt : g < w.heap.size := by
    rcases Nat.lt_or_ge g w.heap.size with h' | h'
    · exact h'
    · simp [Array.getElem?_eq_none h'] at h
  rw [hb.block g hlt]; exact h
/-- The text of a word. -/
def txt (X : Int) : ByteArray := ⟨(Lib.itoa X).toArray⟩
theorem text_any (X : Int) (h0 : -9223372036854775808 ≤ X) (h1 : X ≤ 9223372036854775807) (S : ByteArray) (hS : txt X = S) (w : World) (hT : Tab w) :
    Calls Tryd.prog 15 #[.int .i64 X] w fun e w' => e = .returned (.string S) ∧ Below w.heap.size w w' := by
  have c := Tryd.strconv_FormatInt_10 X h0 h1 w hT
  subst hS
  unfold txt
  generalize (Lib.itoa X).toArray = L at c ⊢
  go_enter Tryd.func15, Tryd.ntmps15
  go_wp2_with (first | (go_at_call 28; (with_reducible refine c.mono ?_); rintro e w1 ⟨rfl, k, os, hw⟩; have hb : Below w.heap.size w w1 := (by rw [hw]; exact Lib.below_grow _ w (Nat.le_refl _) k os); clear hw))
  go_ret
  exact ⟨rfl, hb⟩
theorem reftext_any (X : Int) (h0 : -9223372036854775808 ≤ X) (h1 : X ≤ 9223372036854775807) (S : ByteArray) (hS : txt X = S) (w : World) :
    Calls Tryd.prog 17 #[.int .i64 X] w fun e w' => e = .returned (.string S) ∧ Below w.heap.size w w' := by
  subst hS
  by_cases hn : X < 0
  · have := reftext_neg X X.natAbs (by unfold Hid; omega) hn h0 w
    rw [show txt X = ⟨(45 :: Lib.decDigits X.natAbs).toArray⟩ by rw [txt, Lib.itoa, if_pos hn]]
    exact this
  · rw [show txt X = ⟨(Lib.decDigits X.toNat).toArray⟩ by rw [txt, Lib.itoa, if_neg hn]]
    by_cases hz : X = 0
    · subst hz
      rw [show (⟨(Lib.decDigits (Int.toNat 0)).toArray⟩ : ByteArray) = ⟨#[48]⟩ by rw [Lib.decDigits]; rfl]
      go_enter Tryd.func17, Tryd.ntmps17
      go_wp2
      go_ret
      exact ⟨rfl, Below.refl _ w⟩
    · exact reftext_pos X X.toNat (by unfold Hid; omega) (by omega) h1 w
theorem dec_all (u : Nat) : ∀ c ∈ Lib.decDigits u, c.toNat ≤ 57 := by
  induction u using Nat.strongRecOn with
  | _ u ih =>
    rw [Lib.decDigits]
    by_cases h : u < 10
    · rw [dif_pos h]; intro c hc; simp only [List.mem_singleton] at hc; rw [hc, digit_toNat u h]; omega
    · rw [dif_neg h]
      intro c hc
      rcases List.mem_append.1 hc with hc | hc
      · exact ih (u / 10) (by omega) c hc
      · simp only [List.mem_singleton] at hc; rw [hc, digit_toNat (u % 10) (by omega)]; omega
theorem dec_len (k : Nat) : ∀ u, u < 10 ^ (k + 1) → (Lib.decDigits u).length ≤ k + 1 := by
  induction k with
  | zero => intro u h; rw [Lib.decDigits, dif_pos (by omega)]; simp
  | succ k ih =>
    intro u h
    rw [Lib.decDigits]
    by_cases h1 : u < 10
    · rw [dif_pos h1]; simp
    · rw [dif_neg h1, List.length_append]
      have := ih (u / 10) (by rw [Nat.pow_succ] at h; omega)
      simp; omega
theorem txt_len (X : Int) (h0 : -9223372036854775808 ≤ X) (h1 : X ≤ 9223372036854775807) : (Lib.itoa X).length ≤ 20 := by
  unfold Lib.itoa
  split
  · have := dec_len 18 X.natAbs (by omega); simp; omega
  · have := dec_len 18 X.toNat (by omega); omega
theorem txt_prefix (X : Int) : Lib.hasPrefix (Lib.itoa X) [48, 120] = false := by
  unfold Lib.hasPrefix Lib.itoa
  split
  · rfl
  · have h := dec_all X.toNat
    match hd : Lib.decDigits X.toNat, h with
    | [], _ => rfl
    | [c], _ => simp [List.isPrefixOf]
    | c :: d :: r, h =>
      have hd' : d.toNat ≤ 57 := h d (by simp)
      have : ¬ (120 : UInt8) = d := by intro e; rw [← e] at hd'; exact absurd hd' (by decide)
      simp [List.isPrefixOf, this]
set_option maxHeartbeats 1000000 in
set_option maxRecDepth 100000 in
theorem parse_any (X : Int) (h0 : -9223372036854775808 ≤ X) (h1 : X ≤ 9223372036854775807) (S : ByteArray) (hS : txt X = S) (w : World) (hT : Tab w) :
    Calls Tryd.prog 16 #[.string S] w fun e w' => e = .returned (.tuple #[.int .i64 X, .int .i64 0]) ∧ Below w.heap.size w w' := by
  have hd : S.data.toList = Lib.itoa X := by rw [← hS]; rfl
  have hsz : S.size ≤ 20 := by have := txt_len X h0 h1; rw [← hd] at this; simpa using this
  have hp : Lib.hasPrefix S.data.toList (ByteArray.mk #[48, 120]).data.toList = false := by rw [hd]; exact txt_prefix X
  have cC : ∀ w', Calls Tryd.prog 29 #[.string S, .string ⟨#[48, 120]⟩] w' fun e w2 => e = .returned (.tuple #[.string S, .bool false]) ∧ w2 = w' := fun w' => by
    have := Tryd.strings_CutPrefix S ⟨#[48, 120]⟩ w'
    rw [Lib.trimPrefix, hp] at this
    exact this
  have cP : ∀ w', Calls Tryd.prog 31 #[.string S, .int .i64 10, .int .i64 64] w' fun e w2 => e = .returned (.tuple #[.int .i64 X, .nilIface]) ∧ Below w'.heap.size w' w2 := fun w' =>
    (Tryd.strconv_ParseInt_10_at64_ok S (by omega) X (by rw [hd]; exact parse_itoa X h0 h1) w').mono fun e w2 ⟨he, hw⟩ => ⟨he, by
      rcases hw with rfl | ⟨t, rfl⟩
      · exact Below.refl _ _
      · exact Lib.bytesWorld_below _ _ _⟩
  have cT := fun w' (h : Tab w') => text_any X h0 h1 S hS w' h
  clear hd hp hS
  go_enter Tryd.func16, Tryd.ntmps16
  go_wp2_with (first
    | (go_at_call 29; (with_reducible refine (cC _).mono ?_); rintro e w' ⟨rfl, hw⟩; replace hw := hw.symm; subst hw)
    | (go_at_call 31; (with_reducible refine (cP _).mono ?_); rintro e w1 ⟨rfl, hb1⟩; have hT1 := hT.later hb1)
    | (go_at_call 15; (with_reducible refine (cT _ hT1).mono ?_); rintro e w2 ⟨rfl, hb2⟩))
  go_ret2
  exact ⟨rfl, hb1.trans (hb2.mono hb1.size)⟩
set_option maxHeartbeats 1000000 in
set_option maxRecDepth 100000 in
theorem walk (X : Int) (h0 : -9223372036854775808 ≤ X) (h1 : X ≤ 9223372036854775807) (w : World) (hT : Tab w) :
    Calls Tryd.prog 5 #[.int .i64 X] w fun e w' => e = .returned (.bool true) ∧ Below w.heap.size w w' := by
  obtain ⟨S, hS⟩ : ∃ S, txt X = S := ⟨_, rfl⟩
  have cS := word.speaks_any
  have cT := fun w' (h : Tab w') => text_any X h0 h1 S hS w' h
  have cP := fun w' (h : Tab w') => parse_any X h0 h1 S hS w' h
  have cR := fun w' => reftext_any X h0 h1 S hS w'
  clear hS
  go_enter Tryd.func5, Tryd.ntmps5
  go_wp2_with (first
    | (go_at_call 15; (with_reducible refine (cT _ hT).mono ?_); rintro e w1 ⟨rfl, hb1⟩; have hT1 := hT.later hb1)
    | (go_at_call 16; (with_reducible refine (cP _ hT1).mono ?_); rintro e w2 ⟨rfl, hb2⟩)
    | (go_at_call 8; (with_reducible refine (cS _).mono ?_); rintro e w' ⟨rfl, hw⟩; replace hw := hw.symm; subst hw)
    | (go_at_call 17; (with_reducible refine (cR _).mono ?_); rintro e w3 ⟨rfl, hb3⟩))
  go_ret
  have hb12 := hb1.trans (hb2.mono hb1.size)
  exact ⟨rfl, hb12.trans (hb3.mono hb12.size)⟩
end Go.Proofs.YtecimplpfghikabDoor.texts
