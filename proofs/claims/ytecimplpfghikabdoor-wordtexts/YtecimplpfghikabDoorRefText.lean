/- The document's own Text: the digits of a word, one by one. -/
import Derived.Test.YtecimplpfghikabDoorRows
import Derived.Test.YtecimplpfghikabDoorTexts
import Derived.Test.YtecimplpfghikabDoorWrap
import Derived.WalkKit
import Derived.ProofKit
import Derived.Below
import Derived.RowKit
import Derived.WalkSpells
import Derived.WalkLawsBesides
import Derived.Laws.IdiomStrings
namespace Go.Proofs.YtecimplpfghikabDoor.texts
open Go.ChangeShapes Go.WideShapes Go.ChangeAt Go.RowKit
open wrapped
set_option linter.unusedVariables false
/-- What the loop has made of x's digits: those of m are still to come, l is there. -/
def Made (x m : Nat) (l : List UInt8) : Prop := if m = 0 then l = Lib.decDigits x else Lib.decDigits m ++ l = Lib.decDigits x
theorem Made.next {x m : Nat} {l : List UInt8} (h : Made x m l) (hm : ¬ m = 0) : Made x (m / 10) (UInt8.ofNat (48 + m % 10) :: l) := by
  unfold Made at *
  rw [if_neg hm, Lib.decDigits] at h
  by_cases h1 : m < 10
  · rw [dif_pos h1] at h
    rw [if_pos (by omega), Nat.mod_eq_of_lt h1]; exact h
  · rw [dif_neg h1, List.append_assoc] at h
    rw [if_neg (by omega)]; exact h
theorem cat_one (B : UInt8) (l : List UInt8) : Value.string (({ data := #[B] } : ByteArray) ++ { data := l.toArray }) = Value.string { data := (B :: l).toArray } := by
  congr 1
/-- There is room for a sign and for the digits still to come. -/
def Room (n m : Nat) : Prop := 2 * n + m ≤ 9223372036854775809 ∧ (m ≠ 0 → 2 * n + m ≤ 9223372036854775808)
theorem conv_one (w : World) (v : Int) (d : Nat) (hd : d < 10) (hv : v = 48 + (d : Int)) (B : UInt8) (hB : UInt8.ofNat (48 + d) = B) :
    (convert 55 9 (.slice (some ⟨w.heap.size, 0, none⟩) 1 1)).run Tryd.prog (w.alloc (.cells #[.int .u8 v] 5)) = .ok (.string ⟨#[B]⟩) (w.alloc (.cells #[.int .u8 v] 5)) := by
  subst hB
  refine run_convert_bytes_back (P := Tryd.prog) (w.alloc (.cells #[.int .u8 v] 5)) 55 9 5 ⟨w.heap.size, 0, none⟩ 1 [UInt8.ofNat (48 + d)] Tryd.underlying55 Tryd.underlying5 Tryd.underlying9 (fun j hj => ?_)
  obtain rfl : j = 0 := by simp at hj; omega
  have h := cell_of_row (w.alloc (.cells #[.int .u8 v] 5)) w.heap.size 0 _ 5 (0, 0) (heap_alloc_new w _)
  rw [show ((⟨w.heap.size, 0, none⟩ : Addr).add 0) = ⟨w.heap.size, 0, none⟩ from rfl, h]
  simp [hv]
  omega
set_option maxHeartbeats 1000000 in
set_option maxRecDepth 100000 in
theorem reftext_pos (X : Int) (x : Nat) (hX : Hid (X = x)) (hx : 0 < X) (hm : X ≤ 9223372036854775807) (w : World) :
    Calls Tryd.prog 17 #[.int .i64 X] w fun e w' => e = .returned (.string ⟨(Lib.decDigits x).toArray⟩) ∧ Below w.heap.size w w' := by
  have hx0 : ¬ (X = 0) := by omega
  have hx1 : ¬ (X < 0) := by omega
  obtain ⟨S, hS⟩ : ∃ S : Value, Hid (Value.string ⟨(Lib.decDigits x).toArray⟩ = S) := ⟨_, rfl⟩
  rw [hS.out]
  go_enter Tryd.func17, Tryd.ntmps17
  go_wp2
  go_loopw [3, 4] (fun s n wr => ∃ (v : Int) (m : Nat) (l : List UInt8), Hid (v = m) ∧ 0 ≤ v ∧ v ≤ 9223372036854775807 ∧ s = .string ⟨l.toArray⟩ ∧ n = .int .i64 v ∧ Hid (Made x m l) ∧ Hid ((l.length : Int) + v ≤ 9223372036854775807) ∧ Below w.heap.size w wr) (fun _ n _ => (intOf n).toNat)
  case atStart => exact ⟨X, x, [], hX, by omega, by omega, rfl, rfl, (by have := hX.out; rw [Hid, Made, if_neg (by omega), List.append_nil]), (by simp [Hid]; omega), Below.refl _ w⟩
  case round =>
    obtain ⟨v, m, l, hv, hv0, hv1, rfl, rfl, hM, hL, hb⟩ := hrel
    by_cases hz : v = 0
    · subst hz
      have hm0 : m = 0 := by have := hv.out; omega
      have hl : l = Lib.decDigits x := by have := hM.out; rw [Made, if_pos hm0] at this; exact this
      subst hl
      rw [hS.out]
      go_wp2
      go_ret
      exact ⟨rfl, hb⟩
    · have hm0 : ¬ m = 0 := by have := hv.out; omega
      have hN := hM.out.next hm0
      obtain ⟨T, hT⟩ : ∃ T, Hid (v % 10 = T) := ⟨_, rfl⟩
      have hT0 : 0 ≤ T := by have := hT.out; omega
      have hT9 : T < 10 := by have := hT.out; omega
      have hmT : (T : Int) = ((m % 10 : Nat) : Int) := by have := hT.out; have := hv.out; omega
      obtain ⟨B, hB⟩ : ∃ B, UInt8.ofNat (48 + m % 10) = B := ⟨_, rfl⟩
      have hcv := conv_one wr (48 + v % 10) (m % 10) (by omega) (by have := hT.out; omega) B hB
      have hlen : ¬ 9223372036854775807 < 1 + l.length := by have := hL.out; omega
      rw [hB] at hN
      clear hmT hT0 hT9 hT hm0 hB
      go_wp2
      exact ⟨⟨v / 10, m / 10, B :: l, (by have := hv.out; show v / 10 = ((m / 10 : Nat) : Int); omega), by omega, by omega, cat_one B l, rfl, hN, (by have := hL.out; simp [Hid]; omega), hb.alloc hb.size _⟩, by simp [intOf]; omega⟩
set_option maxHeartbeats 1000000 in
set_option maxRecDepth 100000 in
theorem reftext_neg (X : Int) (x : Nat) (hX : Hid (X = -(x : Int))) (hx : X < 0) (hm : -9223372036854775808 ≤ X) (w : World) :
    Calls Tryd.prog 17 #[.int .i64 X] w fun e w' => e = .returned (.string ⟨(45 :: Lib.decDigits x).toArray⟩) ∧ Below w.heap.size w w' := by
  have hx0 : ¬ (X = 0) := by omega
  obtain ⟨S, hS⟩ : ∃ S : Value, Hid (Value.string ⟨(45 :: Lib.decDigits x).toArray⟩ = S) := ⟨_, rfl⟩
  rw [hS.out]
  go_enter Tryd.func17, Tryd.ntmps17
  go_wp2
  go_loopw [3, 4] (fun s n wr => ∃ (v : Int) (m : Nat) (l : List UInt8), Hid (v = -(m : Int)) ∧ v ≤ 0 ∧ -9223372036854775808 ≤ v ∧ s = .string ⟨l.toArray⟩ ∧ n = .int .i64 v ∧ Hid (Made x m l) ∧ Hid (Room l.length m) ∧ Below w.heap.size w wr) (fun _ n _ => (-(intOf n)).toNat)
  case atStart => exact ⟨X, x, [], hX, by omega, by omega, rfl, rfl, (by have := hX.out; rw [Hid, Made, if_neg (by omega), List.append_nil]), (by have := hX.out; unfold Hid Room; simp; omega), Below.refl _ w⟩
  case round =>
    obtain ⟨v, m, l, hv, hv0, hv1, rfl, rfl, hM, hL, hb⟩ := hrel
    by_cases hz : v = 0
    · subst hz
      have hm0 : m = 0 := by have := hv.out; omega
      have hl : l = Lib.decDigits x := by have := hM.out; rw [Made, if_pos hm0] at this; exact this
      subst hl
      have hlen : ¬ 9223372036854775807 < 1 + (Lib.decDigits x).length := by have := hL.out.1; omega
      go_wp2
      go_ret
      exact ⟨by rw [cat_one, hS.out]; rfl, hb⟩
    · have hm0 : ¬ m = 0 := by have := hv.out; omega
      have hN := hM.out.next hm0
      obtain ⟨B, hB⟩ : ∃ B, UInt8.ofNat (48 + m % 10) = B := ⟨_, rfl⟩
      have hlen : ¬ 9223372036854775807 < 1 + l.length := by have := hL.out.1; omega
      obtain ⟨T, hT⟩ : ∃ T : Int, Hid (((m % 10 : Nat) : Int) = T) := ⟨_, rfl⟩
      obtain ⟨Q, hQ⟩ : ∃ Q : Int, Hid (((m / 10 : Nat) : Int) = Q) := ⟨_, rfl⟩
      have hq : v.tdiv 10 = -Q := by have := hv.out; subst this; rw [← hQ.out, Int.neg_tdiv, Int.tdiv_eq_ediv_of_nonneg (by omega)]; omega
      have hr : v.tmod 10 = -T := by have := hv.out; subst this; rw [← hT.out, Int.neg_tmod, Int.tmod_eq_emod_of_nonneg (by omega)]; omega
      have hQ1 : Q ≤ 922337203685477580 := by have := hQ.out; have := hv.out; omega
      have hQv : Q < -v := by have := hQ.out; have := hv.out; omega
      have hQ0 : 0 ≤ Q := by have := hQ.out; omega
      have hT9 : T < 10 := by have := hT.out; omega
      have hR : Hid (Room (l.length + 1) (m / 10)) := by have := hL.out.2 hm0; unfold Hid Room; omega
      rw [hB] at hN
      have hcv := conv_one wr (48 + T) (m % 10) (by omega) (by have := hT.out; omega) B hB
      by_cases hT0 : T = 0
      · subst hT0
        rw [Int.add_zero] at hcv
        clear hB hL hT
        go_wp2
        exact ⟨⟨-Q, m / 10, B :: l, (by have := hQ.out; show -Q = -((m / 10 : Nat) : Int); omega), by omega, by omega, cat_one B l, rfl, hN, hR, hb.alloc hb.size _⟩, by simp [intOf]; omega⟩
      · have hTp : 0 < T := by have := hT.out; omega
        have hTn : -T < 0 := by omega
        clear hB hL hT
        go_wp2
        exact ⟨⟨-Q, m / 10, B :: l, (by have := hQ.out; show -Q = -((m / 10 : Nat) : Int); omega), by omega, by omega, cat_one B l, rfl, hN, hR, hb.alloc hb.size _⟩, by simp [intOf]; omega⟩
end Go.Proofs.YtecimplpfghikabDoor.texts
