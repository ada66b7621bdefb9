/- Bytes turned into a text, and the contract of the statements' SameBytes. -/
import Derived.Test.YtecimplpfghikaaCrc
import Derived.Laws.BytesArg
namespace Go.Proofs.Ytecimplpfghikaa.octet
open Go.ChangeShapes Go.WideShapes Go.ChangeAt Go.RowKit
open wrapped
set_option linter.unusedVariables false
/-- The text of n bytes. -/
def strOf (f : Nat → Nat) (n : Nat) : ByteArray := strOfNums ((List.range n).map fun i => ((f i : Nat) : Int))
theorem conv_any (w : World) (a : Option Addr) (n c : Nat) (f : Nat → Nat) (hr : Row w a n f) : (convert 22 9 (.slice a n c)).run Try.prog w = .ok (.string (strOf f n)) w := by
  rcases hr.2.2 with h0 | ⟨b, off, rfl, hc⟩
  · subst h0
    cases a with
    | none => exact run_convert_bytes_nil w 22 5 Try.underlying22 Try.underlying5 0 c 9 Try.underlying9
    | some ad =>
      have hl : (loadCells ad 0).run Try.prog w = .ok #[] w := by simpa using run_loadCells_list (P := Try.prog) w ad [] (fun j v hj => by simp at hj)
      rw [run_convert_bytes_string w 22 9 5 _ 0 c Try.underlying22 Try.underlying5 Try.underlying9, run_bytesToString w _ 0 c [] hl]
      rfl
  · refine run_convert_bytes_arg w 22 5 Try.underlying22 Try.underlying5 b off n c ((List.range n).map fun i => ((f i : Nat) : Int)) (by simp) (fun i hi => ?_) 9 Try.underlying9
    rw [hc i hi]
    simp [List.getD, hi]
/-- Are two lists of bytes the same? -/
def sameB (f : Nat → Nat) (n : Nat) (g : Nat → Nat) (m : Nat) : Bool := (strOf f n).toList == (strOf g m).toList
theorem sameB_iff (f g : Nat → Nat) (n m : Nat) (hf : ∀ i, f i < 256) (hg : ∀ i, g i < 256) : sameB f n g m = true ↔ n = m ∧ ∀ i, i < n → f i = g i := by
  have hd : ∀ (f : Nat → Nat) (n : Nat), (strOf f n).toList = (List.range n).map fun i => UInt8.ofNat (f i) := fun f n => by
    rw [ByteArray.toList_eq]; unfold strOf; rw [strOfNums_data, List.map_map]; rfl
  unfold sameB
  rw [beq_iff_eq, hd, hd]
  constructor
  · intro h
    have hl := congrArg List.length h
    simp at hl
    subst hl
    refine ⟨rfl, fun i hi => ?_⟩
    have h2 := congrArg (fun l => l[i]?) h
    simp [hi] at h2
    have h3 := congrArg UInt8.toNat h2
    simp at h3
    have := hf i
    have := hg i
    omega
  · rintro ⟨rfl, h⟩
    refine List.map_congr_left fun i hi => ?_
    rw [h i (by simpa using hi)]
theorem same_any (a b : Option Addr) (n m c d : Nat) (f g : Nat → Nat) (w : World) (h1 : Row w a n f) (h2 : Row w b m g) (r : Bool) (hr : sameB f n g m = r) :
    Calls Try.prog 12 #[.slice a n c, .slice b m d] w fun e w' => e = .returned (.bool r) ∧ w' = w := by
  have e1 := conv_any w a n c f h1
  have e2 := conv_any w b m d g h2
  have hr2 : ((strOf f n).toList == (strOf g m).toList) = r := hr
  generalize strOf f n = A at e1 hr2
  generalize strOf g m = B at e2 hr2
  clear hr h1 h2
  go_enter Try.func12, Try.ntmps12
  go_wp2
  go_ret
  exact ⟨rfl, rfl⟩
end Go.Proofs.Ytecimplpfghikaa.octet
