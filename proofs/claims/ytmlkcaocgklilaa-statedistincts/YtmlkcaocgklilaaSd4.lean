/- States that came in, opened. -/
import Derived.Test.YtmlkcaocgklilaaSd3
namespace Go.Proofs.Ytmlkcaocgklilaa.pg
open Go.ChangeShapes Go.WideShapes Go.ChangeAt Go.RowKit
set_option linter.unusedVariables false
set_option maxRecDepth 100000
section
variable {H : Type} {enc : TypeId × Value → H} {w : World} {base : Nat} {spare : Nat → Bool} {held : Bool}
theorem sta_in {n : Nat} {cs : List Value} {y : DataW H × List MemPlace} (hl : cs.length = 121) (h : DataW.trod enc Try.prog w base spare held n 36 cs = some y) : ∃ x : Sta, cs = x.cs := by
  have hc : Try.prog.cellsOf 36 = 121 := by kernel_rfl
  have hf : (Value.agg cs.toArray).formed Try.prog 36 = true := by simp [Value.formed, Try.underlying36, hc, hl]
  have ht : DataW.Trod enc Try.prog w base spare held 36 (.agg cs.toArray) y.1 y.2 := ⟨n, by simpa [Value.cells] using h⟩
  have hk := (keyOf_asKey (by kernel_rfl) (by rw [Try.underlying36]) hf ht).1
  exact ⟨⟨cs, hl, _, hk⟩, rfl⟩
theorem states_sz {n : Nat} {a : Option Addr} {len cap : Nat} {y : DataW H × List MemPlace} (h : DataW.trod enc Try.prog w base spare held n 22 [.slice a len cap] = some y) (hs : Sz Try.prog 22 y.1) : ∃ l : List Sta, l.length = len ∧ StatesIn w a cap l := by
  obtain ⟨z, _⟩ := z_ex
  obtain ⟨l, rfl, h1, h2, h3⟩ := rows_sz (k := 121) z Sta.cs (fun _ => True) Try.underlying22 (by kernel_rfl) (by omega) (fun n cs y hl h _ => by obtain ⟨x, hx⟩ := sta_in hl h; exact ⟨x, hx, trivial⟩) h hs
  have hb : Try.prog.bytesOf 36 = 968 := by kernel_rfl
  rw [hb] at h3
  exact ⟨l, rfl, h1, by omega⟩
end
end Go.Proofs.Ytmlkcaocgklilaa.pg
