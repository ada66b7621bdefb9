/- A region that draws its order, walked once in the order of its text, in every world of a class: reads, and calls that leave a world of the class. -/
import Derived.Test.YtbajfgllgfmnfaaBox
import Derived.Deep.QuietTactic
import Derived.BigQuiet
import Derived.Deep.MidRow
namespace Go.Proofs.Ytbajfgllgfmnfaa.pg
open Go.ChangeShapes Go.WideShapes Go.ChangeAt Go.RowKit
set_option linter.unusedVariables false
/-- A world of a class. -/
structure Cls (S : World → Prop) where
  w : World
  h : S w
theorem wp_region_cls {P : Program} (S : World → Prop) {id : Nat} {Q : Exit → Act → World → Prop} {a : Act} {w : World} {l : List Oper} (hm : P.follows .mixedOrders = true) (hB : Region.lexB .any l.toArray = true) (hS : S w.drew)
    (h : wpQuiet P l.toArray (fun w' => ∃ s : Cls S, w' = s.w) (fun a' => ∀ w', (∃ s : Cls S, w' = s.w) → Q .normal a' w') l a) : (Code.region id l.toArray true).wp P Q a w :=
  wp_region_quiet (C := fun w' => ∃ s : Cls S, w' = s.w) hm hB ⟨⟨_, hS⟩, rfl⟩ (by simpa using h)
/-- A load of many cells at once, in every world of the class. -/
theorem quiet_load_mid {P : Program} {S : World → Prop} {K : Act → Prop} {o : Oper} {a : Act} (ty : TypeId) (x : Operand) (ho : o.op = .load ty x) (b off : Nat) (hx : a.eval x = .pointer (some ⟨b, off, none⟩)) (cs : List Value) (d : TypeDesc) (hS : ∀ s : Cls S, s.w.rangeAt b off cs)
    (hu : P.underlying ty = some d) (hd : d.isRow = true) (hi : (P.info? ty).map (·.size) = some cs.length) (hk : K (a.put o.dst (.agg cs.toArray))) : o.quiet P a (fun w' => ∃ s : Cls S, w' = s.w) K :=
  ⟨_, fun w hw => by
    obtain ⟨s, rfl⟩ := hw
    unfold Oper.quietAt execOp
    simp only [ho, hx, Instr.loadAt, Instr.sureAddr, Sem.run_bind, Sem.run_pure, Result.andThen_ok, run_loadVar_mid s.w b off ty cs d (hS s) hu hd hi]
    exact ⟨rfl, rfl⟩, hk⟩
/-- A callee's contract in the class of all worlds that lie beyond one. -/
theorem calls_cls {P : Program} {f : FuncId} {args : Array Value} {S : World → Prop} {s : Cls S} {v : Value} {R : World → Prop} (h : Calls P f args s.w fun e w' => e = .returned v ∧ R w') (hR : ∀ w', R w' → S w') :
    Calls P f args s.w fun e w'' => e = .returned v ∧ ∃ t : Cls S, w'' = t.w :=
  h.mono fun _ w' ⟨he, hr⟩ => ⟨he, ⟨w', hR w' hr⟩, rfl⟩
/-- All worlds beyond one. -/
abbrev Bey (W : World) : World → Prop := fun w' => Below W.heap.size W w'
theorem bey_some (W : World) : Nonempty (Cls (Bey W)) := ⟨⟨W, Below.refl _ _⟩⟩
theorem bey_drew (W : World) : Bey W W.drew := (Below.refl _ _).drew
theorem calls_bey {P : Program} {f : FuncId} {args : Array Value} {W : World} {s : Cls (Bey W)} {v : Value} (h : Calls P f args s.w fun e w' => e = .returned v ∧ Below s.w.heap.size s.w w') :
    Calls P f args s.w fun e w'' => e = .returned v ∧ ∃ t : Cls (Bey W), w'' = t.w :=
  calls_cls h fun w' hb => bthen s.h hb
theorem bey_cell {W : World} {a : Addr} {v : Value} (h : W.cell? a = some v) (s : Cls (Bey W)) : s.w.cell? a = some v := cell_later s.h h
end Go.Proofs.Ytbajfgllgfmnfaa.pg
