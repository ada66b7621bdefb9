/- Boxes of a program's parts. -/
import Derived.Test.YtaghfahhfockkaaPgIx
import Derived.Handy
import Derived.Deep.QuietTactic
import Derived.BigQuiet
import Derived.Deep.RegionHeld3
import Derived.Deep.DrawnRows
namespace Go.Proofs.Ytaghfahhfockkaa.pg
open Go.ChangeShapes Go.WideShapes Go.ChangeAt Go.RowKit
set_option linter.unusedVariables false
theorem ret_b {a b : Bool} (h : a = b) : Ending.returned (.bool a) = .returned (.bool b) := by rw [h]
theorem ret_i {a b : Int} (h : a = b) : Ending.returned (.int .i64 a) = .returned (.int .i64 b) := by rw [h]
/-- What a new box is: its cells, and that all else lies as it lay. -/
theorem boxed (w : World) (o : Obj) : Below w.heap.size w (w.alloc o) := (Below.refl _ _).alloc (Nat.le_refl _) _
theorem boxed2 (w : World) (o1 o2 : Obj) : Below w.heap.size w ((w.alloc o1).alloc o2) := (boxed w o1).trans ((boxed _ _).mono (boxed w o1).size)
theorem boxed3 (w : World) (o1 o2 o3 : Obj) : Below w.heap.size w (((w.alloc o1).alloc o2).alloc o3) := (boxed2 w o1 o2).trans ((boxed _ _).mono (boxed2 w o1 o2).size)
theorem cell3 {w : World} {a : Addr} {v : Value} (h : w.cell? a = some v) (o1 o2 o3 : Obj) : (((w.alloc o1).alloc o2).alloc o3).cell? a = some v := cell_later (boxed3 w o1 o2 o3) h
theorem rows_len {α : Type} {w : World} {k : Nat} {a : Option Addr} {cap : Nat} {l : List α} {C : α → List Value} (h : Rows w k a cap (l.map C)) : (l.length : Int) ≤ 9223372036854775807 := by
  have h1 := h.1
  have h2 := h.2.1
  rw [List.length_map] at h1
  omega
theorem bthen {w a b : World} (h : Below w.heap.size w a) (k : Below a.heap.size a b) : Below w.heap.size w b := h.trans (k.mono h.size)
/-- A box of its own, and what lies in it. -/
abbrev objP (x : MPr) : Obj := .cells #[.slice x.va x.vars.length x.vcap, .int .i64 x.locks, .slice x.cha x.chans.length x.chcap, .slice x.fa x.fns.length x.fcap] 26
def BoxP (w : World) (B : Nat) (x : MPr) : Prop := w.cell? ⟨B, 0, none⟩ = some (.slice x.va x.vars.length x.vcap) ∧ w.cell? ⟨B, 1, none⟩ = some (.int .i64 x.locks) ∧ w.cell? ⟨B, 2, none⟩ = some (.slice x.cha x.chans.length x.chcap) ∧ w.cell? ⟨B, 3, none⟩ = some (.slice x.fa x.fns.length x.fcap)
theorem BoxP.later {w w' : World} {B : Nat} {x : MPr} (h : BoxP w B x) (hb : Below w.heap.size w w') : BoxP w' B x := ⟨cell_later hb (h.1), cell_later hb (h.2.1), cell_later hb (h.2.2.1), cell_later hb (h.2.2.2)⟩
theorem BoxP.lt {w : World} {B : Nat} {x : MPr} (h : BoxP w B x) : B < w.heap.size := World.block_lt_of_cell? _ _ h.1
theorem boxP_new (w : World) (x : MPr) : BoxP (w.alloc (objP x)) w.heap.size x := by
  refine ⟨?_, ?_, ?_, ?_⟩ <;> exact World.cell?_alloc_at _ _ _ _ rfl
/-- A box of its own, and what lies in it. -/
abbrev objF (x : MFn) : Obj := .cells #[.int .i64 x.params, .int .i64 x.regs, .slice x.ca x.code.length x.ccap, .slice x.sa x.sels.length x.scap] 35
def BoxF (w : World) (B : Nat) (x : MFn) : Prop := w.cell? ⟨B, 0, none⟩ = some (.int .i64 x.params) ∧ w.cell? ⟨B, 1, none⟩ = some (.int .i64 x.regs) ∧ w.cell? ⟨B, 2, none⟩ = some (.slice x.ca x.code.length x.ccap) ∧ w.cell? ⟨B, 3, none⟩ = some (.slice x.sa x.sels.length x.scap)
theorem BoxF.later {w w' : World} {B : Nat} {x : MFn} (h : BoxF w B x) (hb : Below w.heap.size w w') : BoxF w' B x := ⟨cell_later hb (h.1), cell_later hb (h.2.1), cell_later hb (h.2.2.1), cell_later hb (h.2.2.2)⟩
theorem BoxF.lt {w : World} {B : Nat} {x : MFn} (h : BoxF w B x) : B < w.heap.size := World.block_lt_of_cell? _ _ h.1
theorem boxF_new (w : World) (x : MFn) : BoxF (w.alloc (objF x)) w.heap.size x := by
  refine ⟨?_, ?_, ?_, ?_⟩ <;> exact World.cell?_alloc_at _ _ _ _ rfl
/-- A box of its own, and what lies in it. -/
abbrev objS (x : MSel) : Obj := .cells #[.slice x.at_ x.cases.length x.cap, .int .i64 x.els] 39
def BoxS (w : World) (B : Nat) (x : MSel) : Prop := w.cell? ⟨B, 0, none⟩ = some (.slice x.at_ x.cases.length x.cap) ∧ w.cell? ⟨B, 1, none⟩ = some (.int .i64 x.els)
theorem BoxS.later {w w' : World} {B : Nat} {x : MSel} (h : BoxS w B x) (hb : Below w.heap.size w w') : BoxS w' B x := ⟨cell_later hb (h.1), cell_later hb (h.2)⟩
theorem BoxS.lt {w : World} {B : Nat} {x : MSel} (h : BoxS w B x) : B < w.heap.size := World.block_lt_of_cell? _ _ h.1
theorem boxS_new (w : World) (x : MSel) : BoxS (w.alloc (objS x)) w.heap.size x := by
  refine ⟨?_, ?_⟩ <;> exact World.cell?_alloc_at _ _ _ _ rfl
/-- A box of its own, and what lies in it. -/
abbrev objC (x : Cas) : Obj := .cells #[.bool x.send, .int .i64 x.ch, .int .i64 x.reg, .int .i64 x.to] 51
def BoxC (w : World) (B : Nat) (x : Cas) : Prop := w.cell? ⟨B, 0, none⟩ = some (.bool x.send) ∧ w.cell? ⟨B, 1, none⟩ = some (.int .i64 x.ch) ∧ w.cell? ⟨B, 2, none⟩ = some (.int .i64 x.reg) ∧ w.cell? ⟨B, 3, none⟩ = some (.int .i64 x.to)
theorem BoxC.later {w w' : World} {B : Nat} {x : Cas} (h : BoxC w B x) (hb : Below w.heap.size w w') : BoxC w' B x := ⟨cell_later hb (h.1), cell_later hb (h.2.1), cell_later hb (h.2.2.1), cell_later hb (h.2.2.2)⟩
theorem BoxC.lt {w : World} {B : Nat} {x : Cas} (h : BoxC w B x) : B < w.heap.size := World.block_lt_of_cell? _ _ h.1
theorem boxC_new (w : World) (x : Cas) : BoxC (w.alloc (objC x)) w.heap.size x := by
  refine ⟨?_, ?_, ?_, ?_⟩ <;> exact World.cell?_alloc_at _ _ _ _ rfl
/-- A box of its own, and what lies in it. -/
abbrev objI (x : Ins) : Obj := .cells #[.int .i64 x.op, .int .i64 x.a, .int .i64 x.b, .int .i64 x.c, .int .i64 x.n] 47
def BoxI (w : World) (B : Nat) (x : Ins) : Prop := w.cell? ⟨B, 0, none⟩ = some (.int .i64 x.op) ∧ w.cell? ⟨B, 1, none⟩ = some (.int .i64 x.a) ∧ w.cell? ⟨B, 2, none⟩ = some (.int .i64 x.b) ∧ w.cell? ⟨B, 3, none⟩ = some (.int .i64 x.c) ∧ w.cell? ⟨B, 4, none⟩ = some (.int .i64 x.n)
theorem BoxI.later {w w' : World} {B : Nat} {x : Ins} (h : BoxI w B x) (hb : Below w.heap.size w w') : BoxI w' B x := ⟨cell_later hb (h.1), cell_later hb (h.2.1), cell_later hb (h.2.2.1), cell_later hb (h.2.2.2.1), cell_later hb (h.2.2.2.2)⟩
theorem BoxI.lt {w : World} {B : Nat} {x : Ins} (h : BoxI w B x) : B < w.heap.size := World.block_lt_of_cell? _ _ h.1
theorem boxI_new (w : World) (x : Ins) : BoxI (w.alloc (objI x)) w.heap.size x := by
  refine ⟨?_, ?_, ?_, ?_, ?_⟩ <;> exact World.cell?_alloc_at _ _ _ _ rfl
theorem bcell {W w1 : World} (hb : Below W.heap.size W w1) : (∀ b o, b < W.heap.size → w1.cell? ⟨b, o, none⟩ = W.cell? ⟨b, o, none⟩) ∧ (∀ b o, b < W.heap.size → w1.frozen? ⟨b, o, none⟩ = W.frozen? ⟨b, o, none⟩) :=
  ⟨fun b o h => hb.cell (p := ⟨b, o, none⟩) h, fun b o h => hb.frozen (p := ⟨b, o, none⟩) h⟩
end Go.Proofs.Ytaghfahhfockkaa.pg
