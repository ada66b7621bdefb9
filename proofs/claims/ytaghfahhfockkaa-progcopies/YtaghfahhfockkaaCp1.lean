/- A program in memory of its own: the contract of the statements' own Prog. -/
import Derived.Test.YtaghfahhfockkaaCp0
namespace Go.Proofs.Ytaghfahhfockkaa.pg
open Go.ChangeShapes Go.WideShapes Go.ChangeAt Go.RowKit
set_option linter.unusedVariables false
set_option linter.unusedSimpArgs false
set_option maxRecDepth 100000
theorem info_of {P : Program} {e : TypeId} {z : Value} {k b : Nat} (h : (P.info? e).map (fun i => (i.zero, i.size, i.bytes)) = some (some z, k, b)) : ∃ i, P.info? e = some i ∧ i.zero = some z ∧ i.size = k ∧ i.bytes = b := by
  obtain ⟨i, hi, h2⟩ := Option.map_eq_some_iff.mp h
  simp only [Prod.mk.injEq] at h2
  exact ⟨i, hi, h2.1, h2.2.1, h2.2.2⟩
theorem infoV : (Try.prog.info? 31).map (fun i => (i.zero, i.size, i.bytes)) = some (some (.agg #[.bool false, .int .i64 0]), 2, 16) := by kernel_rfl
theorem infoN : (Try.prog.info? 3).map (fun i => (i.zero, i.size, i.bytes)) = some (some (.int .i64 0), 1, 8) := by kernel_rfl
theorem infoI : (Try.prog.info? 47).map (fun i => (i.zero, i.size, i.bytes)) = some (some (.agg #[.int .i64 0, .int .i64 0, .int .i64 0, .int .i64 0, .int .i64 0]), 5, 40) := by kernel_rfl
theorem infoC : (Try.prog.info? 51).map (fun i => (i.zero, i.size, i.bytes)) = some (some (.agg #[.bool false, .int .i64 0, .int .i64 0, .int .i64 0]), 4, 32) := by kernel_rfl
theorem infoS : (Try.prog.info? 39).map (fun i => (i.zero, i.size, i.bytes)) = some (some (.agg #[.slice none 0 0, .int .i64 0]), 2, 32) := by kernel_rfl
theorem infoF : (Try.prog.info? 35).map (fun i => (i.zero, i.size, i.bytes)) = some (some (.agg #[.int .i64 0, .int .i64 0, .slice none 0 0, .slice none 0 0]), 4, 64) := by kernel_rfl
/-- What a copy owns. -/
def MFn.own (w : World) (lo : Nat) (f : MFn) : Prop := OwnL w lo 47 5 f.ca f.ccap (f.code.map Ins.cells) ∧ OwnL w lo 39 2 f.sa f.scap (f.sels.map MSel.cells) ∧ ∀ s ∈ f.sels, OwnL w lo 51 4 s.at_ s.cap (s.cases.map Cas.cells)
def MPr.own (w : World) (lo : Nat) (p : MPr) : Prop := OwnL w lo 31 2 p.va p.vcap (p.vars.map Vr.cells) ∧ OwnL w lo 3 1 p.cha p.chcap (p.chans.map chCells) ∧ OwnL w lo 35 4 p.fa p.fcap (p.fns.map MFn.cells) ∧ ∀ f ∈ p.fns, f.own w lo
def MFn.rest (f : MFn) : List Nat := blk f.ca ++ f.sels.flatMap fun s => blk s.at_
def MFn.blocks (f : MFn) : List Nat := blk f.sa ++ f.rest
def MPr.rest (p : MPr) : List Nat := blk p.va ++ (blk p.cha ++ p.fns.flatMap MFn.blocks)
def MPr.blocks (p : MPr) : List Nat := blk p.fa ++ p.rest
theorem MFn.own.keep {w w' : World} {lo : Nat} {f : MFn} (h : f.own w lo) (hk : ∀ g ∈ f.blocks, w'.heap[g]? = w.heap[g]?) : f.own w' lo := by
  unfold MFn.blocks MFn.rest at hk
  refine ⟨own_keep h.1 fun g hg => hk g (by simp [hg]), own_keep h.2.1 fun g hg => hk g (by simp [hg]), fun s hs => own_keep (h.2.2 s hs) fun g hg => hk g ?_⟩
  simp only [List.mem_append, List.mem_flatMap]
  exact .inr (.inr ⟨s, hs, hg⟩)
theorem MPr.own.keep {w w' : World} {lo : Nat} {p : MPr} (h : p.own w lo) (hk : ∀ g ∈ p.blocks, w'.heap[g]? = w.heap[g]?) : p.own w' lo := by
  unfold MPr.blocks MPr.rest at hk
  refine ⟨own_keep h.1 fun g hg => hk g (by simp [hg]), own_keep h.2.1 fun g hg => hk g (by simp [hg]), own_keep h.2.2.1 fun g hg => hk g (by simp [hg]), fun f hf => (h.2.2.2 f hf).keep fun g hg => hk g ?_⟩
  simp only [List.mem_append, List.mem_flatMap]
  exact .inr (.inr (.inr ⟨f, hf, hg⟩))
theorem len2 (l : List Vr) : ∀ row ∈ l.map Vr.cells, row.length = 2 := by intro r hr; simp only [List.mem_map] at hr; obtain ⟨x, _, rfl⟩ := hr; rfl
theorem len1 (l : List Int) : ∀ row ∈ l.map chCells, row.length = 1 := by intro r hr; simp only [List.mem_map] at hr; obtain ⟨x, _, rfl⟩ := hr; rfl
theorem len5 (l : List Ins) : ∀ row ∈ l.map Ins.cells, row.length = 5 := by intro r hr; simp only [List.mem_map] at hr; obtain ⟨x, _, rfl⟩ := hr; rfl
theorem len4 (l : List Cas) : ∀ row ∈ l.map Cas.cells, row.length = 4 := by intro r hr; simp only [List.mem_map] at hr; obtain ⟨x, _, rfl⟩ := hr; rfl
theorem len2s (l : List MSel) : ∀ row ∈ l.map MSel.cells, row.length = 2 := by intro r hr; simp only [List.mem_map] at hr; obtain ⟨x, _, rfl⟩ := hr; rfl
theorem len4f (l : List MFn) : ∀ row ∈ l.map MFn.cells, row.length = 4 := by intro r hr; simp only [List.mem_map] at hr; obtain ⟨x, _, rfl⟩ := hr; rfl
theorem one2 (l : List Vr) : ∀ row ∈ l.map Vr.cells, ∀ u ∈ row, u.oneCell' = true := by intro r hr u hu; simp only [List.mem_map] at hr; obtain ⟨x, _, rfl⟩ := hr; simp only [Vr.cells, List.mem_cons, List.not_mem_nil, or_false] at hu; rcases hu with rfl | rfl <;> rfl
theorem one1 (l : List Int) : ∀ row ∈ l.map chCells, ∀ u ∈ row, u.oneCell' = true := by intro r hr u hu; simp only [List.mem_map] at hr; obtain ⟨x, _, rfl⟩ := hr; simp only [chCells, List.mem_cons, List.not_mem_nil, or_false] at hu; subst hu; rfl
theorem one5 (l : List Ins) : ∀ row ∈ l.map Ins.cells, ∀ u ∈ row, u.oneCell' = true := by intro r hr u hu; simp only [List.mem_map] at hr; obtain ⟨x, _, rfl⟩ := hr; simp only [Ins.cells, List.mem_cons, List.not_mem_nil, or_false] at hu; rcases hu with rfl | rfl | rfl | rfl | rfl <;> rfl
theorem one4 (l : List Cas) : ∀ row ∈ l.map Cas.cells, ∀ u ∈ row, u.oneCell' = true := by intro r hr u hu; simp only [List.mem_map] at hr; obtain ⟨x, _, rfl⟩ := hr; simp only [Cas.cells, List.mem_cons, List.not_mem_nil, or_false] at hu; rcases hu with rfl | rfl | rfl | rfl <;> rfl
theorem one2s (l : List MSel) : ∀ row ∈ l.map MSel.cells, ∀ u ∈ row, u.oneCell' = true := by intro r hr u hu; simp only [List.mem_map] at hr; obtain ⟨x, _, rfl⟩ := hr; simp only [MSel.cells, List.mem_cons, List.not_mem_nil, or_false] at hu; rcases hu with rfl | rfl <;> rfl
theorem one4f (l : List MFn) : ∀ row ∈ l.map MFn.cells, ∀ u ∈ row, u.oneCell' = true := by intro r hr u hu; simp only [List.mem_map] at hr; obtain ⟨x, _, rfl⟩ := hr; simp only [MFn.cells, List.mem_cons, List.not_mem_nil, or_false] at hu; rcases hu with rfl | rfl | rfl | rfl <;> rfl
theorem MSel.lies_of {w : World} {lo : Nat} {s : MSel} (h : OwnL w lo 51 4 s.at_ s.cap (s.cases.map Cas.cells)) (h1 : ∀ x ∈ s.cases, x.wf) (h2 : I64 s.els) : s.lies w := ⟨own_rows h (len4 _), h1, h2⟩
theorem own_nil (w : World) (lo e k : Nat) : OwnL w lo e k none 0 [] := ⟨by simp, .inl ⟨rfl, rfl⟩⟩
end Go.Proofs.Ytaghfahhfockkaa.pg
