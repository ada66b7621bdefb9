/- What ProgSpoils reckons and stores. -/
import Derived.Test.YtpcobaoiglhkkaaDoorSpoil1
import Derived.Test.YtpcobaoiglhkkaaDoorAgree
import Derived.Test.YtpcobaoiglhkkaaDoorChk7
import Derived.Test.YtpcobaoiglhkkaaDoorRef6
namespace Go.Proofs.YtpcobaoiglhkkaaDoor.pg
open Go.ChangeShapes Go.WideShapes Go.ChangeAt Go.RowKit
set_option linter.unusedVariables false
set_option linter.unusedSimpArgs false
set_option maxRecDepth 100000
theorem sz_of_right {M : MPr} (h : (chk insP M.pr).1 = 0) : M.sz := by
  have hs := sizes_ok (chk_sizes0 h)
  have hR : reachBytes = 140737488351232 := rfl
  have l1 : M.pr.vars.length = M.vars.length := rfl
  have l2 : M.pr.chans.length = M.chans.length := rfl
  have l3 : M.pr.fns.length = M.fns.length := by simp [MPr.pr]
  refine ⟨by omega, by omega, by omega, fun f hf => ?_⟩
  have hsh := chk_shaped h f.fn (by simp only [MPr.pr]; exact List.mem_map_of_mem hf)
  have k1 : f.fn.code.length = f.code.length := rfl
  have k2 : f.fn.sels.length = f.sels.length := by simp [MFn.fn]
  refine ⟨by omega, by omega, fun s hs => ?_⟩
  have := hsh.2.2.2.2 s.sel (by simp only [MFn.fn]; exact List.mem_map_of_mem hs)
  have k3 : s.sel.cases.length = s.cases.length := rfl
  unfold MSel.sz
  omega
theorem u64_nat (a : Int) : ∃ U : Nat, IntKind.u64.wrap a = (U : Int) ∧ U < 18446744073709551616 := by
  refine ⟨(a % 18446744073709551616).toNat, ?_, by omega⟩
  have : IntKind.u64.wrap a = a % 18446744073709551616 := by simp [IntKind.wrap, IntKind.signed, IntKind.bits]
  rw [this]
  omega
theorem u64_id (n : Nat) (h : n < 18446744073709551616) : IntKind.u64.wrap (n : Int) = (n : Int) := by
  have : IntKind.u64.wrap (n : Int) = (n : Int) % 18446744073709551616 := by simp [IntKind.wrap, IntKind.signed, IntKind.bits]
  rw [this]
  omega
theorem ins_at0 {w : World} {g cap : Nat} {l : List Ins} (h : Rows w 5 (some ⟨g, 0, none⟩) cap (l.map Ins.cells)) (i : Nat) (x : Ins) (hi : l[i]? = some x) :
    (∀ wx, (Instr.indexAt 46 (.slice (some ⟨g, 0, none⟩) l.length cap) (.int .i64 (i : Int))).run Tryd.prog wx = .ok (.pointer (some ⟨g, i * 5, none⟩)) wx) ∧ w.cell? ⟨g, i * 5, none⟩ = some (.int .i64 x.op) ∧ w.cell? ⟨g, i * 5 + 1, none⟩ = some (.int .i64 x.a) ∧ w.cell? ⟨g, i * 5 + 2, none⟩ = some (.int .i64 x.b) ∧ w.cell? ⟨g, i * 5 + 3, none⟩ = some (.int .i64 x.c) ∧ w.cell? ⟨g, i * 5 + 4, none⟩ = some (.int .i64 x.n) := by
  obtain ⟨b, off, ha, hlt, hc⟩ := h.row (i := i) (row := x.cells) (by simp [hi])
  simp only [Option.some.injEq, Addr.mk.injEq] at ha
  obtain ⟨rfl, rfl, _⟩ := ha
  have hil : i < l.length := (List.getElem?_eq_some_iff.mp hi).1
  have c0 := hc 0 _ rfl
  have c1 := hc 1 _ rfl
  have c2 := hc 2 _ rfl
  have c3 := hc 3 _ rfl
  have c4 := hc 4 _ rfl
  simp only [Nat.zero_add, Nat.add_zero] at c0 c1 c2 c3 c4
  refine ⟨fun wx => ?_, c0, c1, c2, c3, c4⟩
  have he : Tryd.prog.elem 46 = 53 := by kernel_rfl
  rw [run_indexAt_slice wx 46 ⟨g, 0, none⟩ _ _ _ _ Tryd.underlying46, if_pos (by omega), he, Tryd.sizeOf53 wx]
  simp only [Int.toNat_natCast]
  show Result.ok (Value.pointer (some ((⟨g, 0, none⟩ : Addr).add (i * 5)))) wx = _
  rw [add_none, Nat.zero_add]
structure Facts (M N : MPr) (wA : World) (lo U f pc g D : Nat) (F : MFn) (x : Ins) : Prop where
  hF : N.fns[f]? = some F
  e1 : (U : Int).tmod (N.fns.length : Int) = (f : Int)
  e2 : ¬ (N.fns.length : Int) = 0
  e3 : IntKind.u64.wrap (N.fns.length : Int) = (N.fns.length : Int)
  e4 : (f : Int) < 8
  ha : F.ca = some ⟨g, 0, none⟩
  hpc : pc < F.code.length
  e5 : IntKind.u64.wrap (F.code.length : Int) = (F.code.length : Int)
  e6 : (U : Int).tdiv 8 = (D : Int)
  e7 : IntKind.u64.wrap (D : Int) = (D : Int)
  e8 : (D : Int).tmod (F.code.length : Int) = (pc : Int)
  e9 : ¬ (F.code.length : Int) = 0
  e10 : (pc : Int) < 64
  hx : F.code[pc]? = some x
  right : (chk insP N.pr).1 = 0
  regs : 0 ≤ F.regs ∧ F.regs ≤ 8
  clen : F.code.length ≤ 64
  own : N.own wA lo
  nd : N.blocks.Nodup
  glo : lo ≤ g
  fz : ∀ i, wA.frozen? ⟨g, i, none⟩ = false
  lies : N.lies wA
  sep : g + 1 < wA.heap.size
theorem facts {M N : MPr} {w0 w4 : World} {lo : Nat} (hcp : Copied M N w4 lo) (hl : M.lies w0) (h0 : (chk insP M.pr).1 = 0) (U : Nat) (hU : U < 18446744073709551616) : ∃ f pc g D F x, Facts M N (w4.alloc (objP N)) lo U f pc g D F x := by
  have hp := hcp.pr
  have hN0 : (chk insP N.pr).1 = 0 := by rw [← hp]; exact h0
  have hs := sizes_ok (chk_sizes0 hN0)
  have l3 : N.pr.fns.length = N.fns.length := by simp [MPr.pr]
  have hL : 1 ≤ N.fns.length ∧ N.fns.length ≤ 8 := by omega
  have hf : U % N.fns.length < N.fns.length := Nat.mod_lt _ (by omega)
  obtain ⟨F, hF, hFm⟩ := get_lt N.fns (U % N.fns.length) hf
  have hsh := chk_shaped hN0 F.fn (by simp only [MPr.pr]; exact List.mem_map_of_mem hFm)
  have k1 : F.fn.code.length = F.code.length := rfl
  have k4 : F.fn.regs = F.regs := rfl
  have hC : 1 ≤ F.code.length ∧ F.code.length ≤ 64 := by omega
  have hpc : U / 8 % F.code.length < F.code.length := Nat.mod_lt _ (by omega)
  obtain ⟨x, hx, hxm⟩ := get_lt F.code (U / 8 % F.code.length) hpc
  have hkeep : ∀ b ∈ N.blocks, (w4.alloc (objP N)).heap[b]? = w4.heap[b]? := fun b hb => by
    have ho := hcp.2.2.2.2.1
    have : b < w4.heap.size := by
      unfold MPr.blocks MPr.rest at hb
      simp only [List.mem_append, List.mem_flatMap] at hb
      rcases hb with h | h | h | ⟨f, hf, h⟩
      · exact (blk_lt ho.2.2.1 b h).2
      · exact (blk_lt ho.1 b h).2
      · exact (blk_lt ho.2.1 b h).2
      · have hfo := ho.2.2.2 f hf
        unfold MFn.blocks MFn.rest at h
        simp only [List.mem_append, List.mem_flatMap] at h
        rcases h with h | h | ⟨s, hs, h⟩
        · exact (blk_lt hfo.2.1 b h).2
        · exact (blk_lt hfo.1 b h).2
        · exact (blk_lt (hfo.2.2 s hs) b h).2
    exact (boxed w4 (objP N)).block b this
  have hown : N.own (w4.alloc (objP N)) lo := hcp.2.2.2.2.1.keep hkeep
  obtain ⟨g, hg, hgs, hglo, hfz⟩ : ∃ g, F.ca = some ⟨g, 0, none⟩ ∧ g + 1 < (w4.alloc (objP N)).heap.size ∧ lo ≤ g ∧ ∀ i, (w4.alloc (objP N)).frozen? ⟨g, i, none⟩ = false := by
    rcases (hcp.2.2.2.2.1.2.2.2 F hFm).1.2 with ⟨q, q2⟩ | ⟨g, cap', cur, q, hb, hg, _⟩
    · simp only [List.length_map] at q2; omega
    · simp only [Value.slice.injEq] at q
      have hlt := (Array.getElem?_eq_some_iff.mp hg).1
      exact ⟨g, q.1, by rw [World.size_alloc]; omega, hb, fun i => whole_frozen (((boxed w4 (objP N)).block g hlt).trans hg) i⟩
  have hlies : N.lies (w4.alloc (objP N)) := (hcp.lies hl).later (boxed _ _)
  refine ⟨U % N.fns.length, U / 8 % F.code.length, g, U / 8, F, x, hF, ?_, by omega, u64_id _ (by omega), by omega, hg, hpc, u64_id _ (by omega), ?_, u64_id _ (by omega), ?_, by omega, by omega, hx, hN0, by omega, hC.2, hown, hcp.2.2.2.2.2, hglo, hfz, hlies, hgs⟩
  · exact (Int.ofNat_tmod U N.fns.length).symm
  · exact (Int.ofNat_tdiv U 8).symm
  · exact (Int.ofNat_tmod (U / 8) F.code.length).symm
theorem five {w : World} {g o : Nat} {u0 u1 u2 u3 u4 : Value} (v0 v1 v2 v3 v4 : Value) (h0 : w.cell? ⟨g, o, none⟩ = some u0) (h1 : w.cell? ⟨g, o + 1, none⟩ = some u1) (h2 : w.cell? ⟨g, o + 2, none⟩ = some u2) (h3 : w.cell? ⟨g, o + 3, none⟩ = some u3) (h4 : w.cell? ⟨g, o + 4, none⟩ = some u4) :
    ∃ w', w' = ((((w.setCell ⟨g, o, none⟩ v0).setCell ⟨g, o + 1, none⟩ v1).setCell ⟨g, o + 2, none⟩ v2).setCell ⟨g, o + 3, none⟩ v3).setCell ⟨g, o + 4, none⟩ v4 ∧ (∀ j u, [v0, v1, v2, v3, v4][j]? = some u → w'.cell? ⟨g, o + j, none⟩ = some u) ∧ (∀ x, (x < o ∨ o + 5 ≤ x) → w'.cell? ⟨g, x, none⟩ = w.cell? ⟨g, x, none⟩) ∧ (∀ b, b ≠ g → w'.heap[b]? = w.heap[b]?) ∧ w'.heap.size = w.heap.size := by
  refine ⟨_, rfl, fun j u hj => ?_, fun x hx => ?_, fun b hb => ?_, by simp only [World.size_setCell]⟩
  · have hj5 : j < 5 := by have := (List.getElem?_eq_some_iff.mp hj).1; simpa using this
    match j, hj5, hj with
    | 0, _, hj => cases hj; exact set_other (by omega) (set_other (by omega) (set_other (by omega) (set_other (by omega) (set_same h0))))
    | 1, _, hj => cases hj; exact set_other (by omega) (set_other (by omega) (set_other (by omega) (set_same (set_other (by omega) h1))))
    | 2, _, hj => cases hj; exact set_other (by omega) (set_other (by omega) (set_same (set_other (by omega) (set_other (by omega) h2))))
    | 3, _, hj => cases hj; exact set_other (by omega) (set_same (set_other (by omega) (set_other (by omega) (set_other (by omega) h3))))
    | 4, _, hj => cases hj; exact set_same (set_other (by omega) (set_other (by omega) (set_other (by omega) (set_other (by omega) h4))))
  · exact set_other (by omega) (set_other (by omega) (set_other (by omega) (set_other (by omega) (set_other (by omega) rfl))))
  · exact (heap_setCell_other _ _ _ _ hb).trans ((heap_setCell_other _ _ _ _ hb).trans ((heap_setCell_other _ _ _ _ hb).trans ((heap_setCell_other _ _ _ _ hb).trans (heap_setCell_other _ _ _ _ hb))))
theorem one5th {w : World} {g o : Nat} {u0 u1 u2 u3 u4 : Value} (v0 : Value) (h0 : w.cell? ⟨g, o, none⟩ = some u0) (h1 : w.cell? ⟨g, o + 1, none⟩ = some u1) (h2 : w.cell? ⟨g, o + 2, none⟩ = some u2) (h3 : w.cell? ⟨g, o + 3, none⟩ = some u3) (h4 : w.cell? ⟨g, o + 4, none⟩ = some u4) :
    ∃ w', w' = w.setCell ⟨g, o, none⟩ v0 ∧ (∀ j u, [v0, u1, u2, u3, u4][j]? = some u → w'.cell? ⟨g, o + j, none⟩ = some u) ∧ (∀ x, (x < o ∨ o + 5 ≤ x) → w'.cell? ⟨g, x, none⟩ = w.cell? ⟨g, x, none⟩) ∧ (∀ b, b ≠ g → w'.heap[b]? = w.heap[b]?) ∧ w'.heap.size = w.heap.size := by
  refine ⟨_, rfl, fun j u hj => ?_, fun x hx => ?_, fun b hb => ?_, by simp only [World.size_setCell]⟩
  · have hj5 : j < 5 := by have := (List.getElem?_eq_some_iff.mp hj).1; simpa using this
    match j, hj5, hj with
    | 0, _, hj => cases hj; exact set_same h0
    | 1, _, hj => cases hj; exact set_other (by omega) h1
    | 2, _, hj => cases hj; exact set_other (by omega) h2
    | 3, _, hj => cases hj; exact set_other (by omega) h3
    | 4, _, hj => cases hj; exact set_other (by omega) h4
  · exact set_other (by omega) rfl
  · exact heap_setCell_other _ _ _ _ hb
end Go.Proofs.YtpcobaoiglhkkaaDoor.pg
