/- One event more is told: (*relation).add of package order. -/
import Derived.Test.YtkadlopcomjonaaM14
import Derived.Test.YtkadlopcomjonaaM4
import Derived.Test.YtkadlopcomjonaaM9
import Derived.Test.YtkadlopcomjonaaM11
namespace Go.Proofs.Ytkadlopcomjonaa.pg
open Go.ChangeShapes Go.WideShapes Go.ChangeAt Go.RowKit Go.Shelf
set_option linter.unusedVariables false
set_option linter.unusedSimpArgs false
set_option maxRecDepth 100000
attribute [local go_sem] Oper.semAt_some
attribute [local go_sem ↓] Go.wp_at_zero Go.wp_at_succ
theorem run_value_of {P : Program} {m : Sem Value} {v : Value} {w w' : World} (h : m.run P w = .ok v w') : (m.bind fun x => pure (.value x) : Sem Next).run P w = .ok (.value v) w' := by
  show (m >>= fun x => pure (Next.value x)).run P w = _
  rw [Sem.run_bind, h]
  rfl
theorem sub_ev (a : Option Addr) (n cap j : Nat) (hj : j ≤ cap) (hc : cap ≤ 9223372036854775807) : ∀ wx, (Instr.sliceAt 22 (.slice a n cap) none (some (.int .i64 (j : Int))) none).run Try.prog wx = .ok (.slice a j cap) wx := by
  intro wx
  have u := Try.underlying22
  have z := Try.sizeOf70
  have h1 : (j : Int) ≤ cap := by omega
  have h2 : ¬ (cap : Int) < j := by omega
  have h3 : ¬ (j : Int) < 0 := by omega
  cases a <;> simp [Instr.sliceAt, run_underlying u, asIntOf, go_sem, z, h1, h2, h3, hj]
theorem start3 (w : World) (o1 o2 o3 : Obj) : (((w.alloc o1).alloc o2).alloc o3).heap[w.heap.size]? = some o1 ∧ (((w.alloc o1).alloc o2).alloc o3).heap[w.heap.size + 1]? = some o2 ∧ (((w.alloc o1).alloc o2).alloc o3).heap[w.heap.size + 2]? = some o3 ∧ Below w.heap.size w (((w.alloc o1).alloc o2).alloc o3) ∧ (((w.alloc o1).alloc o2).alloc o3).heap.size = w.heap.size + 3 := by
  refine ⟨?_, ?_, new3 _ _ _ _, boxed3 _ _ _ _, by simp [World.size_alloc]⟩
  · exact (Below.heap_alloc _ _ _ (by simp [World.size_alloc]; omega)).trans ((Below.heap_alloc _ _ _ (by simp [World.size_alloc])).trans (heap_alloc_new w o1))
  · have := heap_alloc_new (w.alloc o1) o2
    rw [World.size_alloc] at this
    exact (Below.heap_alloc _ _ _ (by simp [World.size_alloc])).trans this
theorem cell_of {w : World} {B k : Nat} {cs : Array Value} {t : TypeId} {fr : Nat × Nat} {v : Value} (h : w.heap[B]? = some (.cells cs t fr)) (hv : cs[k]? = some v) : w.cell? ⟨B, k, none⟩ = some v := by rw [cell_of_row w B k _ _ _ h]; exact hv
theorem cell_in {W w' : World} {B k : Nat} {cs : Array Value} {t : TypeId} {fr : Nat × Nat} {v : Value} (h : W.heap[B]? = some (.cells cs t fr)) (hv : cs[k]? = some v) (hb : Below W.heap.size W w') : w'.cell? ⟨B, k, none⟩ = some v :=
  cell_of ((hb.block B (Array.getElem?_eq_some_iff.mp h).1).trans h) hv
/-- What add finds, besides: events and clocks at their places. -/
structure Ctx.Lies (c : Ctx) (ev : Nat → Ev) (cf : Nat → Ck) : Prop where
  e : EvAt c.n₀ c.w c.ea c.j c.ec ev
  ej : ∃ b o, (∀ wx, (Instr.indexAt 22 (.slice c.ea c.en c.ec) (.int .i64 (c.j : Int))).run Try.prog wx = .ok (.pointer (some ⟨b, o, none⟩)) wx) ∧ b < c.n₀ ∧ c.w.rangeAt b o (ev c.j).cells
  k : ∀ i, i < c.j → ∃ b o, (∀ wx, (Instr.indexAt 79 (.slice c.ca c.cn c.cc) (.int .i64 (i : Int))).run Try.prog wx = .ok (.pointer (some ⟨b, o, none⟩)) wx) ∧ b ∈ blk c.ca ∧ c.w.rangeAt b o (cf i).cells
  go : ∀ i, i ≤ c.j → 0 ≤ (ev i).go ∧ (ev i).go < 6
  ok : ∀ i, i < c.j → (cf i).ok
theorem ck_mid (b o k : Nat) (h : k < 6) : ∀ wx, (Instr.indexAt 86 (.pointer (some ⟨b, o, none⟩)) (.int .i64 (k : Int))).run Try.prog wx = .ok (.pointer (some ⟨b, o + k, none⟩)) wx := by
  match k, h with
  | 0, _ => exact fun _ => by kernel_rfl
  | 1, _ => exact fun _ => by kernel_rfl
  | 2, _ => exact fun _ => by kernel_rfl
  | 3, _ => exact fun _ => by kernel_rfl
  | 4, _ => exact fun _ => by kernel_rfl
  | 5, _ => exact fun _ => by kernel_rfl
theorem ck_of {x : Ck} {g : Nat} (h : g < 6) : x.cells[g]? = some (.int .i64 (x.of g)) := by
  match g, h with
  | 0, _ => rfl
  | 1, _ => rfl
  | 2, _ => rfl
  | 3, _ => rfl
  | 4, _ => rfl
  | 5, _ => rfl
theorem range_block {w w' : World} {b o : Nat} {cs : List Value} (h : w.rangeAt b o cs) (hb : w'.heap[b]? = w.heap[b]?) : w'.rangeAt b o cs := fun q v hv => (World.cell?_of_block (a := ⟨b, o + q, none⟩) hb).trans (h q v hv)
theorem block_of_range {w : World} {b o : Nat} {x : Ck} (h : w.rangeAt b o x.cells) : b < w.heap.size := block_lt_of_cell (h 0 _ rfl)
theorem round_cls {c : Ctx} {now : Ck} {EE : List (Nat × Nat)} {da' : Option Addr} {dc' : Nat} {W : World} {ev : Nat → Ev} {cf : Nat → Ck} {Bx i : Nat} (hs : St c now EE da' dc' W) (hg : c.Good) (hL : c.Lies ev cf) (hbx : W.heap[Bx]? = some (.cells (ev i).cells.toArray 70)) (hi : i < c.j) :
    ∃ cb co eb eo, cb < c.w.heap.size ∧ (∀ s : Cls (Bey W), s.w.cell? ⟨c.w.heap.size, 0, none⟩ = some (.pointer (some ⟨c.R, 0, none⟩))) ∧ (∀ s : Cls (Bey W), s.w.cell? ⟨c.w.heap.size + 1, 0, none⟩ = some (.int .i64 (c.j : Int))) ∧
      (∀ s : Cls (Bey W), s.w.cell? ⟨c.R, 0, none⟩ = some (.slice c.ea c.en c.ec)) ∧ (∀ s : Cls (Bey W), s.w.cell? ⟨c.R, 1, none⟩ = some (.slice c.ca c.cn c.cc)) ∧ (∀ s : Cls (Bey W), s.w.cell? ⟨Bx, 0, none⟩ = some (.int .i64 (ev i).go)) ∧
      (∀ wx, (Instr.indexAt 79 (.slice c.ca c.cn c.cc) (.int .i64 (i : Int))).run Try.prog wx = .ok (.pointer (some ⟨cb, co, none⟩)) wx) ∧
      (∀ wx, (Instr.indexAt 86 (.pointer (some ⟨cb, co, none⟩)) (.int .i64 (ev i).go)).run Try.prog wx = .ok (.pointer (some ⟨cb, co + (ev i).go.toNat, none⟩)) wx) ∧
      (∀ s : Cls (Bey W), s.w.cell? ⟨cb, co + (ev i).go.toNat, none⟩ = some (.int .i64 ((cf i).of (ev i).go.toNat))) ∧
      (∀ wx, (Instr.indexAt 86 (.pointer (some ⟨c.w.heap.size + 2, 0, none⟩)) (.int .i64 (ev i).go)).run Try.prog wx = .ok (.pointer (some ⟨c.w.heap.size + 2, (ev i).go.toNat, none⟩)) wx) ∧
      (∀ s : Cls (Bey W), s.w.cell? ⟨c.w.heap.size + 2, (ev i).go.toNat, none⟩ = some (.int .i64 (now.of (ev i).go.toNat))) ∧
      (∀ wx, (Instr.indexAt 22 (.slice c.ea c.en c.ec) (.int .i64 (c.j : Int))).run Try.prog wx = .ok (.pointer (some ⟨eb, eo, none⟩)) wx) ∧
      (∀ s : Cls (Bey W), s.w.rangeAt eb eo (ev c.j).cells) ∧ (∀ s : Cls (Bey W), s.w.rangeAt Bx 0 (ev i).cells) ∧ (∀ s : Cls (Bey W), s.w.rangeAt cb co (cf i).cells) := by
  obtain ⟨g0, g6⟩ := hL.go i (by omega)
  have hgN : (((ev i).go.toNat : Nat) : Int) = (ev i).go := Int.toNat_of_nonneg g0
  have hlt : (ev i).go.toNat < 6 := by omega
  obtain ⟨cb, co, k1, k2, k3⟩ := hL.k i hi
  obtain ⟨eb, eo, e1, e2, e3⟩ := hL.ej
  obtain ⟨d1, d2, d3⟩ := hg.d3 cb k2
  have hR := hg.rl
  have hz := hs.sz
  have hcW : W.rangeAt cb co (cf i).cells := range_block k3 (hs.kp cb d1 d2 d3)
  have heW : W.rangeAt eb eo (ev c.j).cells := range_block e3 (hs.be.block eb e2)
  have hebW : eb < W.heap.size := by have := hg.nR; omega
  have hxW : W.rangeAt Bx 0 (ev i).cells := fun q v hv => cell_of hbx (by rw [Nat.zero_add]; simpa using hv)
  have m1 := ck_mid cb co _ hlt
  have m2 := ck_mid (c.w.heap.size + 2) 0 _ hlt
  rw [hgN] at m1 m2
  rw [Nat.zero_add] at m2
  have lift : ∀ {b o : Nat} {cs : List Value}, W.rangeAt b o cs → b < W.heap.size → ∀ s : Cls (Bey W), s.w.rangeAt b o cs := fun {b o cs} h hb s => range_block h (s.h.block b hb)
  refine ⟨cb, co, eb, eo, d1, fun s => cell_in hs.bx rfl s.h, fun s => cell_in hs.bj rfl s.h, fun s => cell_in hs.rl rfl s.h, fun s => cell_in hs.rl rfl s.h, fun s => cell_in hbx (by rfl) s.h, k1, m1, fun s => lift hcW (by omega) s _ _ (ck_of hlt), m2, fun s => ?_, e1, lift heW hebW, lift hxW (Array.getElem?_eq_some_iff.mp hbx).1, lift hcW (by omega)⟩
  have h0 : W.heap[c.w.heap.size + 2]? = some (.cells now.cells.toArray 86) := hs.nw
  exact cell_in h0 (by have := ck_of (x := now) hlt; simpa using this) s.h
theorem St.fresh {c : Ctx} {now : Ck} {EE : List (Nat × Nat)} {da' : Option Addr} {dc' : Nat} {W : World} (h : St c now EE da' dc' W) (hg : c.Good) : c.R ∉ blk da' ∧ c.w.heap.size ∉ blk da' ∧ c.w.heap.size + 1 ∉ blk da' ∧ c.w.heap.size + 2 ∉ blk da' ∧ ∀ b, b < c.w.heap.size → b ∉ blk c.da → b ∉ blk da' := by
  have hR := hg.rl
  have key : ∀ b, b < c.w.heap.size + 4 → b ∉ blk c.da → b ∉ blk da' := fun b q1 q2 q3 => by
    rcases h.bd b q3 with q | q
    · exact q2 q
    · omega
  have big : ∀ b, c.w.heap.size ≤ b → b ∉ blk c.da := fun b q1 q2 => by have := (hg.d1 b q2).1; omega
  exact ⟨key _ (by omega) hg.d2, key _ (by omega) (big _ (by omega)), key _ (by omega) (big _ (by omega)), key _ (by omega) (big _ (by omega)), fun b q1 q2 => key b (by omega) q2⟩
theorem St.now {c : Ctx} {now : Ck} {EE : List (Nat × Nat)} {da' : Option Addr} {dc' : Nat} {W : World} (h : St c now EE da' dc' W) (hg : c.Good) (y : Ck) : St c y EE da' dc' (W.setRow (c.w.heap.size + 2) y.cells.toArray) := by
  have hR := hg.rl
  have hn := hg.nR
  obtain ⟨n1, n2, n3, n4, n5⟩ := h.fresh hg
  refine ⟨(setRow_other _ _ _ _ (by omega)).trans h.bx, (setRow_other _ _ _ _ (by omega)).trans h.bj, h.nw.set y, (setRow_other _ _ _ _ (by omega)).trans h.rl, own_keep h.ed fun g hgm => setRow_other _ _ _ _ fun e => n4 (e ▸ hgm), h.bd, fun b q1 q2 q3 => (setRow_other _ _ _ _ (by omega)).trans (h.kp b q1 q2 q3), below_setRow h.be (by omega) _, by rw [setRow_size]; exact h.sz⟩
theorem St.edge {c : Ctx} {now : Ck} {EE : List (Nat × Nat)} {da' : Option Addr} {dc' : Nat} {W w8 : World} {p : Nat × Nat} {va' : Option Addr} {vc' : Nat} (h : St c now EE da' dc' W) (hg : c.Good) (g8 : Grown W c.n₀ 94 2 da' (EE.map edg) (edg p) va' vc' w8) :
    w8.heap[c.R]? = some (objR c.ea c.en c.ec c.ca c.cn c.cc da' EE.length dc') ∧ St c now (EE ++ [p]) va' vc' (w8.setCell ⟨c.R, 2, none⟩ (.slice va' (EE.length + 1) vc')) ∧ (∀ b, b < W.heap.size → b ≠ c.R → b ∉ blk da' → (w8.setCell ⟨c.R, 2, none⟩ (.slice va' (EE.length + 1) vc')).heap[b]? = W.heap[b]?) ∧ Below c.n₀ W (w8.setCell ⟨c.R, 2, none⟩ (.slice va' (EE.length + 1) vc')) ∧ W.heap.size ≤ (w8.setCell ⟨c.R, 2, none⟩ (.slice va' (EE.length + 1) vc')).heap.size := by
  have hR := hg.rl
  have hn := hg.nR
  have hz := h.sz
  obtain ⟨n1, n2, n3, n4, n5⟩ := h.fresh hg
  have r8 : w8.heap[c.R]? = some (objR c.ea c.en c.ec c.ca c.cn c.cc da' EE.length dc') := (g8.kp c.R (by omega) n1).trans h.rl
  refine ⟨r8, ?_⟩
  rw [setCell_eq_setRow w8 c.R 2 _ _ _ _ r8]
  have hb8 : Below c.n₀ W w8 := g8.be.mono (by omega)
  have k8 : ∀ b, b < W.heap.size → b ≠ c.R → b ∉ blk da' → (w8.setRow c.R (#[.slice c.ea c.en c.ec, .slice c.ca c.cn c.cc, .slice da' EE.length dc'].setIfInBounds 2 (.slice va' (EE.length + 1) vc'))).heap[b]? = W.heap[b]? := fun b q1 q2 q3 => (setRow_other _ _ _ _ q2).trans (g8.kp b q1 q3)
  refine ⟨⟨(k8 _ (by omega) (by omega) n2).trans h.bx, (k8 _ (by omega) (by omega) n3).trans h.bj, (k8 _ (by omega) (by omega) n4).trans h.nw, ?_, ?_, ?_, ?_, ?_, ?_⟩, k8, below_setRow hb8 hn _, ?_⟩
  · rw [setRow_heap w8 c.R _ _ _ _ r8, List.length_append, List.length_singleton]
    rfl
  · refine own_keep (by rw [List.map_append, List.map_singleton]; exact g8.ow) fun g hgm => setRow_other _ _ _ _ fun e => ?_
    subst e
    rcases g8.bk _ hgm with q | q
    · exact n1 q
    · omega
  · intro b q
    rcases g8.bk b q with q | q
    · exact h.bd b q
    · right; omega
  · intro b q1 q2 q3
    rw [k8 b (by omega) q2 (n5 b q1 q3)]
    exact h.kp b q1 q2 q3
  · exact below_setRow (h.be.trans hb8) hn _
  · rw [setRow_size]; have := hb8.size; omega
  · rw [setRow_size]; exact hb8.size
/-- What add leaves. -/
def AddPost (c : Ctx) (C : List Ck) (EE : List (Nat × Nat)) (w' : World) : Prop := ∃ ca' cc' da' dc', w'.heap[c.R]? = some (objR c.ea c.en c.ec ca' C.length cc' da' EE.length dc') ∧ OwnL w' c.n₀ 86 6 ca' cc' (C.map Ck.cells) ∧ OwnL w' c.n₀ 94 2 da' dc' (EE.map edg) ∧
  (∀ b ∈ blk ca', (b ∈ blk c.ca ∨ c.w.heap.size ≤ b) ∧ b ∉ blk da') ∧ (∀ b ∈ blk da', b ∈ blk c.da ∨ c.w.heap.size ≤ b) ∧ (∀ b, b < c.w.heap.size → b ≠ c.R → b ∉ blk c.ca → b ∉ blk c.da → w'.heap[b]? = c.w.heap[b]?) ∧ Below c.n₀ c.w w'
theorem St.last {c : Ctx} {now : Ck} {EE : List (Nat × Nat)} {da' : Option Addr} {dc' : Nat} {W w8 : World} {C : List Ck} {va' : Option Addr} {vc' D : Nat} (h : St c now EE da' dc' W) (hg : c.Good) (hcn : c.cn = C.length) (g8 : Grown W c.n₀ 86 6 c.ca (C.map Ck.cells) now.cells va' vc' w8) (hD : c.w.heap.size + 4 ≤ D) (hK : W.heap[D]? = some (.deferred (some []))) :
    w8.heap[c.R]? = some (objR c.ea c.en c.ec c.ca c.cn c.cc da' EE.length dc') ∧ (w8.setCell ⟨c.R, 1, none⟩ (.slice va' (C.length + 1) vc')).heap[D]? = some (.deferred (some [])) ∧ AddPost c (C ++ [now]) EE ((w8.setCell ⟨c.R, 1, none⟩ (.slice va' (C.length + 1) vc')).putObj D (.deferred none)) := by
  have hR := hg.rl
  have hn := hg.nR
  have hz := h.sz
  have ca3 : ∀ b, c.w.heap.size ≤ b → b ∉ blk c.ca := fun b q1 q2 => by have := (hg.d3 b q2).1; omega
  have caR : c.R ∉ blk c.ca := fun q => (hg.d3 _ q).2.1 rfl
  have hDW : D < W.heap.size := (Array.getElem?_eq_some_iff.mp hK).1
  have r8 : w8.heap[c.R]? = some (objR c.ea c.en c.ec c.ca c.cn c.cc da' EE.length dc') := (g8.kp c.R (by omega) caR).trans h.rl
  refine ⟨r8, ?_⟩
  rw [setCell_eq_setRow w8 c.R 1 _ _ _ _ r8]
  have hb8 : Below c.n₀ W w8 := g8.be.mono (by omega)
  have kD : ∀ b, b ≠ D → b ≠ c.R → ((w8.setRow c.R (#[.slice c.ea c.en c.ec, .slice c.ca c.cn c.cc, .slice da' EE.length dc'].setIfInBounds 1 (.slice va' (C.length + 1) vc'))).putObj D (.deferred none)).heap[b]? = w8.heap[b]? := fun b q1 q2 => (World.putObj_heap_other q1).trans (setRow_other _ _ _ _ q2)
  have daD : D ∉ blk da' := fun q => by
    obtain ⟨o, h1, h2⟩ := own_cells h.ed D q
    rw [hK] at h1; cases h1; cases h2
  obtain ⟨n1, _, _, _, n5⟩ := h.fresh hg
  refine ⟨(setRow_other _ _ _ _ (by omega)).trans ((g8.kp D hDW (ca3 D (by omega))).trans hK), va', vc', da', dc', ?_, ?_, ?_, ?_, ?_, ?_, ?_⟩
  · rw [World.putObj_heap_other (by omega), setRow_heap w8 c.R _ _ _ _ r8, List.length_append, List.length_singleton]
    rfl
  · refine own_keep (by rw [List.map_append, List.map_singleton]; exact g8.ow) fun g hgm => ?_
    rcases g8.bk _ hgm with q | q
    · exact kD g (by have := (hg.d3 g q).1; omega) (hg.d3 g q).2.1
    · exact kD g (by omega) (by omega)
  · refine own_keep h.ed fun g hgm => (kD g (fun e => daD (e ▸ hgm)) (fun e => n1 (e ▸ hgm))).trans (g8.kp g (blk_lt h.ed g hgm).2 fun q => ?_)
    have q3 := hg.d3 g q
    exact n5 g q3.1 q3.2.2 hgm
  · intro b q
    rcases g8.bk b q with q | q
    · have q3 := hg.d3 b q
      exact ⟨.inl q, n5 b q3.1 q3.2.2⟩
    · exact ⟨.inr (by omega), fun q2 => by have := (blk_lt h.ed b q2).2; omega⟩
  · intro b q
    rcases h.bd b q with q | q
    · exact .inl q
    · exact .inr (by omega)
  · intro b q1 q2 q3 q4
    rw [kD b (by omega) q2, g8.kp b (by omega) q3]
    exact h.kp b q1 q2 q4
  · refine (below_setRow (h.be.trans hb8) hn _).trans (belowK_b (w := c.w) (by omega) _ D (.deferred (some [])) _ (by omega) ?_ rfl rfl)
    exact (setRow_other _ _ _ _ (by omega)).trans ((g8.kp D hDW (ca3 D (by omega))).trans hK)
theorem infoK6 : (Try.prog.info? 86).map (fun i => (i.zero, i.size, i.bytes)) = some (some zeroK.val, 6, 48) := by kernel_rfl
theorem one6l (x : Ck) : ∀ u ∈ x.cells, u.oneCell' = true := by intro u hu; simp [Ck.cells] at hu; rcases hu with rfl | rfl | rfl | rfl | rfl | rfl <;> rfl
theorem infoP : (Try.prog.info? 94).map (fun i => (i.zero, i.size, i.bytes)) = some (some (.agg #[.int .i64 0, .int .i64 0]), 2, 16) := by kernel_rfl
theorem one2 (p : Nat × Nat) : ∀ u ∈ edg p, u.oneCell' = true := by intro u hu; simp [edg] at hu; rcases hu with rfl | rfl <;> rfl
/-- Between two rounds, whatever has come. -/
def RndI (c : Ctx) (ev : Nat → Ev) (cf : Nat → Ck) (E : List (Nat × Nat)) (pre : List { i : Nat // i < c.j }) (W : World) : Prop := ∃ da' dc', St c (told ev cf c.j pre).1 (E ++ (told ev cf c.j pre).2) da' dc' W
/-- The temporaries in a round. -/
def tmA (c : Ctx) (i Bx : Nat) (v : Value) : Act := { tmps := #[.pointer (some ⟨c.R, 0, none⟩), .int .i64 (c.j : Int), .pointer (some ⟨c.w.heap.size, 0, none⟩), .pointer (some ⟨c.w.heap.size + 1, 0, none⟩), .pointer (some ⟨c.w.heap.size + 2, 0, none⟩), .int .i64 (i : Int), .pointer (some ⟨Bx, 0, none⟩), .pointer (some ⟨c.R, 0, none⟩), .pointer (some ⟨c.R, 0, none⟩), .pointer (some ⟨c.R, 0, none⟩), .slice c.ea c.en c.ec, .int .i64 (c.j : Int), .slice c.ea c.j c.ec, .func (.func 110) #[] #[.pointer (some ⟨c.w.heap.size + 3, 0, none⟩)], .int .i64 (i : Int), v, undef, undef, undef, undef, undef, undef, undef, undef, undef, undef, undef, undef, undef, undef, undef, undef, undef, undef, undef, undef, undef, undef, undef, undef, undef, undef, undef, undef, undef, undef, undef, undef, undef, undef, undef, undef, undef, undef, undef, undef, undef, undef, undef, undef, undef, undef, undef, undef, undef, undef, undef, undef, undef, undef, undef, undef, undef, undef, undef, undef, undef, undef, undef, undef, undef, undef, undef, undef, undef, undef, undef, undef, undef, undef], defers := [] }
/-- Behind the assignment to the loop's variables. -/
def RndA (c : Ctx) (ev : Nat → Ev) (x : { i : Nat // i < c.j }) (a : Act) (W : World) : Prop := ∃ Bx, c.w.heap.size + 4 ≤ Bx ∧ W.heap[Bx]? = some (.cells (ev x.1).cells.toArray 70) ∧ a = tmA c x.1 Bx (.agg (ev x.1).cells.toArray)
set_option maxHeartbeats 4000000 in
theorem add_any (c : Ctx) (hg : c.Good) (ev : Nat → Ev) (cf : Nat → Ck) (E : List (Nat × Nat)) (dc : Nat) (hj : c.j < 256) (hjn : c.j < c.en) (hec : c.en ≤ c.ec) (hmx : c.ec ≤ 9223372036854775807) (hR : c.w.heap[c.R]? = some (objR c.ea c.en c.ec c.ca c.cn c.cc c.da E.length dc))
    (hE : OwnL c.w c.n₀ 94 2 c.da dc (E.map edg)) (hL : c.Lies ev cf) (hEl : E.length ≤ 65536) (C : List Ck) (hcn : c.cn = C.length) (hCl : C.length ≤ 256) (hC : OwnL c.w c.n₀ 86 6 c.ca c.cc (C.map Ck.cells)) (N : Ck) (hN : tickP (told ev cf c.j (dn c.j c.j)).1 (ev c.j).go N 0) :
    Calls Try.prog 79 #[.pointer (some ⟨c.R, 0, none⟩), .int .i64 (c.j : Int)] c.w fun e w' => (∃ v, e = .returned v) ∧ AddPost c (C ++ [N]) (E ++ (told ev cf c.j (dn c.j c.j)).2) w' := by
  have hcnH : Hid (c.cn = C.length) := hcn
  clear hcn
  have hRlt := hg.rl
  have sub := sub_ev c.ea c.en c.ec c.j (by omega) hmx
  refine (callsIn_wide (n := 3)).1 ?_
  refine callsIn_of_wp_marks Try.func79 rfl trivial ?_ rfl
  simp only [Try.ntmps79, List.size_toArray, List.length_cons, List.length_nil, Nat.reduceAdd, Nat.reduceSub, Array.replicate_succ, Array.replicate_zero, List.push_toArray, List.append_toArray, List.nil_append, List.cons_append]
  refine wpIn_wide.2 ?_
  go_wp2_with fail
  obtain ⟨p1, p2, p3, p4, p5⟩ := start3 c.w (.cells #[.pointer (some ⟨c.R, 0, none⟩)] 144) (.cells #[.int .i64 (c.j : Int)] 3) (objK zeroK)
  rw [show c.w.heap.size + 1 + 1 = c.w.heap.size + 2 from rfl]
  generalize ((c.w.alloc (.cells #[.pointer (some ⟨c.R, 0, none⟩)] 144)).alloc (.cells #[.int .i64 (c.j : Int)] 3)).alloc (objK zeroK) = W at *
  have p6 := (p4.block c.R hRlt).trans hR
  refine wp_region_noPanic ?_
  refine wp_region_held_drew (S := fun w' => Below W.heap.size W w') (by kernel_rfl) (bey_drew W) (fun hH => ?_)
  refine reg_load1 (i := 0) rfl (by kernel_rfl) (by kernel_rfl) (by kernel_rfl) (fun _ _ _ _ h => h) rfl 144 _ rfl ⟨c.w.heap.size, 0, none⟩ rfl _ Try.underlying144 rfl _ (fun w' h' => cell_in p1 rfl h') hH ?_
  simp only [Act.put, List.getElem_toArray, List.getElem_cons_succ, List.getElem_cons_zero, List.setIfInBounds_toArray, List.set_cons_zero, List.set_cons_succ]
  refine reg_move (i := 1) rfl (by kernel_rfl) (by kernel_rfl) (by kernel_rfl) (fun _ _ _ _ h => h) rfl _ (fun _ => rfl) hH ?_
  simp only [Act.put, List.getElem_toArray, List.getElem_cons_succ, List.getElem_cons_zero, List.setIfInBounds_toArray, List.set_cons_zero, List.set_cons_succ]
  refine reg_move (i := 2) rfl (by kernel_rfl) (by kernel_rfl) (by kernel_rfl) (fun _ _ _ _ h => h) rfl (.pointer (some ⟨c.R, 0, none⟩)) (fun _ => by kernel_rfl) hH ?_
  simp only [Act.put, List.getElem_toArray, List.getElem_cons_succ, List.getElem_cons_zero, List.setIfInBounds_toArray, List.set_cons_zero, List.set_cons_succ]
  refine reg_load1 (i := 3) rfl (by kernel_rfl) (by kernel_rfl) (by kernel_rfl) (fun _ _ _ _ h => h) rfl 22 _ rfl ⟨c.R, 0, none⟩ rfl _ Try.underlying22 rfl _ (fun w' h' => cell_in p6 rfl h') hH ?_
  simp only [Act.put, List.getElem_toArray, List.getElem_cons_succ, List.getElem_cons_zero, List.setIfInBounds_toArray, List.set_cons_zero, List.set_cons_succ]
  refine reg_load1 (i := 4) rfl (by kernel_rfl) (by kernel_rfl) (by kernel_rfl) (fun _ _ _ _ h => h) rfl 3 _ rfl ⟨c.w.heap.size + 1, 0, none⟩ rfl _ Try.underlying3 rfl _ (fun w' h' => cell_in p2 rfl h') hH ?_
  simp only [Act.put, List.getElem_toArray, List.getElem_cons_succ, List.getElem_cons_zero, List.setIfInBounds_toArray, List.set_cons_zero, List.set_cons_succ]
  refine reg_move (i := 5) rfl (by kernel_rfl) (by kernel_rfl) (by kernel_rfl) (fun _ _ _ _ h => h) rfl (.slice c.ea c.j c.ec) (fun wx => by unfold execOp; exact run_value_of (sub wx)) hH ?_
  simp only [Act.put, List.getElem_toArray, List.getElem_cons_succ, List.getElem_cons_zero, List.setIfInBounds_toArray, List.set_cons_zero, List.set_cons_succ]
  refine reg_call1 (i := 6) (by kernel_rfl) rfl rfl 94 _ _ rfl (.slice c.ea c.j c.ec) rfl (cf_fn Try.func94 (by kernel_rfl) (by kernel_rfl) _ _) _ (back_any _ _ _ _) ?_
  rintro e w1 ⟨rfl, hw1⟩
  refine ⟨_, rfl, by rw [hw1]; exact bthen (bey_drew W) (boxed _ _), fun hH1 => ?_⟩
  simp only [Act.put, List.getElem_toArray, List.getElem_cons_succ, List.getElem_cons_zero, List.setIfInBounds_toArray, List.set_cons_zero, List.set_cons_succ]
  refine wpAnyH_done (by kernel_rfl) (NoPanic.normal ?_) _
  have hsz1 : w1.heap.size = c.w.heap.size + 4 := by rw [hw1, World.size_alloc]; show W.heap.size + 1 = _; omega
  have hbs : w1.heap[c.w.heap.size + 3]? = some (.cells #[.slice c.ea c.j c.ec] 22) := by
    have := heap_alloc_new W.drew (.cells #[.slice c.ea c.j c.ec] 22)
    rw [hw1]
    rw [show W.drew.heap.size = c.w.heap.size + 3 from p5] at this
    exact this
  have hB1 : Below c.w.heap.size c.w w1 := bthen p4 hH1
  have s1 : RndI c ev cf E [] w1 := ⟨c.da, dc, by
    have e0 : (told ev cf c.j []).2 = [] := rfl
    have k : ∀ {b : Nat} {o : Obj}, W.heap[b]? = some o → w1.heap[b]? = some o := fun {b o} q => (hH1.block b (Array.getElem?_eq_some_iff.mp q).1).trans q
    rw [e0, List.append_nil]
    exact ⟨k p1, k p2, k p3, k p6, own_keep hE fun g hgm => hB1.block g (blk_lt hE g hgm).2, fun b q => .inl q, fun b q _ _ => hB1.block b q, hB1.mono (by have := hg.nR; omega), by omega⟩⟩
  rw [show W.drew.heap.size = c.w.heap.size + 3 from p5]
  have hCH : Hid (OwnL c.w c.n₀ 86 6 c.ca c.cc (C.map Ck.cells)) := hC
  have hNH : Hid (tickP (told ev cf c.j (dn c.j c.j)).1 (ev c.j).go N 0) := hN
  clear hw1 hH1 hH p1 p2 p3 p6 hR hE sub hC hN
  go_wp2_with fail
  refine (wpIn_wide (n := 3)).1 ?_
  refine wpIn_rangeFunc_ownH (n := 3) rfl (by omega) (gf := 110) (lb := #[.pointer (some ⟨c.w.heap.size + 3, 0, none⟩)]) rfl trivial (enters_of Try.func110 (by kernel_rfl) rfl)
    (back_stops Fence.wide 2 trivial rfl (by omega) (c.w.heap.size + 3) c.n₀ c.j c.ec c.ea ev (by omega) w1 (by omega) (by have := hg.nR; omega) hbs (hL.e.below (hB1.mono (by have := hg.nR; omega)))) Keeps.trans (keeps_b (by have := hg.nR; omega) (by omega)) (Below.refl _ _) (fun _ => rfl)
    (RndI c ev cf E) (fun _ _ _ => False) ?own (fun _ _ _ _ _ hs _ _ => hs) s1 (RndA c ev) ?ownA ?assign ?body ?done ?stop
  case own =>
    rintro pre A B row ⟨da', dc', hs⟩ hgr hr
    exact ⟨da', dc', hs.own hg (by omega) hgr hr⟩
  case ownA =>
    rintro x a' _ A B row ⟨Bx, h1, h2, h3⟩ hgr hr
    refine ⟨Bx, h1, ?_, h3⟩
    rw [hgr.block Bx (Array.getElem?_eq_some_iff.mp h2).1 fun e => ?_]
    · exact h2
    · obtain ⟨_, o, h4, h5⟩ := hr Bx e.symm
      rw [h2] at h4; cases h4; cases h5
  case assign =>
    rintro l pre x W2 K ⟨da', dc', hs⟩ hK
    have hz := hs.sz
    gi_wp2_with (refine inR_list rfl (by simp) (wpList_store_new rfl 70 _ _ rfl rfl _ (ev x.1).cells.toArray rfl (by kernel_rfl) rfl (ev_one (ev x.1)) (wpList_nil ?_)); show wpListIn (Fence.wide.inRound l) _ _ _ _ _ _ _)
    have hbb := boxed W2 (.cells (ev x.1).cells.toArray 70)
    have hkk := round_keeps (B := w1.heap.size) hs hg (by omega) hbb.size (hbb.mono (by have := hg.nR; omega)) fun b q _ _ _ => hbb.block b q
    exact hK _ _ hkk.1 hkk.2 ⟨da', dc', hs.later hg hbb⟩ ⟨W2.heap.size, hz, heap_alloc_new _ _, rfl⟩
  case body =>
    rintro l pre x a' W2 hlw _ ⟨da', dc', hs⟩ ⟨Bx, hBx, hbx, rfl⟩ hlen
    have hm := told_more ev cf c.j pre x
    have hok := told_ok ev cf c.j hL.ok _ pre rfl
    have hle := told_len ev cf c.j _ pre rfl
    obtain ⟨cb, co, eb, eo, f0, f1, f2, f3, f4, f5, f6, f7, f8, f9, f10, f11, f12, f13, f14⟩ := round_cls hs hg hL hbx x.2
    have huE : Hid (Try.prog.underlying 70 = _) := Try.underlying70
    have hiE : Hid ((Try.prog.info? 70).map (·.size) = some 26) := infoE26
    have hne := bey_some W2
    have hsH : Hid (St c (told ev cf c.j pre).1 (E ++ (told ev cf c.j pre).2) da' dc' W2) := hs
    have hmH : Hid (told ev cf c.j (pre ++ [x]) = stp ev cf c.j (told ev cf c.j pre) x.1) := hm
    have hxI : ((x.1 : Nat) : Int) < 256 := by have := x.2; omega
    clear hs hm
    by_cases e1 : (cf x.1).of (ev x.1).go.toNat ≤ (told ev cf c.j pre).1.of (ev x.1).go.toNat
    · have hst : Hid (told ev cf c.j (pre ++ [x]) = told ev cf c.j pre) := by show _ = _; rw [hmH.out]; unfold stp; rw [if_pos (.inl e1)]
      unfold tmA
      gi_wp2_with fail
      refine wpR_cls (Bey W2) (by kernel_rfl) (by kernel_rfl) (by kernel_rfl) (by rintro ⟨_, _, h⟩; exact h) (bey_drew W2) ?_
      repeat (go_big_quiet_step (fail))
      refine wpQuiet_nil ?_
      intro _ hw'
      obtain ⟨sq, hw''⟩ := hw'
      subst hw''
      clear f1 f2 f3 f4 f5 f6 f7 f8 f9 f10 f11 f12 f13 f14 e1
      gi_wp2
      have hkk := round_keeps (B := w1.heap.size) hsH.out hg (by omega) sq.h.size (sq.h.mono (by have := hg.nR; have := hsH.out.sz; omega)) fun b q _ _ _ => sq.h.block b q
      exact ⟨hkk.1, hkk.2, da', dc', by rw [hst.out]; exact hsH.out.later hg sq.h⟩
    · have hd1 : decide ((cf x.1).of (ev x.1).go.toNat ≤ (told ev cf c.j pre).1.of (ev x.1).go.toNat) = false := by simpa using e1
      by_cases e2 : clash (ev x.1).of (ev c.j).of = false
      · have hst : Hid (told ev cf c.j (pre ++ [x]) = told ev cf c.j pre) := by show _ = _; rw [hmH.out]; unfold stp; rw [if_pos (.inr e2)]
        have cD : ∀ wx, Calls Try.prog 33 #[.agg (ev x.1).cells.toArray, .agg (ev c.j).cells.toArray] wx _ := fun wx => dependent_any (ev x.1) (ev c.j) wx false e2.symm
        clear e2 e1
        unfold tmA
        gi_wp2_with fail
        refine wpR_cls (Bey W2) (by kernel_rfl) (by kernel_rfl) (by kernel_rfl) (by rintro ⟨_, _, h⟩; exact h) (bey_drew W2) ?_
        repeat (first
          | (go_big_quiet_want; (first | refine quiet_load_mid 70 _ rfl Bx 0 rfl _ _ f13 huE.out rfl hiE.out ?_ | refine quiet_load_mid 70 _ rfl eb eo rfl _ _ f12 huE.out rfl hiE.out ?_); (simp only [Act.put, List.setIfInBounds_toArray, List.set_cons_zero, List.set_cons_succ]); go_big_quiet_on)
          | go_big_quiet_step ((go_at_call 33; exact calls_bey (cD _))))
        refine wpQuiet_nil ?_
        intro _ hw'
        obtain ⟨sq, hw''⟩ := hw'
        subst hw''
        clear f1 f2 f3 f4 f5 f6 f7 f8 f9 f10 f11 f12 f13 f14 hd1 cD
        gi_wp2
        have hkk := round_keeps (B := w1.heap.size) hsH.out hg (by omega) sq.h.size (sq.h.mono (by have := hg.nR; have := hsH.out.sz; omega)) fun b q _ _ _ => sq.h.block b q
        exact ⟨hkk.1, hkk.2, da', dc', by rw [hst.out]; exact hsH.out.later hg sq.h⟩
      · have e3 : clash (ev x.1).of (ev c.j).of = true := by simpa using e2
        obtain ⟨y, hy⟩ : ∃ y, Hid (y = (told ev cf c.j pre).1.join (cf x.1)) := ⟨_, rfl⟩
        have cJ : ∀ wx, Calls Try.prog 95 #[(told ev cf c.j pre).1.val, (cf x.1).val] wx fun e w' => e = .returned (.tuple #[y.val, .int .i64 0]) ∧ Below wx.heap.size wx w' := fun wx => by rw [hy.out]; exact join_any _ _ hok (hL.ok x.1 x.2) wx
        have hst : Hid (told ev cf c.j (pre ++ [x]) = (y, (told ev cf c.j pre).2 ++ [(x.1, c.j)])) := by show _ = _; rw [hmH.out, hy.out]; unfold stp; rw [if_neg (by rintro (q | q) <;> contradiction)]
        have cD : ∀ wx, Calls Try.prog 33 #[.agg (ev x.1).cells.toArray, .agg (ev c.j).cells.toArray] wx _ := fun wx => dependent_any (ev x.1) (ev c.j) wx true e3.symm
        clear e2 e3 e1
        unfold tmA
        gi_wp2_with fail
        refine wpR_cls (Bey W2) (by kernel_rfl) (by kernel_rfl) (by kernel_rfl) (by rintro ⟨_, _, h⟩; exact h) (bey_drew W2) ?_
        repeat (first
          | (go_big_quiet_want; (first | refine quiet_load_mid 70 _ rfl Bx 0 rfl _ _ f13 huE.out rfl hiE.out ?_ | refine quiet_load_mid 70 _ rfl eb eo rfl _ _ f12 huE.out rfl hiE.out ?_); (simp only [Act.put, List.setIfInBounds_toArray, List.set_cons_zero, List.set_cons_succ]); go_big_quiet_on)
          | go_big_quiet_step ((go_at_call 33; exact calls_bey (cD _))))
        refine wpQuiet_nil ?_
        intro _ hw'
        obtain ⟨sq, hw''⟩ := hw'
        subst hw''
        have f6H : Hid (∀ wx, (Instr.indexAt 79 (.slice c.ca c.cn c.cc) (.int .i64 (x.1 : Int))).run Try.prog wx = .ok (.pointer (some ⟨cb, co, none⟩)) wx) := f6
        have f14H : Hid (∀ s : Cls (Bey W2), s.w.rangeAt cb co (cf x.1).cells) := f14
        clear f1 f2 f3 f4 f5 f6 f7 f8 f9 f10 f11 f12 f13 f14 hd1 cD hne
        gi_wp2_with fail
        have hs5 := hsH.out.later hg sq.h
        have hr5 := f14H.out sq
        have hcb := block_of_range hr5
        obtain ⟨W5, hW5⟩ : ∃ W5, W5 = sq.w := ⟨_, rfl⟩
        rw [← hW5] at hs5 hr5 hcb ⊢
        have hsz5 := hs5.sz
        refine wpR_held (fun w' => W5.heap.size ≤ w'.heap.size ∧ ∀ b, b < W5.heap.size → b ≠ c.w.heap.size + 2 → w'.heap[b]? = W5.heap[b]?) (by kernel_rfl) (by kernel_rfl) (by rintro ⟨_, _, h⟩; exact h) ?_
        have hH : W5.heap.size ≤ W5.drew.heap.size ∧ ∀ b, b < W5.heap.size → b ≠ c.w.heap.size + 2 → W5.drew.heap[b]? = W5.heap[b]? := ⟨Nat.le_refl _, fun _ _ _ => rfl⟩
        refine reg_load1 (i := 1) rfl (by kernel_rfl) (by kernel_rfl) (by kernel_rfl) (fun _ _ _ _ h => h) rfl 144 _ rfl ⟨c.w.heap.size, 0, none⟩ rfl _ Try.underlying144 rfl _ (fun w' h' => cell_of ((h'.2 _ (by omega) (by omega)).trans hs5.bx) rfl) hH ?_
        simp only [Act.put, List.getElem_toArray, List.getElem_cons_succ, List.getElem_cons_zero, List.setIfInBounds_toArray, List.set_cons_zero, List.set_cons_succ]
        refine reg_move (i := 2) rfl (by kernel_rfl) (by kernel_rfl) (by kernel_rfl) (fun _ _ _ _ h => h) rfl _ (fun _ => rfl) hH ?_
        simp only [Act.put, List.getElem_toArray, List.getElem_cons_succ, List.getElem_cons_zero, List.setIfInBounds_toArray, List.set_cons_zero, List.set_cons_succ]
        refine reg_move (i := 3) rfl (by kernel_rfl) (by kernel_rfl) (by kernel_rfl) (fun _ _ _ _ h => h) rfl (.pointer (some ⟨c.R, 1, none⟩)) (fun _ => by kernel_rfl) hH ?_
        simp only [Act.put, List.getElem_toArray, List.getElem_cons_succ, List.getElem_cons_zero, List.setIfInBounds_toArray, List.set_cons_zero, List.set_cons_succ]
        refine reg_load1 (i := 4) rfl (by kernel_rfl) (by kernel_rfl) (by kernel_rfl) (fun _ _ _ _ h => h) rfl 79 _ rfl ⟨c.R, 1, none⟩ rfl _ Try.underlying79 rfl _ (fun w' h' => cell_of ((h'.2 _ (by omega) (by omega)).trans hs5.rl) rfl) hH ?_
        simp only [Act.put, List.getElem_toArray, List.getElem_cons_succ, List.getElem_cons_zero, List.setIfInBounds_toArray, List.set_cons_zero, List.set_cons_succ]
        refine reg_move (i := 5) rfl (by kernel_rfl) (by kernel_rfl) (by kernel_rfl) (fun _ _ _ _ h => h) rfl _ (fun _ => rfl) hH ?_
        simp only [Act.put, List.getElem_toArray, List.getElem_cons_succ, List.getElem_cons_zero, List.setIfInBounds_toArray, List.set_cons_zero, List.set_cons_succ]
        refine reg_move (i := 6) rfl (by kernel_rfl) (by kernel_rfl) (by kernel_rfl) (fun _ _ _ _ h => h) rfl (.pointer (some ⟨cb, co, none⟩)) (fun wx => by unfold execOp; exact run_value_of (f6H.out wx)) hH ?_
        simp only [Act.put, List.getElem_toArray, List.getElem_cons_succ, List.getElem_cons_zero, List.setIfInBounds_toArray, List.set_cons_zero, List.set_cons_succ]
        refine reg_load (i := 7) rfl (by kernel_rfl) (by kernel_rfl) (by kernel_rfl) (fun _ _ _ _ h => h) rfl 86 _ rfl cb co rfl (cf x.1).cells _ (fun w' h' => range_block hr5 (h'.2 cb hcb (by omega))) Try.underlying86 rfl infoK hH ?_
        simp only [Act.put, List.getElem_toArray, List.getElem_cons_succ, List.getElem_cons_zero, List.setIfInBounds_toArray, List.set_cons_zero, List.set_cons_succ]
        refine reg_one (i := 0) (by kernel_rfl) rfl rfl (wpList_load_row rfl 86 _ rfl (c.w.heap.size + 2) rfl _ _ _ _ (show W5.drew.heap[c.w.heap.size + 2]? = some (objK (told ev cf c.j pre).1) from hs5.nw) Try.underlying86 rfl infoK (wpList_nil (And.intro hH fun _ => ?_)))
        simp only [Act.put, List.getElem_toArray, List.getElem_cons_succ, List.getElem_cons_zero, List.setIfInBounds_toArray, List.set_cons_zero, List.set_cons_succ]
        refine reg_call2 (i := 8) (by kernel_rfl) rfl rfl 95 _ _ _ _ rfl (told ev cf c.j pre).1.val (cf x.1).val rfl rfl (cf_fn Try.func95 (by kernel_rfl) (by kernel_rfl) _ _) _ (cJ _) ?_
        rintro e w6 ⟨rfl, hb6⟩
        have hb6' : Below W5.heap.size W5 w6 := bthen (bey_drew W5) hb6
        refine ⟨_, rfl, ⟨hb6'.size, fun b q _ => hb6'.block b q⟩, fun hH6 => ?_⟩
        have hs6 := hs5.later hg hb6'
        simp only [Act.put, List.getElem_toArray, List.getElem_cons_succ, List.getElem_cons_zero, List.setIfInBounds_toArray, List.set_cons_zero, List.set_cons_succ]
        refine reg_move (i := 9) rfl (by kernel_rfl) (by kernel_rfl) (by kernel_rfl) (fun _ _ _ _ h => h) rfl _ (fun _ => rfl) hH6 ?_
        simp only [Act.put, List.getElem_toArray, List.getElem_cons_succ, List.getElem_cons_zero, List.setIfInBounds_toArray, List.set_cons_zero, List.set_cons_succ]
        refine reg_move (i := 10) rfl (by kernel_rfl) (by kernel_rfl) (by kernel_rfl) (fun _ _ _ _ h => h) rfl y.val (fun _ => rfl) hH6 ?_
        simp only [Act.put, List.getElem_toArray, List.getElem_cons_succ, List.getElem_cons_zero, List.setIfInBounds_toArray, List.set_cons_zero, List.set_cons_succ]
        refine reg_move (i := 11) rfl (by kernel_rfl) (by kernel_rfl) (by kernel_rfl) (fun _ _ _ _ h => h) rfl (.int .i64 0) (fun _ => rfl) hH6 ?_
        simp only [Act.put, List.getElem_toArray, List.getElem_cons_succ, List.getElem_cons_zero, List.setIfInBounds_toArray, List.set_cons_zero, List.set_cons_succ]
        have hH7 : W5.heap.size ≤ (w6.setRow (c.w.heap.size + 2) y.cells.toArray).heap.size ∧ ∀ b, b < W5.heap.size → b ≠ c.w.heap.size + 2 → (w6.setRow (c.w.heap.size + 2) y.cells.toArray).heap[b]? = W5.heap[b]? := ⟨by rw [setRow_size]; exact hb6'.size, fun b q1 q2 => (setRow_other _ _ _ _ q2).trans (hb6'.block b q1)⟩
        refine reg_one (i := 12) (by kernel_rfl) rfl rfl (wpList_store_row rfl 86 _ _ rfl (c.w.heap.size + 2) y.cells.toArray rfl rfl _ _ hs6.nw infoK rfl (one6 y) (wpList_nil (And.intro hH7 fun _ => ?_)))
        simp only [Act.put, List.getElem_toArray, List.getElem_cons_succ, List.getElem_cons_zero, List.setIfInBounds_toArray, List.set_cons_zero, List.set_cons_succ]
        refine wpAnyH_done (by kernel_rfl) ?_ _
        have hs7 := hs6.now hg y
        have hb7 : Below c.n₀ W5 (w6.setRow (c.w.heap.size + 2) y.cells.toArray) := below_setRow (hb6'.mono (by have := hg.nR; omega)) (by have := hg.nR; omega) _
        generalize (w6.setRow (c.w.heap.size + 2) y.cells.toArray) = W7 at *
        have hH7H : Hid (W5.heap.size ≤ W7.heap.size ∧ ∀ b, b < W5.heap.size → b ≠ c.w.heap.size + 2 → W7.heap[b]? = W5.heap[b]?) := hH7
        have hs7H : Hid (St c y (E ++ (told ev cf c.j pre).2) da' dc' W7) := hs7
        have hb7H : Hid (Below c.n₀ W5 W7) := hb7
        clear hH7 hs7 hH6 hs6 hb6 hb6' hH hr5 f6H f14H hb7 cJ
        gi_wp2_with fail
        have hs7 := hs7H.out
        have hsz7 := hs7.sz
        refine wpR_held (fun w' => w'.heap[c.w.heap.size]? = some (.cells #[.pointer (some ⟨c.R, 0, none⟩)] 144) ∧ w'.heap[c.w.heap.size + 1]? = some (.cells #[.int .i64 (c.j : Int)] 3)) (by kernel_rfl) (by kernel_rfl) (by rintro ⟨_, _, h⟩; exact h) ?_
        have hH : W7.drew.heap[c.w.heap.size]? = some (.cells #[.pointer (some ⟨c.R, 0, none⟩)] 144) ∧ W7.drew.heap[c.w.heap.size + 1]? = some (.cells #[.int .i64 (c.j : Int)] 3) := ⟨hs7.bx, hs7.bj⟩
        refine reg_load1 (i := 0) rfl (by kernel_rfl) (by kernel_rfl) (by kernel_rfl) (fun _ _ _ _ h => h) rfl 144 _ rfl ⟨c.w.heap.size, 0, none⟩ rfl _ Try.underlying144 rfl _ (fun w' h' => cell_of h'.1 rfl) hH ?_
        simp only [Act.put, List.getElem_toArray, List.getElem_cons_succ, List.getElem_cons_zero, List.setIfInBounds_toArray, List.set_cons_zero, List.set_cons_succ]
        refine reg_load1 (i := 1) rfl (by kernel_rfl) (by kernel_rfl) (by kernel_rfl) (fun _ _ _ _ h => h) rfl 144 _ rfl ⟨c.w.heap.size, 0, none⟩ rfl _ Try.underlying144 rfl _ (fun w' h' => cell_of h'.1 rfl) hH ?_
        simp only [Act.put, List.getElem_toArray, List.getElem_cons_succ, List.getElem_cons_zero, List.setIfInBounds_toArray, List.set_cons_zero, List.set_cons_succ]
        refine reg_move (i := 2) rfl (by kernel_rfl) (by kernel_rfl) (by kernel_rfl) (fun _ _ _ _ h => h) rfl _ (fun _ => rfl) hH ?_
        simp only [Act.put, List.getElem_toArray, List.getElem_cons_succ, List.getElem_cons_zero, List.setIfInBounds_toArray, List.set_cons_zero, List.set_cons_succ]
        refine reg_move (i := 3) rfl (by kernel_rfl) (by kernel_rfl) (by kernel_rfl) (fun _ _ _ _ h => h) rfl (.pointer (some ⟨c.R, 2, none⟩)) (fun _ => by kernel_rfl) hH ?_
        simp only [Act.put, List.getElem_toArray, List.getElem_cons_succ, List.getElem_cons_zero, List.setIfInBounds_toArray, List.set_cons_zero, List.set_cons_succ]
        refine reg_move (i := 5) rfl (by kernel_rfl) (by kernel_rfl) (by kernel_rfl) (fun _ _ _ _ h => h) rfl _ (fun _ => rfl) hH ?_
        simp only [Act.put, List.getElem_toArray, List.getElem_cons_succ, List.getElem_cons_zero, List.setIfInBounds_toArray, List.set_cons_zero, List.set_cons_succ]
        refine reg_load1 (i := 6) rfl (by kernel_rfl) (by kernel_rfl) (by kernel_rfl) (fun _ _ _ _ h => h) rfl 3 _ rfl ⟨c.w.heap.size + 1, 0, none⟩ rfl _ Try.underlying3 rfl _ (fun w' h' => cell_of h'.2 rfl) hH ?_
        simp only [Act.put, List.getElem_toArray, List.getElem_cons_succ, List.getElem_cons_zero, List.setIfInBounds_toArray, List.set_cons_zero, List.set_cons_succ]
        refine reg_move (i := 7) rfl (by kernel_rfl) (by kernel_rfl) (by kernel_rfl) (fun _ _ _ _ h => h) rfl (.agg #[.int .i64 (x.1 : Int), .int .i64 (c.j : Int)]) (fun _ => by kernel_rfl) hH ?_
        simp only [Act.put, List.getElem_toArray, List.getElem_cons_succ, List.getElem_cons_zero, List.setIfInBounds_toArray, List.set_cons_zero, List.set_cons_succ]
        obtain ⟨iE, hiE, hzE, hsE, hbE⟩ := info_q infoP
        obtain ⟨n1, n2, n3, n4, n5⟩ := hs7.fresh hg
        have hs7d := hs7.later hg (bey_drew W7)
        have hnR := hg.nR
        have fin : ∀ (w9 : World) va' vc', St c y (E ++ (told ev cf c.j pre).2 ++ [(x.1, c.j)]) va' vc' w9 → (∀ b, b < W7.drew.heap.size → b ≠ c.R → b ∉ blk da' → w9.heap[b]? = W7.drew.heap[b]?) → Below c.n₀ W7.drew w9 → W7.drew.heap.size ≤ w9.heap.size → KeepsFrom w1.heap.size W2 w9 ∧ Keeps c.n₀ (c.w.heap.size + 3) W2 w9 ∧ RndI c ev cf E (pre ++ [x]) w9 := fun w9 va' vc' s9 k9 b9 z9 => by
          have q5 : Below W2.heap.size W2 W5 := by rw [hW5]; exact sq.h
          have hz2 := hsH.out.sz
          have z7 : W7.heap.size ≤ w9.heap.size := z9
          have z5 := hH7H.out.1
          have hkk := round_keeps (W' := w9) (B := w1.heap.size) hsH.out hg (by omega) (by have := q5.size; omega) ((q5.mono (by omega)).trans (hb7H.out.trans ((bey_drew W7).mono (by omega) |>.trans b9))) fun b h1 h2 h3 h4 => (k9 b (by show b < W7.heap.size; have := q5.size; omega) h3 h4).trans ((hH7H.out.2 b (by have := q5.size; omega) h2).trans (q5.block b h1))
          refine ⟨hkk.1, hkk.2, va', vc', ?_⟩
          rw [hst.out, ← List.append_assoc]
          exact s9
        have hHa : (W7.drew.alloc (.cells (edg (x.1, c.j)).toArray 94)).heap[c.w.heap.size]? = some (.cells #[.pointer (some ⟨c.R, 0, none⟩)] 144) ∧ (W7.drew.alloc (.cells (edg (x.1, c.j)).toArray 94)).heap[c.w.heap.size + 1]? = some (.cells #[.int .i64 (c.j : Int)] 3) := by
          have := hs7d.later hg (boxed W7.drew (.cells (edg (x.1, c.j)).toArray 94))
          exact ⟨this.bx, this.bj⟩
        have hra : (W7.drew.alloc (.cells (edg (x.1, c.j)).toArray 94)).heap[c.R]? = some (objR c.ea c.en c.ec c.ca c.cn c.cc da' (E ++ (told ev cf c.j pre).2).length dc') := (hs7d.later hg (boxed W7.drew (.cells (edg (x.1, c.j)).toArray 94))).rl
        refine reg_two (i := 4) (j := 8) (by kernel_rfl) rfl rfl rfl rfl ?_ ?_
        · refine wpList_load1 rfl 91 _ rfl ⟨c.R, 2, none⟩ rfl _ Try.underlying91 rfl (.slice da' (E ++ (told ev cf c.j pre).2).length dc') (cell_of hs7d.rl rfl) (wpList_nil (And.intro hH fun _ => ?_))
          simp only [Act.put, List.getElem_toArray, List.getElem_cons_succ, List.getElem_cons_zero, List.setIfInBounds_toArray, List.set_cons_zero, List.set_cons_succ]
          refine reg_one (i := 8) (by kernel_rfl) rfl rfl (wpList_buildSlice rfl 91 94 1 _ rfl (edg (x.1, c.j)).toArray iE _ Try.underlying91 hiE hzE (by rw [hsE]; omega) (by rw [hsE]; omega) (by simp only [hsE]; kernel_rfl) (wpList_nil (And.intro hHa fun _ => ?_)))
          simp only [Act.put, List.getElem_toArray, List.getElem_cons_succ, List.getElem_cons_zero, List.setIfInBounds_toArray, List.set_cons_zero, List.set_cons_succ]
          refine reg_one (i := 9) (by kernel_rfl) rfl rfl (wpList_app1 (wr := W7.drew) rfl (.tmp 59) (.tmp 63) 91 rfl c.n₀ 94 iE _ 2 16 Try.underlying91 hiE hzE hsE hbE rfl (by decide) da' dc' ((E ++ (told ev cf c.j pre).2).map edg) (by rw [List.length_map]; rfl) hs7d.ed (edg (x.1, c.j)) rfl rfl (one2 _) (by rw [List.length_map, List.length_append]; unfold maxLen; omega) (by rw [List.length_map, List.length_append]; omega) (by show c.n₀ ≤ W7.heap.size; omega) ?_)
          intro va' vc' w8 g8
          obtain ⟨r8, s9, k9, b9, z9⟩ := hs7d.edge hg g8
          have hH8 : w8.heap[c.w.heap.size]? = some (.cells #[.pointer (some ⟨c.R, 0, none⟩)] 144) ∧ w8.heap[c.w.heap.size + 1]? = some (.cells #[.int .i64 (c.j : Int)] 3) := ⟨(g8.kp _ (by show _ < W7.heap.size; omega) n2).trans hs7.bx, (g8.kp _ (by show _ < W7.heap.size; omega) n3).trans hs7.bj⟩
          refine wpList_nil (And.intro hH8 fun _ => ?_)
          rw [List.length_map]
          simp only [Act.put, List.getElem_toArray, List.getElem_cons_succ, List.getElem_cons_zero, List.setIfInBounds_toArray, List.set_cons_zero, List.set_cons_succ]
          refine reg_move (i := 10) rfl (by kernel_rfl) (by kernel_rfl) (by kernel_rfl) (fun _ _ _ _ h => h) rfl _ (fun _ => rfl) hH8 ?_
          simp only [Act.put, List.getElem_toArray, List.getElem_cons_succ, List.getElem_cons_zero, List.setIfInBounds_toArray, List.set_cons_zero, List.set_cons_succ]
          refine reg_move (i := 11) rfl (by kernel_rfl) (by kernel_rfl) (by kernel_rfl) (fun _ _ _ _ h => h) rfl (.pointer (some ⟨c.R, 2, none⟩)) (fun _ => by kernel_rfl) hH8 ?_
          simp only [Act.put, List.getElem_toArray, List.getElem_cons_succ, List.getElem_cons_zero, List.setIfInBounds_toArray, List.set_cons_zero, List.set_cons_succ]
          refine reg_one (i := 12) (by kernel_rfl) rfl rfl (wpList_store1 rfl 91 _ _ rfl ⟨c.R, 2, none⟩ rfl va' ((E ++ (told ev cf c.j pre).2).length + 1) vc' rfl (by kernel_rfl) _ (cell_of r8 rfl) (frozen_of_row _ _ _ _ _ r8) (wpList_nil (And.intro ⟨s9.bx, s9.bj⟩ fun _ => ?_)))
          simp only [Act.put, List.getElem_toArray, List.getElem_cons_succ, List.getElem_cons_zero, List.setIfInBounds_toArray, List.set_cons_zero, List.set_cons_succ]
          refine wpAnyH_done (by kernel_rfl) ?_ _
          have hfin := fin _ va' vc' s9 k9 b9 z9
          clear s9 k9 b9 z9 r8 hH8 g8
          gi_wp2
          exact hfin
        · refine wpList_buildSlice rfl 91 94 1 _ rfl (edg (x.1, c.j)).toArray iE _ Try.underlying91 hiE hzE (by rw [hsE]; omega) (by rw [hsE]; omega) (by simp only [hsE]; kernel_rfl) (wpList_nil (And.intro hHa fun _ => ?_))
          simp only [Act.put, List.getElem_toArray, List.getElem_cons_succ, List.getElem_cons_zero, List.setIfInBounds_toArray, List.set_cons_zero, List.set_cons_succ]
          refine reg_one (i := 4) (by kernel_rfl) rfl rfl (wpList_load1 rfl 91 _ rfl ⟨c.R, 2, none⟩ rfl _ Try.underlying91 rfl (.slice da' (E ++ (told ev cf c.j pre).2).length dc') (cell_of hra rfl) (wpList_nil (And.intro hHa fun _ => ?_)))
          simp only [Act.put, List.getElem_toArray, List.getElem_cons_succ, List.getElem_cons_zero, List.setIfInBounds_toArray, List.set_cons_zero, List.set_cons_succ]
          refine reg_one (i := 9) (by kernel_rfl) rfl rfl (wpList_app1 (wr := W7.drew) rfl (.tmp 59) (.tmp 63) 91 rfl c.n₀ 94 iE _ 2 16 Try.underlying91 hiE hzE hsE hbE rfl (by decide) da' dc' ((E ++ (told ev cf c.j pre).2).map edg) (by rw [List.length_map]; rfl) hs7d.ed (edg (x.1, c.j)) rfl rfl (one2 _) (by rw [List.length_map, List.length_append]; unfold maxLen; omega) (by rw [List.length_map, List.length_append]; omega) (by show c.n₀ ≤ W7.heap.size; omega) ?_)
          intro va' vc' w8 g8
          obtain ⟨r8, s9, k9, b9, z9⟩ := hs7d.edge hg g8
          have hH8 : w8.heap[c.w.heap.size]? = some (.cells #[.pointer (some ⟨c.R, 0, none⟩)] 144) ∧ w8.heap[c.w.heap.size + 1]? = some (.cells #[.int .i64 (c.j : Int)] 3) := ⟨(g8.kp _ (by show _ < W7.heap.size; omega) n2).trans hs7.bx, (g8.kp _ (by show _ < W7.heap.size; omega) n3).trans hs7.bj⟩
          refine wpList_nil (And.intro hH8 fun _ => ?_)
          rw [List.length_map]
          simp only [Act.put, List.getElem_toArray, List.getElem_cons_succ, List.getElem_cons_zero, List.setIfInBounds_toArray, List.set_cons_zero, List.set_cons_succ]
          refine reg_move (i := 10) rfl (by kernel_rfl) (by kernel_rfl) (by kernel_rfl) (fun _ _ _ _ h => h) rfl _ (fun _ => rfl) hH8 ?_
          simp only [Act.put, List.getElem_toArray, List.getElem_cons_succ, List.getElem_cons_zero, List.setIfInBounds_toArray, List.set_cons_zero, List.set_cons_succ]
          refine reg_move (i := 11) rfl (by kernel_rfl) (by kernel_rfl) (by kernel_rfl) (fun _ _ _ _ h => h) rfl (.pointer (some ⟨c.R, 2, none⟩)) (fun _ => by kernel_rfl) hH8 ?_
          simp only [Act.put, List.getElem_toArray, List.getElem_cons_succ, List.getElem_cons_zero, List.setIfInBounds_toArray, List.set_cons_zero, List.set_cons_succ]
          refine reg_one (i := 12) (by kernel_rfl) rfl rfl (wpList_store1 rfl 91 _ _ rfl ⟨c.R, 2, none⟩ rfl va' ((E ++ (told ev cf c.j pre).2).length + 1) vc' rfl (by kernel_rfl) _ (cell_of r8 rfl) (frozen_of_row _ _ _ _ _ r8) (wpList_nil (And.intro ⟨s9.bx, s9.bj⟩ fun _ => ?_)))
          simp only [Act.put, List.getElem_toArray, List.getElem_cons_succ, List.getElem_cons_zero, List.setIfInBounds_toArray, List.set_cons_zero, List.set_cons_succ]
          refine wpAnyH_done (by kernel_rfl) ?_ _
          have hfin := fin _ va' vc' s9 k9 b9 z9
          clear s9 k9 b9 z9 r8 hH8 g8
          gi_wp2
          exact hfin
  case done =>
    rintro D ys W5 hD rfl ⟨da', dc', hs5⟩ hK
    have hEE := told_len ev cf c.j c.j (dn c.j c.j) (dn_len (Nat.le_refl _))
    obtain ⟨T, hT⟩ : ∃ T, Hid (T = told ev cf c.j (dn c.j c.j)) := ⟨_, rfl⟩
    rw [← hT.out] at hs5 hEE
    have cT : ∀ wx, Calls Try.prog 96 #[T.1.val, .int .i64 (ev c.j).go] wx fun e w' => e = .returned (.tuple #[N.val, .int .i64 0]) ∧ Below wx.heap.size wx w' := fun wx => tick_any _ _ N 0 (by rw [hT.out]; exact hNH.out) wx
    have hs5H : Hid (St c T.1 (E ++ T.2) da' dc' W5) := hs5
    have hKH : Hid (W5.heap[D]? = some (.deferred (some []))) := hK
    clear hs5 hK
    go_wp2_with fail
    have hs5 := hs5H.out
    have hsz5 := hs5.sz
    have hnR := hg.nR
    obtain ⟨eb, eo, e1, e2, e3⟩ := hL.ej
    have e4 : W5.rangeAt eb eo (ev c.j).cells := range_block e3 (hs5.be.block eb e2)
    refine wp_region_noPanic ?_
    have hH : W5.heap.size ≤ W5.drew.heap.size ∧ ∀ b, b < W5.heap.size → b ≠ c.w.heap.size + 2 → W5.drew.heap[b]? = W5.heap[b]? := ⟨Nat.le_refl _, fun _ _ _ => rfl⟩
    refine wp_region_held_drew (S := fun w' => W5.heap.size ≤ w'.heap.size ∧ ∀ b, b < W5.heap.size → b ≠ c.w.heap.size + 2 → w'.heap[b]? = W5.heap[b]?) (by kernel_rfl) hH (fun _ => ?_)
    refine reg_load1 (i := 1) rfl (by kernel_rfl) (by kernel_rfl) (by kernel_rfl) (fun _ _ _ _ h => h) rfl 144 _ rfl ⟨c.w.heap.size, 0, none⟩ rfl _ Try.underlying144 rfl _ (fun w' h' => cell_of ((h'.2 _ (by omega) (by omega)).trans hs5.bx) rfl) hH ?_
    simp only [Act.put, List.getElem_toArray, List.getElem_cons_succ, List.getElem_cons_zero, List.setIfInBounds_toArray, List.set_cons_zero, List.set_cons_succ]
    refine reg_move (i := 2) rfl (by kernel_rfl) (by kernel_rfl) (by kernel_rfl) (fun _ _ _ _ h => h) rfl _ (fun _ => rfl) hH ?_
    simp only [Act.put, List.getElem_toArray, List.getElem_cons_succ, List.getElem_cons_zero, List.setIfInBounds_toArray, List.set_cons_zero, List.set_cons_succ]
    refine reg_move (i := 3) rfl (by kernel_rfl) (by kernel_rfl) (by kernel_rfl) (fun _ _ _ _ h => h) rfl (.pointer (some ⟨c.R, 0, none⟩)) (fun _ => by kernel_rfl) hH ?_
    simp only [Act.put, List.getElem_toArray, List.getElem_cons_succ, List.getElem_cons_zero, List.setIfInBounds_toArray, List.set_cons_zero, List.set_cons_succ]
    refine reg_load1 (i := 4) rfl (by kernel_rfl) (by kernel_rfl) (by kernel_rfl) (fun _ _ _ _ h => h) rfl 22 _ rfl ⟨c.R, 0, none⟩ rfl _ Try.underlying22 rfl _ (fun w' h' => cell_of ((h'.2 _ (by omega) (by omega)).trans hs5.rl) rfl) hH ?_
    simp only [Act.put, List.getElem_toArray, List.getElem_cons_succ, List.getElem_cons_zero, List.setIfInBounds_toArray, List.set_cons_zero, List.set_cons_succ]
    refine reg_load1 (i := 5) rfl (by kernel_rfl) (by kernel_rfl) (by kernel_rfl) (fun _ _ _ _ h => h) rfl 3 _ rfl ⟨c.w.heap.size + 1, 0, none⟩ rfl _ Try.underlying3 rfl _ (fun w' h' => cell_of ((h'.2 _ (by omega) (by omega)).trans hs5.bj) rfl) hH ?_
    simp only [Act.put, List.getElem_toArray, List.getElem_cons_succ, List.getElem_cons_zero, List.setIfInBounds_toArray, List.set_cons_zero, List.set_cons_succ]
    refine reg_move (i := 6) rfl (by kernel_rfl) (by kernel_rfl) (by kernel_rfl) (fun _ _ _ _ h => h) rfl (.pointer (some ⟨eb, eo, none⟩)) (fun wx => by unfold execOp; exact run_value_of (e1 wx)) hH ?_
    simp only [Act.put, List.getElem_toArray, List.getElem_cons_succ, List.getElem_cons_zero, List.setIfInBounds_toArray, List.set_cons_zero, List.set_cons_succ]
    refine reg_move (i := 7) rfl (by kernel_rfl) (by kernel_rfl) (by kernel_rfl) (fun _ _ _ _ h => h) rfl (.pointer (some ⟨eb, eo, none⟩)) (fun _ => by kernel_rfl) hH ?_
    simp only [Act.put, List.getElem_toArray, List.getElem_cons_succ, List.getElem_cons_zero, List.setIfInBounds_toArray, List.set_cons_zero, List.set_cons_succ]
    refine reg_load1 (i := 8) rfl (by kernel_rfl) (by kernel_rfl) (by kernel_rfl) (fun _ _ _ _ h => h) rfl 3 _ rfl ⟨eb, eo, none⟩ rfl _ Try.underlying3 rfl _ (fun w' h' => range_block e4 (h'.2 eb (by omega) (by omega)) 0 _ rfl) hH ?_
    simp only [Act.put, List.getElem_toArray, List.getElem_cons_succ, List.getElem_cons_zero, List.setIfInBounds_toArray, List.set_cons_zero, List.set_cons_succ]
    refine reg_one (i := 0) (by kernel_rfl) rfl rfl (wpList_load_row rfl 86 _ rfl (c.w.heap.size + 2) rfl _ _ _ _ (show W5.drew.heap[c.w.heap.size + 2]? = some (objK T.1) from hs5.nw) Try.underlying86 rfl infoK (wpList_nil (And.intro hH fun _ => ?_)))
    simp only [Act.put, List.getElem_toArray, List.getElem_cons_succ, List.getElem_cons_zero, List.setIfInBounds_toArray, List.set_cons_zero, List.set_cons_succ]
    refine reg_call2 (i := 9) (by kernel_rfl) rfl rfl 96 _ _ _ _ rfl T.1.val (.int .i64 (ev c.j).go) rfl rfl (cf_fn Try.func96 (by kernel_rfl) (by kernel_rfl) _ _) _ (cT _) ?_
    rintro e w6 ⟨rfl, hb6⟩
    have hb6' : Below W5.heap.size W5 w6 := bthen (bey_drew W5) hb6
    refine ⟨_, rfl, ⟨hb6'.size, fun b q _ => hb6'.block b q⟩, fun hH6 => ?_⟩
    have hs6 := hs5.later hg hb6'
    simp only [Act.put, List.getElem_toArray, List.getElem_cons_succ, List.getElem_cons_zero, List.setIfInBounds_toArray, List.set_cons_zero, List.set_cons_succ]
    refine reg_move (i := 10) rfl (by kernel_rfl) (by kernel_rfl) (by kernel_rfl) (fun _ _ _ _ h => h) rfl _ (fun _ => rfl) hH6 ?_
    simp only [Act.put, List.getElem_toArray, List.getElem_cons_succ, List.getElem_cons_zero, List.setIfInBounds_toArray, List.set_cons_zero, List.set_cons_succ]
    refine reg_move (i := 11) rfl (by kernel_rfl) (by kernel_rfl) (by kernel_rfl) (fun _ _ _ _ h => h) rfl N.val (fun _ => rfl) hH6 ?_
    simp only [Act.put, List.getElem_toArray, List.getElem_cons_succ, List.getElem_cons_zero, List.setIfInBounds_toArray, List.set_cons_zero, List.set_cons_succ]
    refine reg_move (i := 12) rfl (by kernel_rfl) (by kernel_rfl) (by kernel_rfl) (fun _ _ _ _ h => h) rfl (.int .i64 0) (fun _ => rfl) hH6 ?_
    simp only [Act.put, List.getElem_toArray, List.getElem_cons_succ, List.getElem_cons_zero, List.setIfInBounds_toArray, List.set_cons_zero, List.set_cons_succ]
    have hH7 : W5.heap.size ≤ (w6.setRow (c.w.heap.size + 2) N.cells.toArray).heap.size ∧ ∀ b, b < W5.heap.size → b ≠ c.w.heap.size + 2 → (w6.setRow (c.w.heap.size + 2) N.cells.toArray).heap[b]? = W5.heap[b]? := ⟨by rw [setRow_size]; exact hb6'.size, fun b q1 q2 => (setRow_other _ _ _ _ q2).trans (hb6'.block b q1)⟩
    refine reg_one (i := 13) (by kernel_rfl) rfl rfl (wpList_store_row rfl 86 _ _ rfl (c.w.heap.size + 2) N.cells.toArray rfl rfl _ _ hs6.nw infoK rfl (one6 N) (wpList_nil (And.intro hH7 fun _ => ?_)))
    simp only [Act.put, List.getElem_toArray, List.getElem_cons_succ, List.getElem_cons_zero, List.setIfInBounds_toArray, List.set_cons_zero, List.set_cons_succ]
    refine wpAnyH_done (by kernel_rfl) (NoPanic.normal ?_) _
    have hs7 := hs6.now hg N
    have hDW5 : D < W5.heap.size := (Array.getElem?_eq_some_iff.mp hKH.out).1
    have hK7 := (hH7.2 D hDW5 (by omega)).trans hKH.out
    generalize (w6.setRow (c.w.heap.size + 2) N.cells.toArray) = W7 at *
    have hs7H : Hid (St c N (E ++ T.2) da' dc' W7) := hs7
    have hK7H : Hid (W7.heap[D]? = some (.deferred (some []))) := hK7
    clear hH7 hs7 hK7 hH6 hs6 hb6 hb6' hH e1 e2 e3 e4 cT
    go_wp2_with fail
    have hs7 := hs7H.out
    have hsz7 := hs7.sz
    obtain ⟨iK, hiK, hzK, hsK, hbK⟩ := info_q infoK6
    have hs7d := hs7.later hg (bey_drew W7)
    have ca3 : ∀ b, c.w.heap.size ≤ b → b ∉ blk c.ca := fun b q1 q2 => by have := (hg.d3 b q2).1; omega
    have hCd : OwnL W7.drew c.n₀ 86 6 c.ca c.cc (C.map Ck.cells) := own_keep hCH.out fun b q => hs7.kp b (hg.d3 b q).1 (hg.d3 b q).2.1 (hg.d3 b q).2.2
    refine wp_region_noPanic ?_
    have hH : W7.drew.heap[c.w.heap.size]? = some (.cells #[.pointer (some ⟨c.R, 0, none⟩)] 144) ∧ W7.drew.heap[c.w.heap.size + 2]? = some (objK N) := ⟨hs7.bx, hs7.nw⟩
    refine wp_region_held_drew (S := fun w' => w'.heap[c.w.heap.size]? = some (.cells #[.pointer (some ⟨c.R, 0, none⟩)] 144) ∧ w'.heap[c.w.heap.size + 2]? = some (objK N)) (by kernel_rfl) hH (fun _ => ?_)
    refine reg_load1 (i := 0) rfl (by kernel_rfl) (by kernel_rfl) (by kernel_rfl) (fun _ _ _ _ h => h) rfl 144 _ rfl ⟨c.w.heap.size, 0, none⟩ rfl _ Try.underlying144 rfl _ (fun w' h' => cell_of h'.1 rfl) hH ?_
    simp only [Act.put, List.getElem_toArray, List.getElem_cons_succ, List.getElem_cons_zero, List.setIfInBounds_toArray, List.set_cons_zero, List.set_cons_succ]
    refine reg_load1 (i := 1) rfl (by kernel_rfl) (by kernel_rfl) (by kernel_rfl) (fun _ _ _ _ h => h) rfl 144 _ rfl ⟨c.w.heap.size, 0, none⟩ rfl _ Try.underlying144 rfl _ (fun w' h' => cell_of h'.1 rfl) hH ?_
    simp only [Act.put, List.getElem_toArray, List.getElem_cons_succ, List.getElem_cons_zero, List.setIfInBounds_toArray, List.set_cons_zero, List.set_cons_succ]
    refine reg_move (i := 2) rfl (by kernel_rfl) (by kernel_rfl) (by kernel_rfl) (fun _ _ _ _ h => h) rfl _ (fun _ => rfl) hH ?_
    simp only [Act.put, List.getElem_toArray, List.getElem_cons_succ, List.getElem_cons_zero, List.setIfInBounds_toArray, List.set_cons_zero, List.set_cons_succ]
    refine reg_move (i := 3) rfl (by kernel_rfl) (by kernel_rfl) (by kernel_rfl) (fun _ _ _ _ h => h) rfl (.pointer (some ⟨c.R, 1, none⟩)) (fun _ => by kernel_rfl) hH ?_
    simp only [Act.put, List.getElem_toArray, List.getElem_cons_succ, List.getElem_cons_zero, List.setIfInBounds_toArray, List.set_cons_zero, List.set_cons_succ]
    refine reg_load (i := 5) rfl (by kernel_rfl) (by kernel_rfl) (by kernel_rfl) (fun _ _ _ _ h => h) rfl 86 _ rfl (c.w.heap.size + 2) 0 rfl N.cells _ (fun w' h' => fun q v hv => cell_of (cs := N.cells.toArray) h'.2 (by rw [Nat.zero_add]; simpa using hv)) Try.underlying86 rfl infoK hH ?_
    simp only [Act.put, List.getElem_toArray, List.getElem_cons_succ, List.getElem_cons_zero, List.setIfInBounds_toArray, List.set_cons_zero, List.set_cons_succ]
    have hHa : (W7.drew.alloc (.cells N.cells.toArray 86)).heap[c.w.heap.size]? = some (.cells #[.pointer (some ⟨c.R, 0, none⟩)] 144) ∧ (W7.drew.alloc (.cells N.cells.toArray 86)).heap[c.w.heap.size + 2]? = some (objK N) := by
      have := hs7d.later hg (boxed W7.drew (.cells N.cells.toArray 86))
      exact ⟨this.bx, this.nw⟩
    have hra := (hs7d.later hg (boxed W7.drew (.cells N.cells.toArray 86))).rl
    refine reg_two (i := 4) (j := 6) (by kernel_rfl) rfl rfl rfl rfl ?_ ?_
    · refine wpList_load1 rfl 79 _ rfl ⟨c.R, 1, none⟩ rfl _ Try.underlying79 rfl (.slice c.ca c.cn c.cc) (cell_of hs7d.rl rfl) (wpList_nil (And.intro hH fun _ => ?_))
      simp only [Act.put, List.getElem_toArray, List.getElem_cons_succ, List.getElem_cons_zero, List.setIfInBounds_toArray, List.set_cons_zero, List.set_cons_succ]
      refine reg_one (i := 6) (by kernel_rfl) rfl rfl (wpList_buildSlice rfl 79 86 1 _ rfl N.cells.toArray iK _ Try.underlying79 hiK hzK (by rw [hsK]; omega) (by rw [hsK]; omega) (by simp only [hsK]; kernel_rfl) (wpList_nil (And.intro hHa fun _ => ?_)))
      simp only [Act.put, List.getElem_toArray, List.getElem_cons_succ, List.getElem_cons_zero, List.setIfInBounds_toArray, List.set_cons_zero, List.set_cons_succ]
      refine reg_one (i := 7) (by kernel_rfl) rfl rfl (wpList_app1 (wr := W7.drew) rfl (.tmp 84) (.tmp 86) 79 rfl c.n₀ 86 iK _ 6 48 Try.underlying79 hiK hzK hsK hbK rfl (by decide) c.ca c.cc (C.map Ck.cells) (by rw [List.length_map, ← hcnH.out]; rfl) hCd N.cells rfl rfl (one6l N) (by rw [List.length_map]; unfold maxLen; omega) (by rw [List.length_map]; omega) (by show c.n₀ ≤ W7.heap.size; omega) ?_)
      intro va' vc' w8 g8
      obtain ⟨r8, kD, post⟩ := hs7d.last hg hcnH.out g8 (D := D) (by omega) hK7H.out
      have hH8 : w8.heap[c.w.heap.size]? = some (.cells #[.pointer (some ⟨c.R, 0, none⟩)] 144) ∧ w8.heap[c.w.heap.size + 2]? = some (objK N) := ⟨(g8.kp _ (by show _ < W7.heap.size; omega) (ca3 _ (by omega))).trans hs7.bx, (g8.kp _ (by show _ < W7.heap.size; omega) (ca3 _ (by omega))).trans hs7.nw⟩
      refine wpList_nil (And.intro hH8 fun _ => ?_)
      rw [List.length_map]
      simp only [Act.put, List.getElem_toArray, List.getElem_cons_succ, List.getElem_cons_zero, List.setIfInBounds_toArray, List.set_cons_zero, List.set_cons_succ]
      refine reg_move (i := 8) rfl (by kernel_rfl) (by kernel_rfl) (by kernel_rfl) (fun _ _ _ _ h => h) rfl _ (fun _ => rfl) hH8 ?_
      simp only [Act.put, List.getElem_toArray, List.getElem_cons_succ, List.getElem_cons_zero, List.setIfInBounds_toArray, List.set_cons_zero, List.set_cons_succ]
      refine reg_move (i := 9) rfl (by kernel_rfl) (by kernel_rfl) (by kernel_rfl) (fun _ _ _ _ h => h) rfl (.pointer (some ⟨c.R, 1, none⟩)) (fun _ => by kernel_rfl) hH8 ?_
      simp only [Act.put, List.getElem_toArray, List.getElem_cons_succ, List.getElem_cons_zero, List.setIfInBounds_toArray, List.set_cons_zero, List.set_cons_succ]
      have hH9 : (w8.setCell ⟨c.R, 1, none⟩ (.slice va' (C.length + 1) vc')).heap[c.w.heap.size]? = some (.cells #[.pointer (some ⟨c.R, 0, none⟩)] 144) ∧ (w8.setCell ⟨c.R, 1, none⟩ (.slice va' (C.length + 1) vc')).heap[c.w.heap.size + 2]? = some (objK N) := by
        rw [setCell_eq_setRow w8 c.R 1 _ _ _ _ r8]
        exact ⟨(setRow_other _ _ _ _ (by omega)).trans hH8.1, (setRow_other _ _ _ _ (by omega)).trans hH8.2⟩
      refine reg_one (i := 10) (by kernel_rfl) rfl rfl (wpList_store1 rfl 79 _ _ rfl ⟨c.R, 1, none⟩ rfl va' (C.length + 1) vc' rfl (by kernel_rfl) _ (cell_of r8 rfl) (frozen_of_row _ _ _ _ _ r8) (wpList_nil (And.intro hH9 fun _ => ?_)))
      simp only [Act.put, List.getElem_toArray, List.getElem_cons_succ, List.getElem_cons_zero, List.setIfInBounds_toArray, List.set_cons_zero, List.set_cons_succ]
      refine wpAnyH_done (by kernel_rfl) (NoPanic.normal ?_) _
      refine ⟨by simp, .inl ⟨_, _, rfl, run_takeDeferred kD, ?_⟩⟩
      refine ⟨_, results_none rfl _ _ _, ⟨_, rfl⟩, ?_⟩
      rw [← hT.out]
      exact post
    · refine wpList_buildSlice rfl 79 86 1 _ rfl N.cells.toArray iK _ Try.underlying79 hiK hzK (by rw [hsK]; omega) (by rw [hsK]; omega) (by simp only [hsK]; kernel_rfl) (wpList_nil (And.intro hHa fun _ => ?_))
      simp only [Act.put, List.getElem_toArray, List.getElem_cons_succ, List.getElem_cons_zero, List.setIfInBounds_toArray, List.set_cons_zero, List.set_cons_succ]
      refine reg_one (i := 4) (by kernel_rfl) rfl rfl (wpList_load1 rfl 79 _ rfl ⟨c.R, 1, none⟩ rfl _ Try.underlying79 rfl (.slice c.ca c.cn c.cc) (cell_of hra rfl) (wpList_nil (And.intro hHa fun _ => ?_)))
      simp only [Act.put, List.getElem_toArray, List.getElem_cons_succ, List.getElem_cons_zero, List.setIfInBounds_toArray, List.set_cons_zero, List.set_cons_succ]
      refine reg_one (i := 7) (by kernel_rfl) rfl rfl (wpList_app1 (wr := W7.drew) rfl (.tmp 84) (.tmp 86) 79 rfl c.n₀ 86 iK _ 6 48 Try.underlying79 hiK hzK hsK hbK rfl (by decide) c.ca c.cc (C.map Ck.cells) (by rw [List.length_map, ← hcnH.out]; rfl) hCd N.cells rfl rfl (one6l N) (by rw [List.length_map]; unfold maxLen; omega) (by rw [List.length_map]; omega) (by show c.n₀ ≤ W7.heap.size; omega) ?_)
      intro va' vc' w8 g8
      obtain ⟨r8, kD, post⟩ := hs7d.last hg hcnH.out g8 (D := D) (by omega) hK7H.out
      have hH8 : w8.heap[c.w.heap.size]? = some (.cells #[.pointer (some ⟨c.R, 0, none⟩)] 144) ∧ w8.heap[c.w.heap.size + 2]? = some (objK N) := ⟨(g8.kp _ (by show _ < W7.heap.size; omega) (ca3 _ (by omega))).trans hs7.bx, (g8.kp _ (by show _ < W7.heap.size; omega) (ca3 _ (by omega))).trans hs7.nw⟩
      refine wpList_nil (And.intro hH8 fun _ => ?_)
      rw [List.length_map]
      simp only [Act.put, List.getElem_toArray, List.getElem_cons_succ, List.getElem_cons_zero, List.setIfInBounds_toArray, List.set_cons_zero, List.set_cons_succ]
      refine reg_move (i := 8) rfl (by kernel_rfl) (by kernel_rfl) (by kernel_rfl) (fun _ _ _ _ h => h) rfl _ (fun _ => rfl) hH8 ?_
      simp only [Act.put, List.getElem_toArray, List.getElem_cons_succ, List.getElem_cons_zero, List.setIfInBounds_toArray, List.set_cons_zero, List.set_cons_succ]
      refine reg_move (i := 9) rfl (by kernel_rfl) (by kernel_rfl) (by kernel_rfl) (fun _ _ _ _ h => h) rfl (.pointer (some ⟨c.R, 1, none⟩)) (fun _ => by kernel_rfl) hH8 ?_
      simp only [Act.put, List.getElem_toArray, List.getElem_cons_succ, List.getElem_cons_zero, List.setIfInBounds_toArray, List.set_cons_zero, List.set_cons_succ]
      have hH9 : (w8.setCell ⟨c.R, 1, none⟩ (.slice va' (C.length + 1) vc')).heap[c.w.heap.size]? = some (.cells #[.pointer (some ⟨c.R, 0, none⟩)] 144) ∧ (w8.setCell ⟨c.R, 1, none⟩ (.slice va' (C.length + 1) vc')).heap[c.w.heap.size + 2]? = some (objK N) := by
        rw [setCell_eq_setRow w8 c.R 1 _ _ _ _ r8]
        exact ⟨(setRow_other _ _ _ _ (by omega)).trans hH8.1, (setRow_other _ _ _ _ (by omega)).trans hH8.2⟩
      refine reg_one (i := 10) (by kernel_rfl) rfl rfl (wpList_store1 rfl 79 _ _ rfl ⟨c.R, 1, none⟩ rfl va' (C.length + 1) vc' rfl (by kernel_rfl) _ (cell_of r8 rfl) (frozen_of_row _ _ _ _ _ r8) (wpList_nil (And.intro hH9 fun _ => ?_)))
      simp only [Act.put, List.getElem_toArray, List.getElem_cons_succ, List.getElem_cons_zero, List.setIfInBounds_toArray, List.set_cons_zero, List.set_cons_succ]
      refine wpAnyH_done (by kernel_rfl) (NoPanic.normal ?_) _
      refine ⟨by simp, .inl ⟨_, _, rfl, run_takeDeferred kD, ?_⟩⟩
      refine ⟨_, results_none rfl _ _ _, ⟨_, rfl⟩, ?_⟩
      rw [← hT.out]
      exact post
  case stop =>
    rintro D cd pre W2 _ _ h _
    exact h.elim
end Go.Proofs.Ytkadlopcomjonaa.pg
/- What package order's look tells of a trace, as plain data. -/
namespace Go.Proofs.Ytkadlopcomjonaa.pg
open Go.ChangeShapes Go.WideShapes Go.ChangeAt Go.RowKit Go.Shelf
set_option linter.unusedVariables false
set_option linter.unusedSimpArgs false
set_option maxRecDepth 100000
def tk (x : Ck) (g : Nat) : Ck := x.put g (x.of g + 1)
/-- The clocks and the edges of the first events. -/
def rel (ev : Nat → Ev) : Nat → List Ck × List (Nat × Nat)
  | 0 => ([], [])
  | j + 1 => ((rel ev j).1 ++ [tk (told ev (fun i => (rel ev j).1.getD i zeroK) j (dn j j)).1 (ev j).go.toNat], (rel ev j).2 ++ (told ev (fun i => (rel ev j).1.getD i zeroK) j (dn j j)).2)
/-- The clock of a place, once it is told. -/
def ckf (ev : Nat → Ev) (j i : Nat) : Ck := (rel ev j).1.getD i zeroK
theorem rel_len (ev : Nat → Ev) : ∀ j, (rel ev j).1.length = j
  | 0 => rfl
  | j + 1 => by rw [rel, List.length_append, rel_len ev j, List.length_singleton]
theorem rel_edges (ev : Nat → Ev) : ∀ j, j ≤ 256 → (rel ev j).2.length ≤ 256 * j
  | 0, _ => Nat.le_refl _
  | j + 1, h => by
    have h1 := rel_edges ev j (by omega)
    have h2 := told_len ev (fun i => (rel ev j).1.getD i zeroK) j j (dn j j) (dn_len (Nat.le_refl _))
    rw [rel, List.length_append]
    omega
/-- All numbers of a clock lie between 0 and m. -/
def Ck.upto (x : Ck) (m : Int) : Prop := ∀ n ∈ x.list, 0 ≤ n ∧ n ≤ m
theorem Ck.upto_iff (x : Ck) (m : Int) : x.upto m ↔ (0 ≤ x.c0 ∧ x.c0 ≤ m) ∧ (0 ≤ x.c1 ∧ x.c1 ≤ m) ∧ (0 ≤ x.c2 ∧ x.c2 ≤ m) ∧ (0 ≤ x.c3 ∧ x.c3 ≤ m) ∧ (0 ≤ x.c4 ∧ x.c4 ≤ m) ∧ (0 ≤ x.c5 ∧ x.c5 ≤ m) := by
  unfold Ck.upto Ck.list
  simp
theorem Ck.upto_mono {x : Ck} {m k : Int} (h : x.upto m) (hk : m ≤ k) : x.upto k := fun n hn => ⟨(h n hn).1, Int.le_trans (h n hn).2 hk⟩
theorem upto_ok {x : Ck} {m : Int} (h : x.upto m) (hm : m ≤ 1073741824) : x.ok := fun n hn => ⟨(h n hn).1, Int.le_trans (h n hn).2 hm⟩
theorem zero_upto {m : Int} (h : 0 ≤ m) : zeroK.upto m := by rw [Ck.upto_iff]; simp [zeroK, h]
theorem join_upto {x y : Ck} {m : Int} (hx : x.upto m) (hy : y.upto m) : (x.join y).upto m := by
  rw [Ck.upto_iff] at hx hy ⊢
  have key : ∀ a b : Int, (0 ≤ a ∧ a ≤ m) → (0 ≤ b ∧ b ≤ m) → (0 ≤ max a b ∧ max a b ≤ m) := fun a b ha hb => by rw [Int.max_def]; split <;> omega
  exact ⟨key _ _ hx.1 hy.1, key _ _ hx.2.1 hy.2.1, key _ _ hx.2.2.1 hy.2.2.1, key _ _ hx.2.2.2.1 hy.2.2.2.1, key _ _ hx.2.2.2.2.1 hy.2.2.2.2.1, key _ _ hx.2.2.2.2.2 hy.2.2.2.2.2⟩
theorem of_mem {x : Ck} {g : Nat} (h : g < 6) : x.of g ∈ x.list ∧ x.list[g]? = some (x.of g) := by
  match g, h with
  | 0, _ => exact ⟨by simp [Ck.of, Ck.list], rfl⟩
  | 1, _ => exact ⟨by simp [Ck.of, Ck.list], rfl⟩
  | 2, _ => exact ⟨by simp [Ck.of, Ck.list], rfl⟩
  | 3, _ => exact ⟨by simp [Ck.of, Ck.list], rfl⟩
  | 4, _ => exact ⟨by simp [Ck.of, Ck.list], rfl⟩
  | 5, _ => exact ⟨by simp [Ck.of, Ck.list], rfl⟩
theorem tk_upto {x : Ck} {m : Int} {g : Nat} (hx : x.upto m) (hg : g < 6) : (tk x g).upto (m + 1) := by
  intro n hn
  have h0 := hx _ (of_mem (x := x) hg).1
  unfold tk at hn
  rw [put_list] at hn
  rcases List.mem_or_eq_of_mem_set hn with h | h
  · have := hx n h; omega
  · omega
theorem told_upto (ev : Nat → Ev) (cf : Nat → Ck) (j : Nat) (m : Int) (hm : 0 ≤ m) (hc : ∀ i, i < j → (cf i).upto m) : ∀ (n : Nat) (pre : List { i : Nat // i < j }), pre.length = n → (told ev cf j pre).1.upto m
  | 0, pre, h => by
    have : pre = [] := List.length_eq_zero_iff.mp h
    subst this
    exact zero_upto hm
  | n + 1, pre, h => by
    rcases List.eq_nil_or_concat pre with rfl | ⟨q, x, rfl⟩
    · simp at h
    · rw [List.concat_eq_append] at h ⊢
      rw [List.length_append, List.length_singleton] at h
      have h1 := told_upto ev cf j m hm hc n q (by omega)
      rw [told_more]
      unfold stp
      split
      · exact h1
      · exact join_upto h1 (hc x.1 x.2)
theorem rel_upto (ev : Nat → Ev) : ∀ (j : Nat), (∀ i, i < j → (ev i).go.toNat < 6) → ∀ x ∈ (rel ev j).1, x.upto j
  | 0, _, x, hx => by simp [rel] at hx
  | j + 1, h, x, hx => by
    have ih := rel_upto ev j fun i hi => h i (by omega)
    rw [rel, List.mem_append, List.mem_singleton] at hx
    rcases hx with hx | rfl
    · exact Ck.upto_mono (ih x hx) (by omega)
    · have := tk_upto (g := (ev j).go.toNat) (told_upto ev (fun i => (rel ev j).1.getD i zeroK) j j (by omega) (fun i hi => ?_) j (dn j j) (dn_len (Nat.le_refl _))) (h j (by omega))
      · exact Ck.upto_mono this (by omega)
      · have hl := rel_len ev j
        have : (rel ev j).1.getD i zeroK = (rel ev j).1[i]'(by omega) := by rw [List.getD_eq_getElem?_getD, List.getElem?_eq_getElem (by omega)]; rfl
        rw [this]
        exact ih _ (List.getElem_mem _)
theorem tick_is {x : Ck} {g : Nat} {m : Int} (hx : x.upto m) (hm : m < 1073741824) (hg : g < 6) : tickP x (g : Int) (tk x g) 0 :=
  .inr ⟨upto_ok hx (by omega), g, hg, rfl, x.of g, (of_mem hg).2, .inr ⟨by have := hx _ (of_mem (x := x) hg).1; omega, rfl, rfl⟩⟩
end Go.Proofs.Ytkadlopcomjonaa.pg
/- Whether an event may stand in a trace, by the document's own. -/
namespace Go.Proofs.Ytkadlopcomjonaa.pg
open Go.ChangeShapes Go.WideShapes Go.ChangeAt Go.RowKit
set_option linter.unusedVariables false
set_option linter.unusedSimpArgs false
set_option maxRecDepth 100000
attribute [local go_sem ↓] Go.wp_at_zero Go.wp_at_succ
theorem rright_no1 (x : Ev) (w : World) (hno : x.go < 0 ∨ 6 ≤ x.go ∨ x.n < 1 ∨ 6 < x.n) : Calls Try.prog 38 #[x.val] w fun e w' => e = .returned (.bool false) ∧ Below w.heap.size w w' := by
  by_cases h0 : x.go < 0
  · clear hno
    go_enter Try.func38, Try.ntmps38
    go_wp2
    go_ret
    exact ⟨rfl, boxed _ _⟩
  · by_cases h1 : 6 ≤ x.go
    · clear hno
      go_enter Try.func38, Try.ntmps38
      go_wp2
      go_ret
      exact ⟨rfl, boxed _ _⟩
    · by_cases h2 : x.n < 1
      · clear hno
        go_enter Try.func38, Try.ntmps38
        go_wp2
        go_ret
        exact ⟨rfl, boxed _ _⟩
      · have h3 : 6 < x.n := by omega
        clear hno
        go_enter Try.func38, Try.ntmps38
        go_wp2
        go_ret
        exact ⟨rfl, boxed _ _⟩
theorem ok_more2 {l : List Acc} {k N : Nat} (h : ∀ i, i < k → i < N → okA l i) (h2 : okA l k) : ∀ i, i < k + 1 → i < N → okA l i := fun i hi hn => by
  by_cases e : i = k
  · subst e; exact h2
  · exact h i (by omega) hn
theorem own_more {l : List Acc} {k N : Nat} {O : Bool} {g : Int} {a : Acc} (hk : k < N) (ha : l[k]? = some a) (h : O = true ↔ ∃ i, i < k ∧ i < N ∧ l[i]? = some ⟨5, g, true⟩) : (O || (a.kind == 5 && a.num == g) && a.wr) = true ↔ ∃ i, i < k + 1 ∧ i < N ∧ l[i]? = some ⟨5, g, true⟩ := by
  rw [Bool.or_eq_true, h]
  constructor
  · rintro (⟨i, h1, h2, h3⟩ | q)
    · exact ⟨i, by omega, h2, h3⟩
    · simp only [Bool.and_eq_true, beq_iff_eq] at q
      refine ⟨k, by omega, hk, ?_⟩
      rw [ha]
      obtain ⟨kk, nn, ww⟩ := a
      simp at q
      simp [q]
  · rintro ⟨i, h1, h2, h3⟩
    by_cases e : i = k
    · subst e
      rw [ha] at h3
      right
      cases h3
      simp
    · exact .inl ⟨i, by omega, h2, h3⟩
theorem own_stay {l : List Acc} {k N : Nat} {O : Bool} {g : Int} (hk : ¬ k < N) (h : O = true ↔ ∃ i, i < k ∧ i < N ∧ l[i]? = some ⟨5, g, true⟩) : O = true ↔ ∃ i, i < k + 1 ∧ i < N ∧ l[i]? = some ⟨5, g, true⟩ :=
  h.trans ⟨fun ⟨i, h1, h2, h3⟩ => ⟨i, by omega, h2, h3⟩, fun ⟨i, h1, h2, h3⟩ => ⟨i, by omega, h2, h3⟩⟩
theorem zero_more {l : List Acc} {k N : Nat} (h : ∀ i, N ≤ i → i < k → l[i]? = some acc0) (h2 : l[k]? = some acc0) : ∀ i, N ≤ i → i < k + 1 → l[i]? = some acc0 := fun i hi hk => by
  by_cases e : i = k
  · subst e; exact h2
  · exact h i hi (by omega)
set_option maxHeartbeats 2000000 in
theorem rright_yes1 (x : Ev) (w : World) (h0 : 0 ≤ x.go) (h1 : x.go < 6) (h2 : 1 ≤ x.n) (h3 : x.n ≤ 6) (R : Bool) (hR : Hid (R = true ↔ rightP x)) : Calls Try.prog 38 #[x.val] w fun e w' => e = .returned (.bool R) ∧ Below w.heap.size w w' := by
  obtain ⟨N, hN⟩ : ∃ N, N = tN x.n := ⟨_, rfl⟩
  have hNI : ((N : Nat) : Int) = x.n := by rw [hN]; exact tN_eq h2 h3
  have hb := boxed w (objE x)
  have bx := boxE_new w x
  have hll : x.list.length = 6 := rfl
  have hN1 : Hid (1 ≤ N ∧ N ≤ 6) := ⟨by omega, by omega⟩
  have hofl : Hid (x.of = x.list.take N) := by show _ = _; rw [hN]; rfl
  have hRH : Hid (R = true ↔ (∀ i, i < N → okA x.list i) ∧ (∀ i, N ≤ i → i < 6 → x.list[i]? = some acc0) ∧ ∃ i, i < 6 ∧ i < N ∧ x.list[i]? = some ⟨5, x.go, true⟩) := by
    show _ ↔ _
    rw [hR.out]
    unfold rightP
    rw [← hN, hofl.out]
    constructor
    · rintro ⟨_, p, q, r⟩
      refine ⟨p, fun i h4 h5 => ?_, ?_⟩
      · obtain ⟨a, ha, _⟩ := get_lt x.list i (by omega)
        rw [ha, q a]
        rw [List.mem_iff_getElem?]
        exact ⟨i - N, by rw [List.getElem?_drop, ← ha]; congr 1; omega⟩
      · obtain ⟨i, hi⟩ := List.mem_iff_getElem?.mp r
        rw [List.getElem?_take] at hi
        split at hi
        · rename_i h5
          exact ⟨i, by have := hN1.out.2; omega, h5, hi⟩
        · cases hi
    · rintro ⟨p, q, i, h4, h5, h6⟩
      refine ⟨⟨h0, h1, h2, h3⟩, p, fun a ha => ?_, ?_⟩
      · obtain ⟨j, hj⟩ := List.mem_iff_getElem?.mp ha
        rw [List.getElem?_drop] at hj
        have hjl := (List.getElem?_eq_some_iff.mp hj).1
        rw [q (N + j) (by omega) (by omega)] at hj
        exact (Option.some.inj hj).symm
      · rw [List.mem_iff_getElem?]
        exact ⟨i, by rw [List.getElem?_take, if_pos h5]; exact h6⟩
  clear hR hofl
  have hNIH : Hid (((N : Nat) : Int) = x.n) := hNI
  clear hN hNI
  have h0' : ¬ x.go < 0 := by omega
  have h2' : ¬ x.n < 1 := by omega
  have h1' : ¬ 6 ≤ x.go := by omega
  have h3' : ¬ 6 < x.n := by omega
  go_enter Try.func38, Try.ntmps38
  go_upto_region 3 with fail
  generalize w.alloc (objE x) = W at *
  have hbH : Hid (Below w.heap.size w W) := hb
  have bxH : Hid (BoxE W w.heap.size x) := bx
  clear hb bx
  have cM : ∀ m wx, Calls Try.prog 41 #[.int .i64 m] wx _ := fun m wx => few_any m wx
  go_wp2
  go_loopw [3, 4] (fun o u wr => ∃ (k : Nat) (O : Bool), k ≤ 6 ∧ u = .int .i64 k ∧ o = .bool O ∧ Below W.heap.size W wr ∧ Hid (∀ i, i < k → i < N → okA x.list i) ∧ Hid (∀ i, N ≤ i → i < k → x.list[i]? = some acc0) ∧ Hid (O = true ↔ ∃ i, i < k ∧ i < N ∧ x.list[i]? = some ⟨5, x.go, true⟩)) (fun _ u _ => 6 - (intOf u).toNat)
  case atStart => exact ⟨0, false, Nat.zero_le _, rfl, rfl, Below.refl _ _, fun i hi => by omega, fun i _ hi => by omega, (⟨(fun q => by cases q), fun ⟨i, hi, _⟩ => by omega⟩ : _ ↔ _)⟩
  case round =>
    obtain ⟨k, O, hk, rfl, rfl, hb2, hok, hzr, hO⟩ := hrel
    by_cases hk6 : k < 6
    · obtain ⟨a, ha, ham⟩ := get_lt x.list k (by omega)
      obtain ⟨hix, k0, k1, k2⟩ := ev_ix (bxH.out.later hb2) k a ha
      have c25 : (wr.alloc (objA a)).cell? ⟨w.heap.size, 25, none⟩ = some (.int .i64 x.n) := (bxH.out.later (bthen hb2 (boxed _ _))).at 25 _ rfl
      have hax : Hid (x.list[k]? = some a) := ha
      have hkI : (k : Int) < 6 := by omega
      by_cases hlt : k < N
      · have hltI : ¬ x.n ≤ (k : Int) := by have := hNIH.out; omega
        have hgood0 : Hid (k = 0 → 0 ≤ a.num → a.num < manyP a.kind → okA x.list k) := fun e p q a' ha' => by
          rw [hax.out] at ha'
          cases ha'
          exact ⟨⟨p, q⟩, fun h => by omega⟩
        have hgood1 : Hid (∀ b, x.list[k - 1]? = some b → 0 ≤ a.num → a.num < manyP a.kind → bef b a = true → okA x.list k) := fun b hb p q r a' ha' => by
          rw [hax.out] at ha'
          cases ha'
          exact ⟨⟨p, q⟩, fun h b' hb' => by rw [hb] at hb'; cases hb'; exact r⟩
        have hbad0 : Hid (¬ (0 ≤ a.num ∧ a.num < manyP a.kind) → ¬ okA x.list k) := fun q r => q (r a hax.out).1
        have hbad1 : Hid (∀ b, x.list[k - 1]? = some b → 0 < k → bef b a = false → ¬ okA x.list k) := fun b hb p q r => by
          have := (r a hax.out).2 p b hb
          rw [q] at this
          cases this
        go_wp2_with fail
        generalize hWW : wr.alloc (objA a) = W2 at *
        have hW2 : Hid (Below W.heap.size W W2) := by rw [← hWW]; exact bthen hb2 (boxed _ _)
        have bA : BoxA W2 wr.heap.size a := by rw [← hWW]; exact boxA_new wr a
        clear hWW k0 k1 k2 c25
        have d0 := bey_cell bA.1
        have d1 := bey_cell bA.2.1
        have d2 := bey_cell bA.2.2
        have hne := bey_some W2
        by_cases hA : a.num < 0
        · have hbad : Hid (¬ okA x.list k) := hbad0.out (by omega)
          refine wp_region_cls (Bey W2) (by kernel_rfl) (by kernel_rfl) (bey_drew W2) ?_
          repeat (go_big_quiet_step ((go_at_call 41; exact calls_same (cM _ _))))
          refine wpQuiet_nil ?_
          intro _ hw'
          obtain ⟨sq, hw''⟩ := hw'
          subst hw''
          have hBq : Hid (Below W.heap.size W sq.w) := bthen hW2.out sq.h
          have y0 := cell_later sq.h bA.1
          have y1 := cell_later sq.h bA.2.1
          have y2 := cell_later sq.h bA.2.2
          have z0 := (bxH.out.later hBq.out).at 0 _ rfl
          go_wp2
          go_ret
          exact ⟨ret_b (by rw [eq_comm, Bool.eq_false_iff]; exact fun q => hbad.out ((hRH.out.mp q).1 k hlt)), bthen hbH.out hBq.out⟩
        · by_cases hB : manyP a.kind ≤ a.num
          · have hbad : Hid (¬ okA x.list k) := hbad0.out (by omega)
            refine wp_region_cls (Bey W2) (by kernel_rfl) (by kernel_rfl) (bey_drew W2) ?_
            repeat (go_big_quiet_step ((go_at_call 41; exact calls_same (cM _ _))))
            refine wpQuiet_nil ?_
            intro _ hw'
            obtain ⟨sq, hw''⟩ := hw'
            subst hw''
            have hBq : Hid (Below W.heap.size W sq.w) := bthen hW2.out sq.h
            have y0 := cell_later sq.h bA.1
            have y1 := cell_later sq.h bA.2.1
            have y2 := cell_later sq.h bA.2.2
            have z0 := (bxH.out.later hBq.out).at 0 _ rfl
            go_wp2
            go_ret
            exact ⟨ret_b (by rw [eq_comm, Bool.eq_false_iff]; exact fun q => hbad.out ((hRH.out.mp q).1 k hlt)), bthen hbH.out hBq.out⟩
          · by_cases hp : 0 < k
            · have hpI : (0 : Int) < k := by omega
              obtain ⟨b, hb', _⟩ := get_lt x.list (k - 1) (by omega)
              have hbx : Hid (x.list[k - 1]? = some b) := hb'
              by_cases e1 : a.kind < b.kind
              · have hbad : Hid (¬ okA x.list k) := hbad1.out b hbx.out hp (by simp only [bef, decide_eq_false_iff_not]; omega)
                refine wp_region_cls (Bey W2) (by kernel_rfl) (by kernel_rfl) (bey_drew W2) ?_
                repeat (go_big_quiet_step ((go_at_call 41; exact calls_same (cM _ _))))
                refine wpQuiet_nil ?_
                intro _ hw'
                obtain ⟨sq, hw''⟩ := hw'
                subst hw''
                have hBq : Hid (Below W.heap.size W sq.w) := bthen hW2.out sq.h
                have y0 := cell_later sq.h bA.1
                have y1 := cell_later sq.h bA.2.1
                have y2 := cell_later sq.h bA.2.2
                have z0 := (bxH.out.later hBq.out).at 0 _ rfl
                obtain ⟨hix2, m0, m1, m2⟩ := ev_ix (bxH.out.later hBq.out) (k - 1) b hbx.out
                rw [show ((k - 1 : Nat) : Int) = (k : Int) - 1 by omega] at hix2
                have yy0 := cell_later (boxed sq.w (objA b)) y0
                have yy1 := cell_later (boxed sq.w (objA b)) y1
                have yy2 := cell_later (boxed sq.w (objA b)) y2
                have zz0 := cell_later (boxed sq.w (objA b)) z0
                clear y0 y1 y2 z0
                go_wp2
                go_ret
                exact ⟨ret_b (by rw [eq_comm, Bool.eq_false_iff]; exact fun q => hbad.out ((hRH.out.mp q).1 k hlt)), bthen hbH.out (bthen hBq.out (boxed _ _))⟩
              · by_cases e2 : b.kind = a.kind
                · have e2b : (b.kind == a.kind) = true := by simpa using e2
                  by_cases e3 : a.num ≤ b.num
                  · have hbad : Hid (¬ okA x.list k) := hbad1.out b hbx.out hp (by simp only [bef, decide_eq_false_iff_not]; omega)
                    clear e2
                    refine wp_region_cls (Bey W2) (by kernel_rfl) (by kernel_rfl) (bey_drew W2) ?_
                    repeat (go_big_quiet_step ((go_at_call 41; exact calls_same (cM _ _))))
                    refine wpQuiet_nil ?_
                    intro _ hw'
                    obtain ⟨sq, hw''⟩ := hw'
                    subst hw''
                    have hBq : Hid (Below W.heap.size W sq.w) := bthen hW2.out sq.h
                    have y0 := cell_later sq.h bA.1
                    have y1 := cell_later sq.h bA.2.1
                    have y2 := cell_later sq.h bA.2.2
                    have z0 := (bxH.out.later hBq.out).at 0 _ rfl
                    obtain ⟨hix2, m0, m1, m2⟩ := ev_ix (bxH.out.later hBq.out) (k - 1) b hbx.out
                    rw [show ((k - 1 : Nat) : Int) = (k : Int) - 1 by omega] at hix2
                    have yy0 := cell_later (boxed sq.w (objA b)) y0
                    have yy1 := cell_later (boxed sq.w (objA b)) y1
                    have yy2 := cell_later (boxed sq.w (objA b)) y2
                    have zz0 := cell_later (boxed sq.w (objA b)) z0
                    clear y0 y1 y2 z0
                    go_wp2
                    go_ret
                    exact ⟨ret_b (by rw [eq_comm, Bool.eq_false_iff]; exact fun q => hbad.out ((hRH.out.mp q).1 k hlt)), bthen hbH.out (bthen hBq.out (boxed _ _))⟩
                  · have hgood : Hid (okA x.list k) := hgood1.out b hbx.out (by omega) (by omega) (by simp only [bef, decide_eq_true_eq]; omega)
                    clear e2
                    refine wp_region_cls (Bey W2) (by kernel_rfl) (by kernel_rfl) (bey_drew W2) ?_
                    repeat (go_big_quiet_step ((go_at_call 41; exact calls_same (cM _ _))))
                    refine wpQuiet_nil ?_
                    intro _ hw'
                    obtain ⟨sq, hw''⟩ := hw'
                    subst hw''
                    have hBq : Hid (Below W.heap.size W sq.w) := bthen hW2.out sq.h
                    have y0 := cell_later sq.h bA.1
                    have y1 := cell_later sq.h bA.2.1
                    have y2 := cell_later sq.h bA.2.2
                    have z0 := (bxH.out.later hBq.out).at 0 _ rfl
                    obtain ⟨hix2, m0, m1, m2⟩ := ev_ix (bxH.out.later hBq.out) (k - 1) b hbx.out
                    rw [show ((k - 1 : Nat) : Int) = (k : Int) - 1 by omega] at hix2
                    have yy0 := cell_later (boxed sq.w (objA b)) y0
                    have yy1 := cell_later (boxed sq.w (objA b)) y1
                    have yy2 := cell_later (boxed sq.w (objA b)) y2
                    have zz0 := cell_later (boxed sq.w (objA b)) z0
                    clear y0 y1 y2 z0
                    have hown := own_more hlt hax.out hO.out
                    have hok2 : Hid (∀ i, i < k + 1 → i < N → okA x.list i) := ok_more2 hok.out hgood.out
                    have hzr2 : Hid (∀ i, N ≤ i → i < k + 1 → x.list[i]? = some acc0) := fun i h4 h5 => hzr.out i h4 (by omega)
                    have hownH : Hid ((O || (a.kind == 5 && a.num == x.go) && a.wr) = true ↔ ∃ i, i < k + 1 ∧ i < N ∧ x.list[i]? = some ⟨5, x.go, true⟩) := hown
                    clear hown
                    cases O
                    · by_cases q1 : (a.kind == 5) = true
                      · by_cases q2 : (a.num == x.go) = true
                        · have hq : Hid (a.wr = true ↔ ∃ i, i < k + 1 ∧ i < N ∧ x.list[i]? = some ⟨5, x.go, true⟩) := by have := hownH.out; rw [q1, q2] at this; exact this
                          go_wp2
                          go_roundw
                          case rel => exact ⟨k + 1, a.wr, by omega, by go_num, rfl, (bthen hBq.out (boxed _ _)), hok2, hzr2, hq⟩
                          case measure => simp [intOf]; omega
                        · have q2 : (a.num == x.go) = false := by simpa using q2
                          have hq : Hid (false = true ↔ ∃ i, i < k + 1 ∧ i < N ∧ x.list[i]? = some ⟨5, x.go, true⟩) := by have := hownH.out; rw [q1, q2] at this; exact this
                          go_wp2
                          go_roundw
                          case rel => exact ⟨k + 1, false, by omega, by go_num, rfl, (bthen hBq.out (boxed _ _)), hok2, hzr2, hq⟩
                          case measure => simp [intOf]; omega
                      · have q1 : (a.kind == 5) = false := by simpa using q1
                        have hq : Hid (false = true ↔ ∃ i, i < k + 1 ∧ i < N ∧ x.list[i]? = some ⟨5, x.go, true⟩) := by have := hownH.out; rw [q1] at this; exact this
                        go_wp2
                        go_roundw
                        case rel => exact ⟨k + 1, false, by omega, by go_num, rfl, (bthen hBq.out (boxed _ _)), hok2, hzr2, hq⟩
                        case measure => simp [intOf]; omega
                    · have hq : Hid (true = true ↔ ∃ i, i < k + 1 ∧ i < N ∧ x.list[i]? = some ⟨5, x.go, true⟩) := by have := hownH.out; rw [Bool.true_or] at this; exact this
                      go_wp2
                      go_roundw
                      case rel => exact ⟨k + 1, true, by omega, by go_num, rfl, (bthen hBq.out (boxed _ _)), hok2, hzr2, hq⟩
                      case measure => simp [intOf]; omega
                · have e2b : (b.kind == a.kind) = false := by simpa using e2
                  have hgood : Hid (okA x.list k) := hgood1.out b hbx.out (by omega) (by omega) (by simp only [bef, decide_eq_true_eq]; omega)
                  clear e2
                  refine wp_region_cls (Bey W2) (by kernel_rfl) (by kernel_rfl) (bey_drew W2) ?_
                  repeat (go_big_quiet_step ((go_at_call 41; exact calls_same (cM _ _))))
                  refine wpQuiet_nil ?_
                  intro _ hw'
                  obtain ⟨sq, hw''⟩ := hw'
                  subst hw''
                  have hBq : Hid (Below W.heap.size W sq.w) := bthen hW2.out sq.h
                  have y0 := cell_later sq.h bA.1
                  have y1 := cell_later sq.h bA.2.1
                  have y2 := cell_later sq.h bA.2.2
                  have z0 := (bxH.out.later hBq.out).at 0 _ rfl
                  obtain ⟨hix2, m0, m1, m2⟩ := ev_ix (bxH.out.later hBq.out) (k - 1) b hbx.out
                  rw [show ((k - 1 : Nat) : Int) = (k : Int) - 1 by omega] at hix2
                  have yy0 := cell_later (boxed sq.w (objA b)) y0
                  have yy1 := cell_later (boxed sq.w (objA b)) y1
                  have yy2 := cell_later (boxed sq.w (objA b)) y2
                  have zz0 := cell_later (boxed sq.w (objA b)) z0
                  clear y0 y1 y2 z0
                  have hown := own_more hlt hax.out hO.out
                  have hok2 : Hid (∀ i, i < k + 1 → i < N → okA x.list i) := ok_more2 hok.out hgood.out
                  have hzr2 : Hid (∀ i, N ≤ i → i < k + 1 → x.list[i]? = some acc0) := fun i h4 h5 => hzr.out i h4 (by omega)
                  have hownH : Hid ((O || (a.kind == 5 && a.num == x.go) && a.wr) = true ↔ ∃ i, i < k + 1 ∧ i < N ∧ x.list[i]? = some ⟨5, x.go, true⟩) := hown
                  clear hown
                  cases O
                  · by_cases q1 : (a.kind == 5) = true
                    · by_cases q2 : (a.num == x.go) = true
                      · have hq : Hid (a.wr = true ↔ ∃ i, i < k + 1 ∧ i < N ∧ x.list[i]? = some ⟨5, x.go, true⟩) := by have := hownH.out; rw [q1, q2] at this; exact this
                        go_wp2
                        go_roundw
                        case rel => exact ⟨k + 1, a.wr, by omega, by go_num, rfl, (bthen hBq.out (boxed _ _)), hok2, hzr2, hq⟩
                        case measure => simp [intOf]; omega
                      · have q2 : (a.num == x.go) = false := by simpa using q2
                        have hq : Hid (false = true ↔ ∃ i, i < k + 1 ∧ i < N ∧ x.list[i]? = some ⟨5, x.go, true⟩) := by have := hownH.out; rw [q1, q2] at this; exact this
                        go_wp2
                        go_roundw
                        case rel => exact ⟨k + 1, false, by omega, by go_num, rfl, (bthen hBq.out (boxed _ _)), hok2, hzr2, hq⟩
                        case measure => simp [intOf]; omega
                    · have q1 : (a.kind == 5) = false := by simpa using q1
                      have hq : Hid (false = true ↔ ∃ i, i < k + 1 ∧ i < N ∧ x.list[i]? = some ⟨5, x.go, true⟩) := by have := hownH.out; rw [q1] at this; exact this
                      go_wp2
                      go_roundw
                      case rel => exact ⟨k + 1, false, by omega, by go_num, rfl, (bthen hBq.out (boxed _ _)), hok2, hzr2, hq⟩
                      case measure => simp [intOf]; omega
                  · have hq : Hid (true = true ↔ ∃ i, i < k + 1 ∧ i < N ∧ x.list[i]? = some ⟨5, x.go, true⟩) := by have := hownH.out; rw [Bool.true_or] at this; exact this
                    go_wp2
                    go_roundw
                    case rel => exact ⟨k + 1, true, by omega, by go_num, rfl, (bthen hBq.out (boxed _ _)), hok2, hzr2, hq⟩
                    case measure => simp [intOf]; omega
            · have hpI : ¬ (0 : Int) < k := by omega
              have hgood : Hid (okA x.list k) := hgood0.out (by omega) (by omega) (by omega)
              refine wp_region_cls (Bey W2) (by kernel_rfl) (by kernel_rfl) (bey_drew W2) ?_
              repeat (go_big_quiet_step ((go_at_call 41; exact calls_same (cM _ _))))
              refine wpQuiet_nil ?_
              intro _ hw'
              obtain ⟨sq, hw''⟩ := hw'
              subst hw''
              have hBq : Hid (Below W.heap.size W sq.w) := bthen hW2.out sq.h
              have y0 := cell_later sq.h bA.1
              have y1 := cell_later sq.h bA.2.1
              have y2 := cell_later sq.h bA.2.2
              have z0 := (bxH.out.later hBq.out).at 0 _ rfl
              have hown := own_more hlt hax.out hO.out
              have hok2 : Hid (∀ i, i < k + 1 → i < N → okA x.list i) := ok_more2 hok.out hgood.out
              have hzr2 : Hid (∀ i, N ≤ i → i < k + 1 → x.list[i]? = some acc0) := fun i h4 h5 => hzr.out i h4 (by omega)
              have hownH : Hid ((O || (a.kind == 5 && a.num == x.go) && a.wr) = true ↔ ∃ i, i < k + 1 ∧ i < N ∧ x.list[i]? = some ⟨5, x.go, true⟩) := hown
              clear hown
              cases O
              · by_cases q1 : (a.kind == 5) = true
                · by_cases q2 : (a.num == x.go) = true
                  · have hq : Hid (a.wr = true ↔ ∃ i, i < k + 1 ∧ i < N ∧ x.list[i]? = some ⟨5, x.go, true⟩) := by have := hownH.out; rw [q1, q2] at this; exact this
                    go_wp2
                    go_roundw
                    case rel => exact ⟨k + 1, a.wr, by omega, by go_num, rfl, hBq.out, hok2, hzr2, hq⟩
                    case measure => simp [intOf]; omega
                  · have q2 : (a.num == x.go) = false := by simpa using q2
                    have hq : Hid (false = true ↔ ∃ i, i < k + 1 ∧ i < N ∧ x.list[i]? = some ⟨5, x.go, true⟩) := by have := hownH.out; rw [q1, q2] at this; exact this
                    go_wp2
                    go_roundw
                    case rel => exact ⟨k + 1, false, by omega, by go_num, rfl, hBq.out, hok2, hzr2, hq⟩
                    case measure => simp [intOf]; omega
                · have q1 : (a.kind == 5) = false := by simpa using q1
                  have hq : Hid (false = true ↔ ∃ i, i < k + 1 ∧ i < N ∧ x.list[i]? = some ⟨5, x.go, true⟩) := by have := hownH.out; rw [q1] at this; exact this
                  go_wp2
                  go_roundw
                  case rel => exact ⟨k + 1, false, by omega, by go_num, rfl, hBq.out, hok2, hzr2, hq⟩
                  case measure => simp [intOf]; omega
              · have hq : Hid (true = true ↔ ∃ i, i < k + 1 ∧ i < N ∧ x.list[i]? = some ⟨5, x.go, true⟩) := by have := hownH.out; rw [Bool.true_or] at this; exact this
                go_wp2
                go_roundw
                case rel => exact ⟨k + 1, true, by omega, by go_num, rfl, hBq.out, hok2, hzr2, hq⟩
                case measure => simp [intOf]; omega
      · have hltI : x.n ≤ (k : Int) := by have := hNIH.out; omega
        have heq := fun wx => run_neA a acc0 wx
        by_cases e : a = acc0
        · rw [(eqA_iff a acc0).mpr e] at heq
          have hz2 : Hid (∀ i, N ≤ i → i < k + 1 → x.list[i]? = some acc0) := zero_more hzr.out (by rw [hax.out, e])
          have hok2 : Hid (∀ i, i < k + 1 → i < N → okA x.list i) := fun i h4 h5 => hok.out i (by omega) h5
          clear e
          go_wp2
          go_roundw
          case rel => exact ⟨k + 1, O, by omega, by go_num, rfl, bthen hb2 (boxed _ _), hok2, hz2, own_stay hlt hO.out⟩
          case measure => simp [intOf]; omega
        · rw [Bool.eq_false_iff.mpr fun q => e ((eqA_iff a acc0).mp q)] at heq
          have hbad : Hid (¬ ∀ i, N ≤ i → i < 6 → x.list[i]? = some acc0) := fun q => e (by
            have := q k (by omega) hk6
            rw [hax.out] at this
            exact Option.some.inj this)
          clear e
          go_wp2
          go_ret
          exact ⟨ret_b (by rw [eq_comm, Bool.eq_false_iff]; exact fun q => hbad.out (hRH.out.mp q).2.1), bthen hbH.out (bthen hb2 (boxed _ _))⟩
    · have hk2 : k = 6 := by omega
      subst hk2
      go_wp2
      go_ret
      exact ⟨ret_b (by rw [Bool.eq_iff_iff, hRH.out, hO.out]; exact ⟨fun q => ⟨fun i hi => hok.out i (by have := hN1.out.2; omega) hi, hzr.out, q⟩, fun q => q.2.2⟩), bthen hbH.out hb2⟩
theorem rright_any (x : Ev) (w : World) (R : Bool) (hR : Hid (R = true ↔ rightP x)) : Calls Try.prog 38 #[x.val] w fun e w' => e = .returned (.bool R) ∧ Below w.heap.size w w' := by
  by_cases h : 0 ≤ x.go ∧ x.go < 6 ∧ 1 ≤ x.n ∧ x.n ≤ 6
  · exact rright_yes1 x w h.1 h.2.1 h.2.2.1 h.2.2.2 R hR
  · have : R = false := by
      rw [Bool.eq_false_iff]
      exact fun q => h (hR.out.mp q).1
    rw [this]
    exact rright_no1 x w (by omega)
end Go.Proofs.Ytkadlopcomjonaa.pg
