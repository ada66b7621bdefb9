/- One event more is told: (*relation).add of package order. -/
import Derived.Test.YtafefnkgdnmjbaaGreatDoorM13
import Derived.Test.YtafefnkgdnmjbaaGreatDoorM7
import Derived.Test.YtafefnkgdnmjbaaGreatDoorM6
namespace Go.Proofs.YtafefnkgdnmjbaaGreatDoor.pg
open Go.ChangeShapes Go.WideShapes Go.ChangeAt Go.RowKit Go.Shelf
set_option linter.unusedVariables false
set_option linter.unusedSimpArgs false
set_option maxRecDepth 100000
attribute [local go_sem] Oper.semAt_some
attribute [local go_sem ↓] Go.wp_at_zero Go.wp_at_succ
theorem run_value_of {P : Program} {m : Sem Value} {v : Value} {w w' : World} (h : m.run P w = .ok v w') : (m.bind fun x => pure (.value x) : Sem Next).run P w = .ok (.value v) w' := by
  show (m >>= fun x => pure (Next.value x)).run P w = _
  rw [Sem.run_bind, h]
  rfl
theorem sub_ev (a : Option Addr) (n cap j : Nat) (hj : j ≤ cap) (hc : cap ≤ 9223372036854775807) : ∀ wx, (Instr.sliceAt 22 (.slice a n cap) none (some (.int .i64 (j : Int))) none).run Tryz.prog wx = .ok (.slice a j cap) wx := by
  intro wx
  have u := Tryz.underlying22
  have z := Tryz.sizeOf69
  have h1 : (j : Int) ≤ cap := by omega
  have h2 : ¬ (cap : Int) < j := by omega
  have h3 : ¬ (j : Int) < 0 := by omega
  cases a <;> simp [Instr.sliceAt, run_underlying u, asIntOf, go_sem, z, h1, h2, h3, hj]
theorem start3 (w : World) (o1 o2 o3 : Obj) : (((w.alloc o1).alloc o2).alloc o3).heap[w.heap.size]? = some o1 ∧ (((w.alloc o1).alloc o2).alloc o3).heap[w.heap.size + 1]? = some o2 ∧ (((w.alloc o1).alloc o2).alloc o3).heap[w.heap.size + 2]? = some o3 ∧ Below w.heap.size w (((w.alloc o1).alloc o2).alloc o3) ∧ (((w.alloc o1).alloc o2).alloc o3).heap.size = w.heap.size + 3 := by
  refine ⟨?_, ?_, new3 _ _ _ _, boxed3 _ _ _ _, by simp [World.size_alloc]⟩
  · exact (Below.heap_alloc _ _ _ (by simp [World.size_alloc]; omega)).trans ((Below.heap_alloc _ _ _ (by simp [World.size_alloc])).trans (heap_alloc_new w o1))
  · have := heap_alloc_new (w.alloc o1) o2
    rw [World.size_alloc] at this
    exact (Below.heap_alloc _ _ _ (by simp [World.size_alloc])).trans this
theorem cell_of {w : World} {B k : Nat} {cs : Array Value} {t : TypeId} {fr : Nat × Nat} {v : Value} (h : w.heap[B]? = some (.cells cs t fr)) (hv : cs[k]? = some v) : w.cell? ⟨B, k, none⟩ = some v := by rw [cell_of_row w B k _ _ _ h]; exact hv
theorem cell_in {W w' : World} {B k : Nat} {cs : Array Value} {t : TypeId} {fr : Nat × Nat} {v : Value} (h : W.heap[B]? = some (.cells cs t fr)) (hv : cs[k]? = some v) (hb : Below W.heap.size W w') : w'.cell? ⟨B, k, none⟩ = some v :=
  cell_of ((hb.block B (Array.getElem?_eq_some_iff.mp h).1).trans h) hv
/-- What add finds, besides: events and clocks at their places. -/
structure Ctx.Lies (c : Ctx) (ev : Nat → Ev) (cf : Nat → Ck) : Prop where
  e : EvAt c.n₀ c.w c.ea c.j c.ec ev
  ej : ∃ b o, (∀ wx, (Instr.indexAt 22 (.slice c.ea c.en c.ec) (.int .i64 (c.j : Int))).run Tryz.prog wx = .ok (.pointer (some ⟨b, o, none⟩)) wx) ∧ b < c.n₀ ∧ c.w.rangeAt b o (ev c.j).cells
  k : ∀ i, i < c.j → ∃ b o, (∀ wx, (Instr.indexAt 104 (.slice c.ca c.cn c.cc) (.int .i64 (i : Int))).run Tryz.prog wx = .ok (.pointer (some ⟨b, o, none⟩)) wx) ∧ b ∈ blk c.ca ∧ c.w.rangeAt b o (cf i).cells
  go : ∀ i, i ≤ c.j → 0 ≤ (ev i).go ∧ (ev i).go < 6
  ok : ∀ i, i < c.j → (cf i).ok
theorem ck_mid (b o k : Nat) (h : k < 6) : ∀ wx, (Instr.indexAt 114 (.pointer (some ⟨b, o, none⟩)) (.int .i64 (k : Int))).run Tryz.prog wx = .ok (.pointer (some ⟨b, o + k, none⟩)) wx := by
  match k, h with
  | 0, _ => exact fun _ => by kernel_rfl
  | 1, _ => exact fun _ => by kernel_rfl
  | 2, _ => exact fun _ => by kernel_rfl
  | 3, _ => exact fun _ => by kernel_rfl
  | 4, _ => exact fun _ => by kernel_rfl
  | 5, _ => exact fun _ => by kernel_rfl
theorem ck_of {x : Ck} {g : Nat} (h : g < 6) : x.cells[g]? = some (.int .i64 (x.of g)) := by
  match g, h with
  | 0, _ => rfl
  | 1, _ => rfl
  | 2, _ => rfl
  | 3, _ => rfl
  | 4, _ => rfl
  | 5, _ => rfl
theorem range_block {w w' : World} {b o : Nat} {cs : List Value} (h : w.rangeAt b o cs) (hb : w'.heap[b]? = w.heap[b]?) : w'.rangeAt b o cs := fun q v hv => (World.cell?_of_block (a := ⟨b, o + q, none⟩) hb).trans (h q v hv)
theorem block_of_range {w : World} {b o : Nat} {x : Ck} (h : w.rangeAt b o x.cells) : b < w.heap.size := block_lt_of_cell (h 0 _ rfl)
theorem round_cls {c : Ctx} {now : Ck} {EE : List (Nat × Nat)} {da' : Option Addr} {dc' : Nat} {W : World} {ev : Nat → Ev} {cf : Nat → Ck} {Bx i : Nat} (hs : St c now EE da' dc' W) (hg : c.Good) (hL : c.Lies ev cf) (hbx : W.heap[Bx]? = some (.cells (ev i).cells.toArray 69)) (hi : i < c.j) :
    ∃ cb co eb eo, cb < c.w.heap.size ∧ (∀ s : Cls (Bey W), s.w.cell? ⟨c.w.heap.size, 0, none⟩ = some (.pointer (some ⟨c.R, 0, none⟩))) ∧ (∀ s : Cls (Bey W), s.w.cell? ⟨c.w.heap.size + 1, 0, none⟩ = some (.int .i64 (c.j : Int))) ∧
      (∀ s : Cls (Bey W), s.w.cell? ⟨c.R, 0, none⟩ = some (.slice c.ea c.en c.ec)) ∧ (∀ s : Cls (Bey W), s.w.cell? ⟨c.R, 1, none⟩ = some (.slice c.ca c.cn c.cc)) ∧ (∀ s : Cls (Bey W), s.w.cell? ⟨Bx, 0, none⟩ = some (.int .i64 (ev i).go)) ∧
      (∀ wx, (Instr.indexAt 104 (.slice c.ca c.cn c.cc) (.int .i64 (i : Int))).run Tryz.prog wx = .ok (.pointer (some ⟨cb, co, none⟩)) wx) ∧
      (∀ wx, (Instr.indexAt 114 (.pointer (some ⟨cb, co, none⟩)) (.int .i64 (ev i).go)).run Tryz.prog wx = .ok (.pointer (some ⟨cb, co + (ev i).go.toNat, none⟩)) wx) ∧
      (∀ s : Cls (Bey W), s.w.cell? ⟨cb, co + (ev i).go.toNat, none⟩ = some (.int .i64 ((cf i).of (ev i).go.toNat))) ∧
      (∀ wx, (Instr.indexAt 114 (.pointer (some ⟨c.w.heap.size + 2, 0, none⟩)) (.int .i64 (ev i).go)).run Tryz.prog wx = .ok (.pointer (some ⟨c.w.heap.size + 2, (ev i).go.toNat, none⟩)) wx) ∧
      (∀ s : Cls (Bey W), s.w.cell? ⟨c.w.heap.size + 2, (ev i).go.toNat, none⟩ = some (.int .i64 (now.of (ev i).go.toNat))) ∧
      (∀ wx, (Instr.indexAt 22 (.slice c.ea c.en c.ec) (.int .i64 (c.j : Int))).run Tryz.prog wx = .ok (.pointer (some ⟨eb, eo, none⟩)) wx) ∧
      (∀ s : Cls (Bey W), s.w.rangeAt eb eo (ev c.j).cells) ∧ (∀ s : Cls (Bey W), s.w.rangeAt Bx 0 (ev i).cells) ∧ (∀ s : Cls (Bey W), s.w.rangeAt cb co (cf i).cells) := by
  obtain ⟨g0, g6⟩ := hL.go i (by omega)
  have hgN : (((ev i).go.toNat : Nat) : Int) = (ev i).go := Int.toNat_of_nonneg g0
  have hlt : (ev i).go.toNat < 6 := by omega
  obtain ⟨cb, co, k1, k2, k3⟩ := hL.k i hi
  obtain ⟨eb, eo, e1, e2, e3⟩ := hL.ej
  obtain ⟨d1, d2, d3⟩ := hg.d3 cb k2
  have hR := hg.rl
  have hz := hs.sz
  have hcW : W.rangeAt cb co (cf i).cells := range_block k3 (hs.kp cb d1 d2 d3)
  have heW : W.rangeAt eb eo (ev c.j).cells := range_block e3 (hs.be.block eb e2)
  have hebW : eb < W.heap.size := by have := hg.nR; omega
  have hxW : W.rangeAt Bx 0 (ev i).cells := fun q v hv => cell_of hbx (by rw [Nat.zero_add]; simpa using hv)
  have m1 := ck_mid cb co _ hlt
  have m2 := ck_mid (c.w.heap.size + 2) 0 _ hlt
  rw [hgN] at m1 m2
  rw [Nat.zero_add] at m2
  have lift : ∀ {b o : Nat} {cs : List Value}, W.rangeAt b o cs → b < W.heap.size → ∀ s : Cls (Bey W), s.w.rangeAt b o cs := fun {b o cs} h hb s => range_block h (s.h.block b hb)
  refine ⟨cb, co, eb, eo, d1, fun s => cell_in hs.bx rfl s.h, fun s => cell_in hs.bj rfl s.h, fun s => cell_in hs.rl rfl s.h, fun s => cell_in hs.rl rfl s.h, fun s => cell_in hbx (by rfl) s.h, k1, m1, fun s => lift hcW (by omega) s _ _ (ck_of hlt), m2, fun s => ?_, e1, lift heW hebW, lift hxW (Array.getElem?_eq_some_iff.mp hbx).1, lift hcW (by omega)⟩
  have h0 : W.heap[c.w.heap.size + 2]? = some (.cells now.cells.toArray 114) := hs.nw
  exact cell_in h0 (by have := ck_of (x := now) hlt; simpa using this) s.h
theorem St.fresh {c : Ctx} {now : Ck} {EE : List (Nat × Nat)} {da' : Option Addr} {dc' : Nat} {W : World} (h : St c now EE da' dc' W) (hg : c.Good) : c.R ∉ blk da' ∧ c.w.heap.size ∉ blk da' ∧ c.w.heap.size + 1 ∉ blk da' ∧ c.w.heap.size + 2 ∉ blk da' ∧ ∀ b, b < c.w.heap.size → b ∉ blk c.da → b ∉ blk da' := by
  have hR := hg.rl
  have key : ∀ b, b < c.w.heap.size + 4 → b ∉ blk c.da → b ∉ blk da' := fun b q1 q2 q3 => by
    rcases h.bd b q3 with q | q
    · exact q2 q
    · omega
  have big : ∀ b, c.w.heap.size ≤ b → b ∉ blk c.da := fun b q1 q2 => by have := (hg.d1 b q2).1; omega
  exact ⟨key _ (by omega) hg.d2, key _ (by omega) (big _ (by omega)), key _ (by omega) (big _ (by omega)), key _ (by omega) (big _ (by omega)), fun b q1 q2 => key b (by omega) q2⟩
theorem St.now {c : Ctx} {now : Ck} {EE : List (Nat × Nat)} {da' : Option Addr} {dc' : Nat} {W : World} (h : St c now EE da' dc' W) (hg : c.Good) (y : Ck) : St c y EE da' dc' (W.setRow (c.w.heap.size + 2) y.cells.toArray) := by
  have hR := hg.rl
  have hn := hg.nR
  obtain ⟨n1, n2, n3, n4, n5⟩ := h.fresh hg
  refine ⟨(setRow_other _ _ _ _ (by omega)).trans h.bx, (setRow_other _ _ _ _ (by omega)).trans h.bj, h.nw.set y, (setRow_other _ _ _ _ (by omega)).trans h.rl, own_keep h.ed fun g hgm => setRow_other _ _ _ _ fun e => n4 (e ▸ hgm), h.bd, fun b q1 q2 q3 => (setRow_other _ _ _ _ (by omega)).trans (h.kp b q1 q2 q3), below_setRow h.be (by omega) _, by rw [setRow_size]; exact h.sz⟩
theorem St.edge {c : Ctx} {now : Ck} {EE : List (Nat × Nat)} {da' : Option Addr} {dc' : Nat} {W w8 : World} {p : Nat × Nat} {va' : Option Addr} {vc' : Nat} (h : St c now EE da' dc' W) (hg : c.Good) (g8 : Grown W c.n₀ 71 2 da' (EE.map edg) (edg p) va' vc' w8) :
    w8.heap[c.R]? = some (objR c.ea c.en c.ec c.ca c.cn c.cc da' EE.length dc') ∧ St c now (EE ++ [p]) va' vc' (w8.setCell ⟨c.R, 2, none⟩ (.slice va' (EE.length + 1) vc')) ∧ (∀ b, b < W.heap.size → b ≠ c.R → b ∉ blk da' → (w8.setCell ⟨c.R, 2, none⟩ (.slice va' (EE.length + 1) vc')).heap[b]? = W.heap[b]?) ∧ Below c.n₀ W (w8.setCell ⟨c.R, 2, none⟩ (.slice va' (EE.length + 1) vc')) ∧ W.heap.size ≤ (w8.setCell ⟨c.R, 2, none⟩ (.slice va' (EE.length + 1) vc')).heap.size := by
  have hR := hg.rl
  have hn := hg.nR
  have hz := h.sz
  obtain ⟨n1, n2, n3, n4, n5⟩ := h.fresh hg
  have r8 : w8.heap[c.R]? = some (objR c.ea c.en c.ec c.ca c.cn c.cc da' EE.length dc') := (g8.kp c.R (by omega) n1).trans h.rl
  refine ⟨r8, ?_⟩
  rw [setCell_eq_setRow w8 c.R 2 _ _ _ _ r8]
  have hb8 : Below c.n₀ W w8 := g8.be.mono (by omega)
  have k8 : ∀ b, b < W.heap.size → b ≠ c.R → b ∉ blk da' → (w8.setRow c.R (#[.slice c.ea c.en c.ec, .slice c.ca c.cn c.cc, .slice da' EE.length dc'].setIfInBounds 2 (.slice va' (EE.length + 1) vc'))).heap[b]? = W.heap[b]? := fun b q1 q2 q3 => (setRow_other _ _ _ _ q2).trans (g8.kp b q1 q3)
  refine ⟨⟨(k8 _ (by omega) (by omega) n2).trans h.bx, (k8 _ (by omega) (by omega) n3).trans h.bj, (k8 _ (by omega) (by omega) n4).trans h.nw, ?_, ?_, ?_, ?_, ?_, ?_⟩, k8, below_setRow hb8 hn _, ?_⟩
  · rw [setRow_heap w8 c.R _ _ _ _ r8, List.length_append, List.length_singleton]
    rfl
  · refine own_keep (by rw [List.map_append, List.map_singleton]; exact g8.ow) fun g hgm => setRow_other _ _ _ _ fun e => ?_
    subst e
    rcases g8.bk _ hgm with q | q
    · exact n1 q
    · omega
  · intro b q
    rcases g8.bk b q with q | q
    · exact h.bd b q
    · right; omega
  · intro b q1 q2 q3
    rw [k8 b (by omega) q2 (n5 b q1 q3)]
    exact h.kp b q1 q2 q3
  · exact below_setRow (h.be.trans hb8) hn _
  · rw [setRow_size]; have := hb8.size; omega
  · rw [setRow_size]; exact hb8.size
/-- What add leaves. -/
def AddPost (c : Ctx) (C : List Ck) (EE : List (Nat × Nat)) (w' : World) : Prop := ∃ ca' cc' da' dc', w'.heap[c.R]? = some (objR c.ea c.en c.ec ca' C.length cc' da' EE.length dc') ∧ OwnL w' c.n₀ 114 6 ca' cc' (C.map Ck.cells) ∧ OwnL w' c.n₀ 71 2 da' dc' (EE.map edg) ∧
  (∀ b ∈ blk ca', (b ∈ blk c.ca ∨ c.w.heap.size ≤ b) ∧ b ∉ blk da') ∧ (∀ b ∈ blk da', b ∈ blk c.da ∨ c.w.heap.size ≤ b) ∧ (∀ b, b < c.w.heap.size → b ≠ c.R → b ∉ blk c.ca → b ∉ blk c.da → w'.heap[b]? = c.w.heap[b]?) ∧ Below c.n₀ c.w w'
theorem St.last {c : Ctx} {now : Ck} {EE : List (Nat × Nat)} {da' : Option Addr} {dc' : Nat} {W w8 : World} {C : List Ck} {va' : Option Addr} {vc' D : Nat} (h : St c now EE da' dc' W) (hg : c.Good) (hcn : c.cn = C.length) (g8 : Grown W c.n₀ 114 6 c.ca (C.map Ck.cells) now.cells va' vc' w8) (hD : c.w.heap.size + 4 ≤ D) (hK : W.heap[D]? = some (.deferred (some []))) :
    w8.heap[c.R]? = some (objR c.ea c.en c.ec c.ca c.cn c.cc da' EE.length dc') ∧ (w8.setCell ⟨c.R, 1, none⟩ (.slice va' (C.length + 1) vc')).heap[D]? = some (.deferred (some [])) ∧ AddPost c (C ++ [now]) EE ((w8.setCell ⟨c.R, 1, none⟩ (.slice va' (C.length + 1) vc')).putObj D (.deferred none)) := by
  have hR := hg.rl
  have hn := hg.nR
  have hz := h.sz
  have ca3 : ∀ b, c.w.heap.size ≤ b → b ∉ blk c.ca := fun b q1 q2 => by have := (hg.d3 b q2).1; omega
  have caR : c.R ∉ blk c.ca := fun q => (hg.d3 _ q).2.1 rfl
  have hDW : D < W.heap.size := (Array.getElem?_eq_some_iff.mp hK).1
  have r8 : w8.heap[c.R]? = some (objR c.ea c.en c.ec c.ca c.cn c.cc da' EE.length dc') := (g8.kp c.R (by omega) caR).trans h.rl
  refine ⟨r8, ?_⟩
  rw [setCell_eq_setRow w8 c.R 1 _ _ _ _ r8]
  have hb8 : Below c.n₀ W w8 := g8.be.mono (by omega)
  have kD : ∀ b, b ≠ D → b ≠ c.R → ((w8.setRow c.R (#[.slice c.ea c.en c.ec, .slice c.ca c.cn c.cc, .slice da' EE.length dc'].setIfInBounds 1 (.slice va' (C.length + 1) vc'))).putObj D (.deferred none)).heap[b]? = w8.heap[b]? := fun b q1 q2 => (World.putObj_heap_other q1).trans (setRow_other _ _ _ _ q2)
  have daD : D ∉ blk da' := fun q => by
    obtain ⟨o, h1, h2⟩ := own_cells h.ed D q
    rw [hK] at h1; cases h1; cases h2
  obtain ⟨n1, _, _, _, n5⟩ := h.fresh hg
  refine ⟨(setRow_other _ _ _ _ (by omega)).trans ((g8.kp D hDW (ca3 D (by omega))).trans hK), va', vc', da', dc', ?_, ?_, ?_, ?_, ?_, ?_, ?_⟩
  · rw [World.putObj_heap_other (by omega), setRow_heap w8 c.R _ _ _ _ r8, List.length_append, List.length_singleton]
    rfl
  · refine own_keep (by rw [List.map_append, List.map_singleton]; exact g8.ow) fun g hgm => ?_
    rcases g8.bk _ hgm with q | q
    · exact kD g (by have := (hg.d3 g q).1; omega) (hg.d3 g q).2.1
    · exact kD g (by omega) (by omega)
  · refine own_keep h.ed fun g hgm => (kD g (fun e => daD (e ▸ hgm)) (fun e => n1 (e ▸ hgm))).trans (g8.kp g (blk_lt h.ed g hgm).2 fun q => ?_)
    have q3 := hg.d3 g q
    exact n5 g q3.1 q3.2.2 hgm
  · intro b q
    rcases g8.bk b q with q | q
    · have q3 := hg.d3 b q
      exact ⟨.inl q, n5 b q3.1 q3.2.2⟩
    · exact ⟨.inr (by omega), fun q2 => by have := (blk_lt h.ed b q2).2; omega⟩
  · intro b q
    rcases h.bd b q with q | q
    · exact .inl q
    · exact .inr (by omega)
  · intro b q1 q2 q3 q4
    rw [kD b (by omega) q2, g8.kp b (by omega) q3]
    exact h.kp b q1 q2 q4
  · refine (below_setRow (h.be.trans hb8) hn _).trans (belowK_b (w := c.w) (by omega) _ D (.deferred (some [])) _ (by omega) ?_ rfl rfl)
    exact (setRow_other _ _ _ _ (by omega)).trans ((g8.kp D hDW (ca3 D (by omega))).trans hK)
theorem infoK6 : (Tryz.prog.info? 114).map (fun i => (i.zero, i.size, i.bytes)) = some (some zeroK.val, 6, 48) := by kernel_rfl
theorem one6l (x : Ck) : ∀ u ∈ x.cells, u.oneCell' = true := by intro u hu; simp [Ck.cells] at hu; rcases hu with rfl | rfl | rfl | rfl | rfl | rfl <;> rfl
theorem infoP : (Tryz.prog.info? 71).map (fun i => (i.zero, i.size, i.bytes)) = some (some (.agg #[.int .i64 0, .int .i64 0]), 2, 16) := by kernel_rfl
theorem one2 (p : Nat × Nat) : ∀ u ∈ edg p, u.oneCell' = true := by intro u hu; simp [edg] at hu; rcases hu with rfl | rfl <;> rfl
/-- Between two rounds, whatever has come. -/
def RndI (c : Ctx) (ev : Nat → Ev) (cf : Nat → Ck) (E : List (Nat × Nat)) (pre : List { i : Nat // i < c.j }) (W : World) : Prop := ∃ da' dc', St c (told ev cf c.j pre).1 (E ++ (told ev cf c.j pre).2) da' dc' W
/-- The temporaries in a round. -/
def tmA (c : Ctx) (i Bx : Nat) (v : Value) : Act := { tmps := #[.pointer (some ⟨c.R, 0, none⟩), .int .i64 (c.j : Int), .pointer (some ⟨c.w.heap.size, 0, none⟩), .pointer (some ⟨c.w.heap.size + 1, 0, none⟩), .pointer (some ⟨c.w.heap.size + 2, 0, none⟩), .int .i64 (i : Int), .pointer (some ⟨Bx, 0, none⟩), .pointer (some ⟨c.R, 0, none⟩), .pointer (some ⟨c.R, 0, none⟩), .pointer (some ⟨c.R, 0, none⟩), .slice c.ea c.en c.ec, .int .i64 (c.j : Int), .slice c.ea c.j c.ec, .func (.func 161) #[] #[.pointer (some ⟨c.w.heap.size + 3, 0, none⟩)], .int .i64 (i : Int), v, undef, undef, undef, undef, undef, undef, undef, undef, undef, undef, undef, undef, undef, undef, undef, undef, undef, undef, undef, undef, undef, undef, undef, undef, undef, undef, undef, undef, undef, undef, undef, undef, undef, undef, undef, undef, undef, undef, undef, undef, undef, undef, undef, undef, undef, undef, undef, undef, undef, undef, undef, undef, undef, undef, undef, undef, undef, undef, undef, undef, undef, undef, undef, undef, undef, undef, undef, undef, undef, undef, undef, undef, undef, undef], defers := [] }
/-- Behind the assignment to the loop's variables. -/
def RndA (c : Ctx) (ev : Nat → Ev) (x : { i : Nat // i < c.j }) (a : Act) (W : World) : Prop := ∃ Bx, c.w.heap.size + 4 ≤ Bx ∧ W.heap[Bx]? = some (.cells (ev x.1).cells.toArray 69) ∧ a = tmA c x.1 Bx (.agg (ev x.1).cells.toArray)
set_option maxHeartbeats 4000000 in
theorem add_any (c : Ctx) (hg : c.Good) (ev : Nat → Ev) (cf : Nat → Ck) (E : List (Nat × Nat)) (dc : Nat) (hj : c.j < 256) (hjn : c.j < c.en) (hec : c.en ≤ c.ec) (hmx : c.ec ≤ 9223372036854775807) (hR : c.w.heap[c.R]? = some (objR c.ea c.en c.ec c.ca c.cn c.cc c.da E.length dc))
    (hE : OwnL c.w c.n₀ 71 2 c.da dc (E.map edg)) (hL : c.Lies ev cf) (hEl : E.length ≤ 65536) (C : List Ck) (hcn : c.cn = C.length) (hCl : C.length ≤ 256) (hC : OwnL c.w c.n₀ 114 6 c.ca c.cc (C.map Ck.cells)) (N : Ck) (hN : tickP (told ev cf c.j (dn c.j c.j)).1 (ev c.j).go N 0) :
    Calls Tryz.prog 112 #[.pointer (some ⟨c.R, 0, none⟩), .int .i64 (c.j : Int)] c.w fun e w' => (∃ v, e = .returned v) ∧ AddPost c (C ++ [N]) (E ++ (told ev cf c.j (dn c.j c.j)).2) w' := by
  have hcnH : Hid (c.cn = C.length) := hcn
  clear hcn
  have hRlt := hg.rl
  have sub := sub_ev c.ea c.en c.ec c.j (by omega) hmx
  refine (callsIn_wide (n := 3)).1 ?_
  refine callsIn_of_wp_marks Tryz.func112 rfl trivial ?_ rfl
  simp only [Tryz.ntmps112, List.size_toArray, List.length_cons, List.length_nil, Nat.reduceAdd, Nat.reduceSub, Array.replicate_succ, Array.replicate_zero, List.push_toArray, List.append_toArray, List.nil_append, List.cons_append]
  refine wpIn_wide.2 ?_
  go_wp2_with fail
  obtain ⟨p1, p2, p3, p4, p5⟩ := start3 c.w (.cells #[.pointer (some ⟨c.R, 0, none⟩)] 213) (.cells #[.int .i64 (c.j : Int)] 3) (objK zeroK)
  rw [show c.w.heap.size + 1 + 1 = c.w.heap.size + 2 from rfl]
  generalize ((c.w.alloc (.cells #[.pointer (some ⟨c.R, 0, none⟩)] 213)).alloc (.cells #[.int .i64 (c.j : Int)] 3)).alloc (objK zeroK) = W at *
  have p6 := (p4.block c.R hRlt).trans hR
  refine wp_region_noPanic ?_
  refine wp_region_held_drew (S := fun w' => Below W.heap.size W w') (by kernel_rfl) (bey_drew W) (fun hH => ?_)
  refine reg_load1 (i := 0) rfl (by kernel_rfl) (by kernel_rfl) (by kernel_rfl) (fun _ _ _ _ h => h) rfl 213 _ rfl ⟨c.w.heap.size, 0, none⟩ rfl _ Tryz.underlying213 rfl _ (fun w' h' => cell_in p1 rfl h') hH ?_
  simp only [Act.put, List.getElem_toArray, List.getElem_cons_succ, List.getElem_cons_zero, List.setIfInBounds_toArray, List.set_cons_zero, List.set_cons_succ]
  refine reg_move (i := 1) rfl (by kernel_rfl) (by kernel_rfl) (by kernel_rfl) (fun _ _ _ _ h => h) rfl _ (fun _ => rfl) hH ?_
  simp only [Act.put, List.getElem_toArray, List.getElem_cons_succ, List.getElem_cons_zero, List.setIfInBounds_toArray, List.set_cons_zero, List.set_cons_succ]
  refine reg_move (i := 2) rfl (by kernel_rfl) (by kernel_rfl) (by kernel_rfl) (fun _ _ _ _ h => h) rfl (.pointer (some ⟨c.R, 0, none⟩)) (fun _ => by kernel_rfl) hH ?_
  simp only [Act.put, List.getElem_toArray, List.getElem_cons_succ, List.getElem_cons_zero, List.setIfInBounds_toArray, List.set_cons_zero, List.set_cons_succ]
  refine reg_load1 (i := 3) rfl (by kernel_rfl) (by kernel_rfl) (by kernel_rfl) (fun _ _ _ _ h => h) rfl 22 _ rfl ⟨c.R, 0, none⟩ rfl _ Tryz.underlying22 rfl _ (fun w' h' => cell_in p6 rfl h') hH ?_
  simp only [Act.put, List.getElem_toArray, List.getElem_cons_succ, List.getElem_cons_zero, List.setIfInBounds_toArray, List.set_cons_zero, List.set_cons_succ]
  refine reg_load1 (i := 4) rfl (by kernel_rfl) (by kernel_rfl) (by kernel_rfl) (fun _ _ _ _ h => h) rfl 3 _ rfl ⟨c.w.heap.size + 1, 0, none⟩ rfl _ Tryz.underlying3 rfl _ (fun w' h' => cell_in p2 rfl h') hH ?_
  simp only [Act.put, List.getElem_toArray, List.getElem_cons_succ, List.getElem_cons_zero, List.setIfInBounds_toArray, List.set_cons_zero, List.set_cons_succ]
  refine reg_move (i := 5) rfl (by kernel_rfl) (by kernel_rfl) (by kernel_rfl) (fun _ _ _ _ h => h) rfl (.slice c.ea c.j c.ec) (fun wx => by unfold execOp; exact run_value_of (sub wx)) hH ?_
  simp only [Act.put, List.getElem_toArray, List.getElem_cons_succ, List.getElem_cons_zero, List.setIfInBounds_toArray, List.set_cons_zero, List.set_cons_succ]
  refine reg_call1 (i := 6) (by kernel_rfl) rfl rfl 140 _ _ rfl (.slice c.ea c.j c.ec) rfl (cf_fn Tryz.func140 (by kernel_rfl) (by kernel_rfl) _ _) _ (back_any _ _ _ _) ?_
  rintro e w1 ⟨rfl, hw1⟩
  refine ⟨_, rfl, by rw [hw1]; exact bthen (bey_drew W) (boxed _ _), fun hH1 => ?_⟩
  simp only [Act.put, List.getElem_toArray, List.getElem_cons_succ, List.getElem_cons_zero, List.setIfInBounds_toArray, List.set_cons_zero, List.set_cons_succ]
  refine wpAnyH_done (by kernel_rfl) (NoPanic.normal ?_) _
  have hsz1 : w1.heap.size = c.w.heap.size + 4 := by rw [hw1, World.size_alloc]; show W.heap.size + 1 = _; omega
  have hbs : w1.heap[c.w.heap.size + 3]? = some (.cells #[.slice c.ea c.j c.ec] 22) := by
    have := heap_alloc_new W.drew (.cells #[.slice c.ea c.j c.ec] 22)
    rw [hw1]
    rw [show W.drew.heap.size = c.w.heap.size + 3 from p5] at this
    exact this
  have hB1 : Below c.w.heap.size c.w w1 := bthen p4 hH1
  have s1 : RndI c ev cf E [] w1 := ⟨c.da, dc, by
    have e0 : (told ev cf c.j []).2 = [] := rfl
    have k : ∀ {b : Nat} {o : Obj}, W.heap[b]? = some o → w1.heap[b]? = some o := fun {b o} q => (hH1.block b (Array.getElem?_eq_some_iff.mp q).1).trans q
    rw [e0, List.append_nil]
    exact ⟨k p1, k p2, k p3, k p6, own_keep hE fun g hgm => hB1.block g (blk_lt hE g hgm).2, fun b q => .inl q, fun b q _ _ => hB1.block b q, hB1.mono (by have := hg.nR; omega), by omega⟩⟩
  rw [show W.drew.heap.size = c.w.heap.size + 3 from p5]
  have hCH : Hid (OwnL c.w c.n₀ 114 6 c.ca c.cc (C.map Ck.cells)) := hC
  have hNH : Hid (tickP (told ev cf c.j (dn c.j c.j)).1 (ev c.j).go N 0) := hN
  clear hw1 hH1 hH p1 p2 p3 p6 hR hE sub hC hN
  go_wp2_with fail
  refine (wpIn_wide (n := 3)).1 ?_
  refine wpIn_rangeFunc_ownH (n := 3) rfl (by omega) (gf := 161) (lb := #[.pointer (some ⟨c.w.heap.size + 3, 0, none⟩)]) rfl trivial (enters_of Tryz.func161 (by kernel_rfl) rfl)
    (back_stops Fence.wide 2 trivial rfl (by omega) (c.w.heap.size + 3) c.n₀ c.j c.ec c.ea ev (by omega) w1 (by omega) (by have := hg.nR; omega) hbs (hL.e.below (hB1.mono (by have := hg.nR; omega)))) Keeps.trans (keeps_b (by have := hg.nR; omega) (by omega)) (Below.refl _ _) (fun _ => rfl)
    (RndI c ev cf E) (fun _ _ _ => False) ?own (fun _ _ _ _ _ hs _ _ => hs) s1 (RndA c ev) ?ownA ?assign ?body ?done ?stop
  case own =>
    rintro pre A B row ⟨da', dc', hs⟩ hgr hr
    exact ⟨da', dc', hs.own hg (by omega) hgr hr⟩
  case ownA =>
    rintro x a' _ A B row ⟨Bx, h1, h2, h3⟩ hgr hr
    refine ⟨Bx, h1, ?_, h3⟩
    rw [hgr.block Bx (Array.getElem?_eq_some_iff.mp h2).1 fun e => ?_]
    · exact h2
    · obtain ⟨_, o, h4, h5⟩ := hr Bx e.symm
      rw [h2] at h4; cases h4; cases h5
  case assign =>
    rintro l pre x W2 K ⟨da', dc', hs⟩ hK
    have hz := hs.sz
    gi_wp2_with (refine inR_list rfl (by simp) (wpList_store_new rfl 69 _ _ rfl rfl _ (ev x.1).cells.toArray rfl (by kernel_rfl) rfl (ev_one (ev x.1)) (wpList_nil ?_)); show wpListIn (Fence.wide.inRound l) _ _ _ _ _ _ _)
    have hbb := boxed W2 (.cells (ev x.1).cells.toArray 69)
    have hkk := round_keeps (B := w1.heap.size) hs hg (by omega) hbb.size (hbb.mono (by have := hg.nR; omega)) fun b q _ _ _ => hbb.block b q
    exact hK _ _ hkk.1 hkk.2 ⟨da', dc', hs.later hg hbb⟩ ⟨W2.heap.size, hz, heap_alloc_new _ _, rfl⟩
  case body =>
    rintro l pre x a' W2 hlw _ ⟨da', dc', hs⟩ ⟨Bx, hBx, hbx, rfl⟩ hlen
    have hm := told_more ev cf c.j pre x
    have hok := told_ok ev cf c.j hL.ok _ pre rfl
    have hle := told_len ev cf c.j _ pre rfl
    obtain ⟨cb, co, eb, eo, f0, f1, f2, f3, f4, f5, f6, f7, f8, f9, f10, f11, f12, f13, f14⟩ := round_cls hs hg hL hbx x.2
    have huE : Hid (Tryz.prog.underlying 69 = _) := Tryz.underlying69
    have hiE : Hid ((Tryz.prog.info? 69).map (·.size) = some 26) := infoE26
    have hne := bey_some W2
    have hsH : Hid (St c (told ev cf c.j pre).1 (E ++ (told ev cf c.j pre).2) da' dc' W2) := hs
    have hmH : Hid (told ev cf c.j (pre ++ [x]) = stp ev cf c.j (told ev cf c.j pre) x.1) := hm
    have hxI : ((x.1 : Nat) : Int) < 256 := by have := x.2; omega
    clear hs hm
    by_cases e1 : (cf x.1).of (ev x.1).go.toNat ≤ (told ev cf c.j pre).1.of (ev x.1).go.toNat
    · have hst : Hid (told ev cf c.j (pre ++ [x]) = told ev cf c.j pre) := by show _ = _; rw [hmH.out]; unfold stp; rw [if_pos (.inl e1)]
      unfold tmA
      gi_wp2_with fail
      refine wpR_cls (Bey W2) (by kernel_rfl) (by kernel_rfl) (by kernel_rfl) (by rintro ⟨_, _, h⟩; exact h) (bey_drew W2) ?_
      repeat (go_big_quiet_step (fail))
      refine wpQuiet_nil ?_
      intro _ hw'
      obtain ⟨sq, hw''⟩ := hw'
      subst hw''
      clear f1 f2 f3 f4 f5 f6 f7 f8 f9 f10 f11 f12 f13 f14 e1
      gi_wp2
      have hkk := round_keeps (B := w1.heap.size) hsH.out hg (by omega) sq.h.size (sq.h.mono (by have := hg.nR; have := hsH.out.sz; omega)) fun b q _ _ _ => sq.h.block b q
      exact ⟨hkk.1, hkk.2, da', dc', by rw [hst.out]; exact hsH.out.later hg sq.h⟩
    · have hd1 : decide ((cf x.1).of (ev x.1).go.toNat ≤ (told ev cf c.j pre).1.of (ev x.1).go.toNat) = false := by simpa using e1
      by_cases e2 : clash (ev x.1).of (ev c.j).of = false
      · have hst : Hid (told ev cf c.j (pre ++ [x]) = told ev cf c.j pre) := by show _ = _; rw [hmH.out]; unfold stp; rw [if_pos (.inr e2)]
        have cD : ∀ wx, Calls Tryz.prog 74 #[.agg (ev x.1).cells.toArray, .agg (ev c.j).cells.toArray] wx _ := fun wx => dependent_any (ev x.1) (ev c.j) wx false e2.symm
        clear e2 e1
        unfold tmA
        gi_wp2_with fail
        refine wpR_cls (Bey W2) (by kernel_rfl) (by kernel_rfl) (by kernel_rfl) (by rintro ⟨_, _, h⟩; exact h) (bey_drew W2) ?_
        repeat (first
          | (go_big_quiet_want; (first | refine quiet_load_mid 69 _ rfl Bx 0 rfl _ _ f13 huE.out rfl hiE.out ?_ | refine quiet_load_mid 69 _ rfl eb eo rfl _ _ f12 huE.out rfl hiE.out ?_); (simp only [Act.put, List.setIfInBounds_toArray, List.set_cons_zero, List.set_cons_succ]); go_big_quiet_on)
          | go_big_quiet_step ((go_at_call 74; exact calls_bey (cD _))))
        refine wpQuiet_nil ?_
        intro _ hw'
        obtain ⟨sq, hw''⟩ := hw'
        subst hw''
        clear f1 f2 f3 f4 f5 f6 f7 f8 f9 f10 f11 f12 f13 f14 hd1 cD
        gi_wp2
        have hkk := round_keeps (B := w1.heap.size) hsH.out hg (by omega) sq.h.size (sq.h.mono (by have := hg.nR; have := hsH.out.sz; omega)) fun b q _ _ _ => sq.h.block b q
        exact ⟨hkk.1, hkk.2, da', dc', by rw [hst.out]; exact hsH.out.later hg sq.h⟩
      · have e3 : clash (ev x.1).of (ev c.j).of = true := by simpa using e2
        obtain ⟨y, hy⟩ : ∃ y, Hid (y = (told ev cf c.j pre).1.join (cf x.1)) := ⟨_, rfl⟩
        have cJ : ∀ wx, Calls Tryz.prog 141 #[(told ev cf c.j pre).1.val, (cf x.1).val] wx fun e w' => e = .returned (.tuple #[y.val, .int .i64 0]) ∧ Below wx.heap.size wx w' := fun wx => by rw [hy.out]; exact join_any _ _ hok (hL.ok x.1 x.2) wx
        have hst : Hid (told ev cf c.j (pre ++ [x]) = (y, (told ev cf c.j pre).2 ++ [(x.1, c.j)])) := by show _ = _; rw [hmH.out, hy.out]; unfold stp; rw [if_neg (by rintro (q | q) <;> contradiction)]
        have cD : ∀ wx, Calls Tryz.prog 74 #[.agg (ev x.1).cells.toArray, .agg (ev c.j).cells.toArray] wx _ := fun wx => dependent_any (ev x.1) (ev c.j) wx true e3.symm
        clear e2 e3 e1
        unfold tmA
        gi_wp2_with fail
        refine wpR_cls (Bey W2) (by kernel_rfl) (by kernel_rfl) (by kernel_rfl) (by rintro ⟨_, _, h⟩; exact h) (bey_drew W2) ?_
        repeat (first
          | (go_big_quiet_want; (first | refine quiet_load_mid 69 _ rfl Bx 0 rfl _ _ f13 huE.out rfl hiE.out ?_ | refine quiet_load_mid 69 _ rfl eb eo rfl _ _ f12 huE.out rfl hiE.out ?_); (simp only [Act.put, List.setIfInBounds_toArray, List.set_cons_zero, List.set_cons_succ]); go_big_quiet_on)
          | go_big_quiet_step ((go_at_call 74; exact calls_bey (cD _))))
        refine wpQuiet_nil ?_
        intro _ hw'
        obtain ⟨sq, hw''⟩ := hw'
        subst hw''
        have f6H : Hid (∀ wx, (Instr.indexAt 104 (.slice c.ca c.cn c.cc) (.int .i64 (x.1 : Int))).run Tryz.prog wx = .ok (.pointer (some ⟨cb, co, none⟩)) wx) := f6
        have f14H : Hid (∀ s : Cls (Bey W2), s.w.rangeAt cb co (cf x.1).cells) := f14
        clear f1 f2 f3 f4 f5 f6 f7 f8 f9 f10 f11 f12 f13 f14 hd1 cD hne
        gi_wp2_with fail
        have hs5 := hsH.out.later hg sq.h
        have hr5 := f14H.out sq
        have hcb := block_of_range hr5
        obtain ⟨W5, hW5⟩ : ∃ W5, W5 = sq.w := ⟨_, rfl⟩
        rw [← hW5] at hs5 hr5 hcb ⊢
        have hsz5 := hs5.sz
        refine wpR_held (fun w' => W5.heap.size ≤ w'.heap.size ∧ ∀ b, b < W5.heap.size → b ≠ c.w.heap.size + 2 → w'.heap[b]? = W5.heap[b]?) (by kernel_rfl) (by kernel_rfl) (by rintro ⟨_, _, h⟩; exact h) ?_
        have hH : W5.heap.size ≤ W5.drew.heap.size ∧ ∀ b, b < W5.heap.size → b ≠ c.w.heap.size + 2 → W5.drew.heap[b]? = W5.heap[b]? := ⟨Nat.le_refl _, fun _ _ _ => rfl⟩
        refine reg_load1 (i := 1) rfl (by kernel_rfl) (by kernel_rfl) (by kernel_rfl) (fun _ _ _ _ h => h) rfl 213 _ rfl ⟨c.w.heap.size, 0, none⟩ rfl _ Tryz.underlying213 rfl _ (fun w' h' => cell_of ((h'.2 _ (by omega) (by omega)).trans hs5.bx) rfl) hH ?_
        simp only [Act.put, List.getElem_toArray, List.getElem_cons_succ, List.getElem_cons_zero, List.setIfInBounds_toArray, List.set_cons_zero, List.set_cons_succ]
        refine reg_move (i := 2) rfl (by kernel_rfl) (by kernel_rfl) (by kernel_rfl) (fun _ _ _ _ h => h) rfl _ (fun _ => rfl) hH ?_
        simp only [Act.put, List.getElem_toArray, List.getElem_cons_succ, List.getElem_cons_zero, List.setIfInBounds_toArray, List.set_cons_zero, List.set_cons_succ]
        refine reg_move (i := 3) rfl (by kernel_rfl) (by kernel_rfl) (by kernel_rfl) (fun _ _ _ _ h => h) rfl (.pointer (some ⟨c.R, 1, none⟩)) (fun _ => by kernel_rfl) hH ?_
        simp only [Act.put, List.getElem_toArray, List.getElem_cons_succ, List.getElem_cons_zero, List.setIfInBounds_toArray, List.set_cons_zero, List.set_cons_succ]
        refine reg_load1 (i := 4) rfl (by kernel_rfl) (by kernel_rfl) (by kernel_rfl) (fun _ _ _ _ h => h) rfl 104 _ rfl ⟨c.R, 1, none⟩ rfl _ Tryz.underlying104 rfl _ (fun w' h' => cell_of ((h'.2 _ (by omega) (by omega)).trans hs5.rl) rfl) hH ?_
        simp only [Act.put, List.getElem_toArray, List.getElem_cons_succ, List.getElem_cons_zero, List.setIfInBounds_toArray, List.set_cons_zero, List.set_cons_succ]
        refine reg_move (i := 5) rfl (by kernel_rfl) (by kernel_rfl) (by kernel_rfl) (fun _ _ _ _ h => h) rfl _ (fun _ => rfl) hH ?_
        simp only [Act.put, List.getElem_toArray, List.getElem_cons_succ, List.getElem_cons_zero, List.setIfInBounds_toArray, List.set_cons_zero, List.set_cons_succ]
        refine reg_move (i := 6) rfl (by kernel_rfl) (by kernel_rfl) (by kernel_rfl) (fun _ _ _ _ h => h) rfl (.pointer (some ⟨cb, co, none⟩)) (fun wx => by unfold execOp; exact run_value_of (f6H.out wx)) hH ?_
        simp only [Act.put, List.getElem_toArray, List.getElem_cons_succ, List.getElem_cons_zero, List.setIfInBounds_toArray, List.set_cons_zero, List.set_cons_succ]
        refine reg_load (i := 7) rfl (by kernel_rfl) (by kernel_rfl) (by kernel_rfl) (fun _ _ _ _ h => h) rfl 114 _ rfl cb co rfl (cf x.1).cells _ (fun w' h' => range_block hr5 (h'.2 cb hcb (by omega))) Tryz.underlying114 rfl infoK hH ?_
        simp only [Act.put, List.getElem_toArray, List.getElem_cons_succ, List.getElem_cons_zero, List.setIfInBounds_toArray, List.set_cons_zero, List.set_cons_succ]
        refine reg_one (i := 0) (by kernel_rfl) rfl rfl (wpList_load_row rfl 114 _ rfl (c.w.heap.size + 2) rfl _ _ _ _ (show W5.drew.heap[c.w.heap.size + 2]? = some (objK (told ev cf c.j pre).1) from hs5.nw) Tryz.underlying114 rfl infoK (wpList_nil (And.intro hH fun _ => ?_)))
        simp only [Act.put, List.getElem_toArray, List.getElem_cons_succ, List.getElem_cons_zero, List.setIfInBounds_toArray, List.set_cons_zero, List.set_cons_succ]
        refine reg_call2 (i := 8) (by kernel_rfl) rfl rfl 141 _ _ _ _ rfl (told ev cf c.j pre).1.val (cf x.1).val rfl rfl (cf_fn Tryz.func141 (by kernel_rfl) (by kernel_rfl) _ _) _ (cJ _) ?_
        rintro e w6 ⟨rfl, hb6⟩
        have hb6' : Below W5.heap.size W5 w6 := bthen (bey_drew W5) hb6
        refine ⟨_, rfl, ⟨hb6'.size, fun b q _ => hb6'.block b q⟩, fun hH6 => ?_⟩
        have hs6 := hs5.later hg hb6'
        simp only [Act.put, List.getElem_toArray, List.getElem_cons_succ, List.getElem_cons_zero, List.setIfInBounds_toArray, List.set_cons_zero, List.set_cons_succ]
        refine reg_move (i := 9) rfl (by kernel_rfl) (by kernel_rfl) (by kernel_rfl) (fun _ _ _ _ h => h) rfl _ (fun _ => rfl) hH6 ?_
        simp only [Act.put, List.getElem_toArray, List.getElem_cons_succ, List.getElem_cons_zero, List.setIfInBounds_toArray, List.set_cons_zero, List.set_cons_succ]
        refine reg_move (i := 10) rfl (by kernel_rfl) (by kernel_rfl) (by kernel_rfl) (fun _ _ _ _ h => h) rfl y.val (fun _ => rfl) hH6 ?_
        simp only [Act.put, List.getElem_toArray, List.getElem_cons_succ, List.getElem_cons_zero, List.setIfInBounds_toArray, List.set_cons_zero, List.set_cons_succ]
        refine reg_move (i := 11) rfl (by kernel_rfl) (by kernel_rfl) (by kernel_rfl) (fun _ _ _ _ h => h) rfl (.int .i64 0) (fun _ => rfl) hH6 ?_
        simp only [Act.put, List.getElem_toArray, List.getElem_cons_succ, List.getElem_cons_zero, List.setIfInBounds_toArray, List.set_cons_zero, List.set_cons_succ]
        have hH7 : W5.heap.size ≤ (w6.setRow (c.w.heap.size + 2) y.cells.toArray).heap.size ∧ ∀ b, b < W5.heap.size → b ≠ c.w.heap.size + 2 → (w6.setRow (c.w.heap.size + 2) y.cells.toArray).heap[b]? = W5.heap[b]? := ⟨by rw [setRow_size]; exact hb6'.size, fun b q1 q2 => (setRow_other _ _ _ _ q2).trans (hb6'.block b q1)⟩
        refine reg_one (i := 12) (by kernel_rfl) rfl rfl (wpList_store_row rfl 114 _ _ rfl (c.w.heap.size + 2) y.cells.toArray rfl rfl _ _ hs6.nw infoK rfl (one6 y) (wpList_nil (And.intro hH7 fun _ => ?_)))
        simp only [Act.put, List.getElem_toArray, List.getElem_cons_succ, List.getElem_cons_zero, List.setIfInBounds_toArray, List.set_cons_zero, List.set_cons_succ]
        refine wpAnyH_done (by kernel_rfl) ?_ _
        have hs7 := hs6.now hg y
        have hb7 : Below c.n₀ W5 (w6.setRow (c.w.heap.size + 2) y.cells.toArray) := below_setRow (hb6'.mono (by have := hg.nR; omega)) (by have := hg.nR; omega) _
        generalize (w6.setRow (c.w.heap.size + 2) y.cells.toArray) = W7 at *
        have hH7H : Hid (W5.heap.size ≤ W7.heap.size ∧ ∀ b, b < W5.heap.size → b ≠ c.w.heap.size + 2 → W7.heap[b]? = W5.heap[b]?) := hH7
        have hs7H : Hid (St c y (E ++ (told ev cf c.j pre).2) da' dc' W7) := hs7
        have hb7H : Hid (Below c.n₀ W5 W7) := hb7
        clear hH7 hs7 hH6 hs6 hb6 hb6' hH hr5 f6H f14H hb7 cJ
        gi_wp2_with fail
        have hs7 := hs7H.out
        have hsz7 := hs7.sz
        refine wpR_held (fun w' => w'.heap[c.w.heap.size]? = some (.cells #[.pointer (some ⟨c.R, 0, none⟩)] 213) ∧ w'.heap[c.w.heap.size + 1]? = some (.cells #[.int .i64 (c.j : Int)] 3)) (by kernel_rfl) (by kernel_rfl) (by rintro ⟨_, _, h⟩; exact h) ?_
        have hH : W7.drew.heap[c.w.heap.size]? = some (.cells #[.pointer (some ⟨c.R, 0, none⟩)] 213) ∧ W7.drew.heap[c.w.heap.size + 1]? = some (.cells #[.int .i64 (c.j : Int)] 3) := ⟨hs7.bx, hs7.bj⟩
        refine reg_load1 (i := 0) rfl (by kernel_rfl) (by kernel_rfl) (by kernel_rfl) (fun _ _ _ _ h => h) rfl 213 _ rfl ⟨c.w.heap.size, 0, none⟩ rfl _ Tryz.underlying213 rfl _ (fun w' h' => cell_of h'.1 rfl) hH ?_
        simp only [Act.put, List.getElem_toArray, List.getElem_cons_succ, List.getElem_cons_zero, List.setIfInBounds_toArray, List.set_cons_zero, List.set_cons_succ]
        refine reg_load1 (i := 1) rfl (by kernel_rfl) (by kernel_rfl) (by kernel_rfl) (fun _ _ _ _ h => h) rfl 213 _ rfl ⟨c.w.heap.size, 0, none⟩ rfl _ Tryz.underlying213 rfl _ (fun w' h' => cell_of h'.1 rfl) hH ?_
        simp only [Act.put, List.getElem_toArray, List.getElem_cons_succ, List.getElem_cons_zero, List.setIfInBounds_toArray, List.set_cons_zero, List.set_cons_succ]
        refine reg_move (i := 2) rfl (by kernel_rfl) (by kernel_rfl) (by kernel_rfl) (fun _ _ _ _ h => h) rfl _ (fun _ => rfl) hH ?_
        simp only [Act.put, List.getElem_toArray, List.getElem_cons_succ, List.getElem_cons_zero, List.setIfInBounds_toArray, List.set_cons_zero, List.set_cons_succ]
        refine reg_move (i := 3) rfl (by kernel_rfl) (by kernel_rfl) (by kernel_rfl) (fun _ _ _ _ h => h) rfl (.pointer (some ⟨c.R, 2, none⟩)) (fun _ => by kernel_rfl) hH ?_
        simp only [Act.put, List.getElem_toArray, List.getElem_cons_succ, List.getElem_cons_zero, List.setIfInBounds_toArray, List.set_cons_zero, List.set_cons_succ]
        refine reg_move (i := 5) rfl (by kernel_rfl) (by kernel_rfl) (by kernel_rfl) (fun _ _ _ _ h => h) rfl _ (fun _ => rfl) hH ?_
        simp only [Act.put, List.getElem_toArray, List.getElem_cons_succ, List.getElem_cons_zero, List.setIfInBounds_toArray, List.set_cons_zero, List.set_cons_succ]
        refine reg_load1 (i := 6) rfl (by kernel_rfl) (by kernel_rfl) (by kernel_rfl) (fun _ _ _ _ h => h) rfl 3 _ rfl ⟨c.w.heap.size + 1, 0, none⟩ rfl _ Tryz.underlying3 rfl _ (fun w' h' => cell_of h'.2 rfl) hH ?_
        simp only [Act.put, List.getElem_toArray, List.getElem_cons_succ, List.getElem_cons_zero, List.setIfInBounds_toArray, List.set_cons_zero, List.set_cons_succ]
        refine reg_move (i := 7) rfl (by kernel_rfl) (by kernel_rfl) (by kernel_rfl) (fun _ _ _ _ h => h) rfl (.agg #[.int .i64 (x.1 : Int), .int .i64 (c.j : Int)]) (fun _ => by kernel_rfl) hH ?_
        simp only [Act.put, List.getElem_toArray, List.getElem_cons_succ, List.getElem_cons_zero, List.setIfInBounds_toArray, List.set_cons_zero, List.set_cons_succ]
        obtain ⟨iE, hiE, hzE, hsE, hbE⟩ := info_q infoP
        obtain ⟨n1, n2, n3, n4, n5⟩ := hs7.fresh hg
        have hs7d := hs7.later hg (bey_drew W7)
        have hnR := hg.nR
        have fin : ∀ (w9 : World) va' vc', St c y (E ++ (told ev cf c.j pre).2 ++ [(x.1, c.j)]) va' vc' w9 → (∀ b, b < W7.drew.heap.size → b ≠ c.R → b ∉ blk da' → w9.heap[b]? = W7.drew.heap[b]?) → Below c.n₀ W7.drew w9 → W7.drew.heap.size ≤ w9.heap.size → KeepsFrom w1.heap.size W2 w9 ∧ Keeps c.n₀ (c.w.heap.size + 3) W2 w9 ∧ RndI c ev cf E (pre ++ [x]) w9 := fun w9 va' vc' s9 k9 b9 z9 => by
          have q5 : Below W2.heap.size W2 W5 := by rw [hW5]; exact sq.h
          have hz2 := hsH.out.sz
          have z7 : W7.heap.size ≤ w9.heap.size := z9
          have z5 := hH7H.out.1
          have hkk := round_keeps (W' := w9) (B := w1.heap.size) hsH.out hg (by omega) (by have := q5.size; omega) ((q5.mono (by omega)).trans (hb7H.out.trans ((bey_drew W7).mono (by omega) |>.trans b9))) fun b h1 h2 h3 h4 => (k9 b (by show b < W7.heap.size; have := q5.size; omega) h3 h4).trans ((hH7H.out.2 b (by have := q5.size; omega) h2).trans (q5.block b h1))
          refine ⟨hkk.1, hkk.2, va', vc', ?_⟩
          rw [hst.out, ← List.append_assoc]
          exact s9
        have hHa : (W7.drew.alloc (.cells (edg (x.1, c.j)).toArray 71)).heap[c.w.heap.size]? = some (.cells #[.pointer (some ⟨c.R, 0, none⟩)] 213) ∧ (W7.drew.alloc (.cells (edg (x.1, c.j)).toArray 71)).heap[c.w.heap.size + 1]? = some (.cells #[.int .i64 (c.j : Int)] 3) := by
          have := hs7d.later hg (boxed W7.drew (.cells (edg (x.1, c.j)).toArray 71))
          exact ⟨this.bx, this.bj⟩
        have hra : (W7.drew.alloc (.cells (edg (x.1, c.j)).toArray 71)).heap[c.R]? = some (objR c.ea c.en c.ec c.ca c.cn c.cc da' (E ++ (told ev cf c.j pre).2).length dc') := (hs7d.later hg (boxed W7.drew (.cells (edg (x.1, c.j)).toArray 71))).rl
        refine reg_two (i := 4) (j := 8) (by kernel_rfl) rfl rfl rfl rfl ?_ ?_
        · refine wpList_load1 rfl 23 _ rfl ⟨c.R, 2, none⟩ rfl _ Tryz.underlying23 rfl (.slice da' (E ++ (told ev cf c.j pre).2).length dc') (cell_of hs7d.rl rfl) (wpList_nil (And.intro hH fun _ => ?_))
          simp only [Act.put, List.getElem_toArray, List.getElem_cons_succ, List.getElem_cons_zero, List.setIfInBounds_toArray, List.set_cons_zero, List.set_cons_succ]
          refine reg_one (i := 8) (by kernel_rfl) rfl rfl (wpList_buildSlice rfl 23 71 1 _ rfl (edg (x.1, c.j)).toArray iE _ Tryz.underlying23 hiE hzE (by rw [hsE]; omega) (by rw [hsE]; omega) (by simp only [hsE]; kernel_rfl) (wpList_nil (And.intro hHa fun _ => ?_)))
          simp only [Act.put, List.getElem_toArray, List.getElem_cons_succ, List.getElem_cons_zero, List.setIfInBounds_toArray, List.set_cons_zero, List.set_cons_succ]
          refine reg_one (i := 9) (by kernel_rfl) rfl rfl (wpList_app1 (wr := W7.drew) rfl (.tmp 59) (.tmp 63) 23 rfl c.n₀ 71 iE _ 2 16 Tryz.underlying23 hiE hzE hsE hbE rfl (by decide) da' dc' ((E ++ (told ev cf c.j pre).2).map edg) (by rw [List.length_map]; rfl) hs7d.ed (edg (x.1, c.j)) rfl rfl (one2 _) (by rw [List.length_map, List.length_append]; unfold maxLen; omega) (by rw [List.length_map, List.length_append]; omega) (by show c.n₀ ≤ W7.heap.size; omega) ?_)
          intro va' vc' w8 g8
          obtain ⟨r8, s9, k9, b9, z9⟩ := hs7d.edge hg g8
          have hH8 : w8.heap[c.w.heap.size]? = some (.cells #[.pointer (some ⟨c.R, 0, none⟩)] 213) ∧ w8.heap[c.w.heap.size + 1]? = some (.cells #[.int .i64 (c.j : Int)] 3) := ⟨(g8.kp _ (by show _ < W7.heap.size; omega) n2).trans hs7.bx, (g8.kp _ (by show _ < W7.heap.size; omega) n3).trans hs7.bj⟩
          refine wpList_nil (And.intro hH8 fun _ => ?_)
          rw [List.length_map]
          simp only [Act.put, List.getElem_toArray, List.getElem_cons_succ, List.getElem_cons_zero, List.setIfInBounds_toArray, List.set_cons_zero, List.set_cons_succ]
          refine reg_move (i := 10) rfl (by kernel_rfl) (by kernel_rfl) (by kernel_rfl) (fun _ _ _ _ h => h) rfl _ (fun _ => rfl) hH8 ?_
          simp only [Act.put, List.getElem_toArray, List.getElem_cons_succ, List.getElem_cons_zero, List.setIfInBounds_toArray, List.set_cons_zero, List.set_cons_succ]
          refine reg_move (i := 11) rfl (by kernel_rfl) (by kernel_rfl) (by kernel_rfl) (fun _ _ _ _ h => h) rfl (.pointer (some ⟨c.R, 2, none⟩)) (fun _ => by kernel_rfl) hH8 ?_
          simp only [Act.put, List.getElem_toArray, List.getElem_cons_succ, List.getElem_cons_zero, List.setIfInBounds_toArray, List.set_cons_zero, List.set_cons_succ]
          refine reg_one (i := 12) (by kernel_rfl) rfl rfl (wpList_store1 rfl 23 _ _ rfl ⟨c.R, 2, none⟩ rfl va' ((E ++ (told ev cf c.j pre).2).length + 1) vc' rfl (by kernel_rfl) _ (cell_of r8 rfl) (frozen_of_row _ _ _ _ _ r8) (wpList_nil (And.intro ⟨s9.bx, s9.bj⟩ fun _ => ?_)))
          simp only [Act.put, List.getElem_toArray, List.getElem_cons_succ, List.getElem_cons_zero, List.setIfInBounds_toArray, List.set_cons_zero, List.set_cons_succ]
          refine wpAnyH_done (by kernel_rfl) ?_ _
          have hfin := fin _ va' vc' s9 k9 b9 z9
          clear s9 k9 b9 z9 r8 hH8 g8
          gi_wp2
          exact hfin
        · refine wpList_buildSlice rfl 23 71 1 _ rfl (edg (x.1, c.j)).toArray iE _ Tryz.underlying23 hiE hzE (by rw [hsE]; omega) (by rw [hsE]; omega) (by simp only [hsE]; kernel_rfl) (wpList_nil (And.intro hHa fun _ => ?_))
          simp only [Act.put, List.getElem_toArray, List.getElem_cons_succ, List.getElem_cons_zero, List.setIfInBounds_toArray, List.set_cons_zero, List.set_cons_succ]
          refine reg_one (i := 4) (by kernel_rfl) rfl rfl (wpList_load1 rfl 23 _ rfl ⟨c.R, 2, none⟩ rfl _ Tryz.underlying23 rfl (.slice da' (E ++ (told ev cf c.j pre).2).length dc') (cell_of hra rfl) (wpList_nil (And.intro hHa fun _ => ?_)))
          simp only [Act.put, List.getElem_toArray, List.getElem_cons_succ, List.getElem_cons_zero, List.setIfInBounds_toArray, List.set_cons_zero, List.set_cons_succ]
          refine reg_one (i := 9) (by kernel_rfl) rfl rfl (wpList_app1 (wr := W7.drew) rfl (.tmp 59) (.tmp 63) 23 rfl c.n₀ 71 iE _ 2 16 Tryz.underlying23 hiE hzE hsE hbE rfl (by decide) da' dc' ((E ++ (told ev cf c.j pre).2).map edg) (by rw [List.length_map]; rfl) hs7d.ed (edg (x.1, c.j)) rfl rfl (one2 _) (by rw [List.length_map, List.length_append]; unfold maxLen; omega) (by rw [List.length_map, List.length_append]; omega) (by show c.n₀ ≤ W7.heap.size; omega) ?_)
          intro va' vc' w8 g8
          obtain ⟨r8, s9, k9, b9, z9⟩ := hs7d.edge hg g8
          have hH8 : w8.heap[c.w.heap.size]? = some (.cells #[.pointer (some ⟨c.R, 0, none⟩)] 213) ∧ w8.heap[c.w.heap.size + 1]? = some (.cells #[.int .i64 (c.j : Int)] 3) := ⟨(g8.kp _ (by show _ < W7.heap.size; omega) n2).trans hs7.bx, (g8.kp _ (by show _ < W7.heap.size; omega) n3).trans hs7.bj⟩
          refine wpList_nil (And.intro hH8 fun _ => ?_)
          rw [List.length_map]
          simp only [Act.put, List.getElem_toArray, List.getElem_cons_succ, List.getElem_cons_zero, List.setIfInBounds_toArray, List.set_cons_zero, List.set_cons_succ]
          refine reg_move (i := 10) rfl (by kernel_rfl) (by kernel_rfl) (by kernel_rfl) (fun _ _ _ _ h => h) rfl _ (fun _ => rfl) hH8 ?_
          simp only [Act.put, List.getElem_toArray, List.getElem_cons_succ, List.getElem_cons_zero, List.setIfInBounds_toArray, List.set_cons_zero, List.set_cons_succ]
          refine reg_move (i := 11) rfl (by kernel_rfl) (by kernel_rfl) (by kernel_rfl) (fun _ _ _ _ h => h) rfl (.pointer (some ⟨c.R, 2, none⟩)) (fun _ => by kernel_rfl) hH8 ?_
          simp only [Act.put, List.getElem_toArray, List.getElem_cons_succ, List.getElem_cons_zero, List.setIfInBounds_toArray, List.set_cons_zero, List.set_cons_succ]
          refine reg_one (i := 12) (by kernel_rfl) rfl rfl (wpList_store1 rfl 23 _ _ rfl ⟨c.R, 2, none⟩ rfl va' ((E ++ (told ev cf c.j pre).2).length + 1) vc' rfl (by kernel_rfl) _ (cell_of r8 rfl) (frozen_of_row _ _ _ _ _ r8) (wpList_nil (And.intro ⟨s9.bx, s9.bj⟩ fun _ => ?_)))
          simp only [Act.put, List.getElem_toArray, List.getElem_cons_succ, List.getElem_cons_zero, List.setIfInBounds_toArray, List.set_cons_zero, List.set_cons_succ]
          refine wpAnyH_done (by kernel_rfl) ?_ _
          have hfin := fin _ va' vc' s9 k9 b9 z9
          clear s9 k9 b9 z9 r8 hH8 g8
          gi_wp2
          exact hfin
  case done =>
    rintro D ys W5 hD rfl ⟨da', dc', hs5⟩ hK
    have hEE := told_len ev cf c.j c.j (dn c.j c.j) (dn_len (Nat.le_refl _))
    obtain ⟨T, hT⟩ : ∃ T, Hid (T = told ev cf c.j (dn c.j c.j)) := ⟨_, rfl⟩
    rw [← hT.out] at hs5 hEE
    have cT : ∀ wx, Calls Tryz.prog 142 #[T.1.val, .int .i64 (ev c.j).go] wx fun e w' => e = .returned (.tuple #[N.val, .int .i64 0]) ∧ Below wx.heap.size wx w' := fun wx => tick_any _ _ N 0 (by rw [hT.out]; exact hNH.out) wx
    have hs5H : Hid (St c T.1 (E ++ T.2) da' dc' W5) := hs5
    have hKH : Hid (W5.heap[D]? = some (.deferred (some []))) := hK
    clear hs5 hK
    go_wp2_with fail
    have hs5 := hs5H.out
    have hsz5 := hs5.sz
    have hnR := hg.nR
    obtain ⟨eb, eo, e1, e2, e3⟩ := hL.ej
    have e4 : W5.rangeAt eb eo (ev c.j).cells := range_block e3 (hs5.be.block eb e2)
    refine wp_region_noPanic ?_
    have hH : W5.heap.size ≤ W5.drew.heap.size ∧ ∀ b, b < W5.heap.size → b ≠ c.w.heap.size + 2 → W5.drew.heap[b]? = W5.heap[b]? := ⟨Nat.le_refl _, fun _ _ _ => rfl⟩
    refine wp_region_held_drew (S := fun w' => W5.heap.size ≤ w'.heap.size ∧ ∀ b, b < W5.heap.size → b ≠ c.w.heap.size + 2 → w'.heap[b]? = W5.heap[b]?) (by kernel_rfl) hH (fun _ => ?_)
    refine reg_load1 (i := 1) rfl (by kernel_rfl) (by kernel_rfl) (by kernel_rfl) (fun _ _ _ _ h => h) rfl 213 _ rfl ⟨c.w.heap.size, 0, none⟩ rfl _ Tryz.underlying213 rfl _ (fun w' h' => cell_of ((h'.2 _ (by omega) (by omega)).trans hs5.bx) rfl) hH ?_
    simp only [Act.put, List.getElem_toArray, List.getElem_cons_succ, List.getElem_cons_zero, List.setIfInBounds_toArray, List.set_cons_zero, List.set_cons_succ]
    refine reg_move (i := 2) rfl (by kernel_rfl) (by kernel_rfl) (by kernel_rfl) (fun _ _ _ _ h => h) rfl _ (fun _ => rfl) hH ?_
    simp only [Act.put, List.getElem_toArray, List.getElem_cons_succ, List.getElem_cons_zero, List.setIfInBounds_toArray, List.set_cons_zero, List.set_cons_succ]
    refine reg_move (i := 3) rfl (by kernel_rfl) (by kernel_rfl) (by kernel_rfl) (fun _ _ _ _ h => h) rfl (.pointer (some ⟨c.R, 0, none⟩)) (fun _ => by kernel_rfl) hH ?_
    simp only [Act.put, List.getElem_toArray, List.getElem_cons_succ, List.getElem_cons_zero, List.setIfInBounds_toArray, List.set_cons_zero, List.set_cons_succ]
    refine reg_load1 (i := 4) rfl (by kernel_rfl) (by kernel_rfl) (by kernel_rfl) (fun _ _ _ _ h => h) rfl 22 _ rfl ⟨c.R, 0, none⟩ rfl _ Tryz.underlying22 rfl _ (fun w' h' => cell_of ((h'.2 _ (by omega) (by omega)).trans hs5.rl) rfl) hH ?_
    simp only [Act.put, List.getElem_toArray, List.getElem_cons_succ, List.getElem_cons_zero, List.setIfInBounds_toArray, List.set_cons_zero, List.set_cons_succ]
    refine reg_load1 (i := 5) rfl (by kernel_rfl) (by kernel_rfl) (by kernel_rfl) (fun _ _ _ _ h => h) rfl 3 _ rfl ⟨c.w.heap.size + 1, 0, none⟩ rfl _ Tryz.underlying3 rfl _ (fun w' h' => cell_of ((h'.2 _ (by omega) (by omega)).trans hs5.bj) rfl) hH ?_
    simp only [Act.put, List.getElem_toArray, List.getElem_cons_succ, List.getElem_cons_zero, List.setIfInBounds_toArray, List.set_cons_zero, List.set_cons_succ]
    refine reg_move (i := 6) rfl (by kernel_rfl) (by kernel_rfl) (by kernel_rfl) (fun _ _ _ _ h => h) rfl (.pointer (some ⟨eb, eo, none⟩)) (fun wx => by unfold execOp; exact run_value_of (e1 wx)) hH ?_
    simp only [Act.put, List.getElem_toArray, List.getElem_cons_succ, List.getElem_cons_zero, List.setIfInBounds_toArray, List.set_cons_zero, List.set_cons_succ]
    refine reg_move (i := 7) rfl (by kernel_rfl) (by kernel_rfl) (by kernel_rfl) (fun _ _ _ _ h => h) rfl (.pointer (some ⟨eb, eo, none⟩)) (fun _ => by kernel_rfl) hH ?_
    simp only [Act.put, List.getElem_toArray, List.getElem_cons_succ, List.getElem_cons_zero, List.setIfInBounds_toArray, List.set_cons_zero, List.set_cons_succ]
    refine reg_load1 (i := 8) rfl (by kernel_rfl) (by kernel_rfl) (by kernel_rfl) (fun _ _ _ _ h => h) rfl 3 _ rfl ⟨eb, eo, none⟩ rfl _ Tryz.underlying3 rfl _ (fun w' h' => range_block e4 (h'.2 eb (by omega) (by omega)) 0 _ rfl) hH ?_
    simp only [Act.put, List.getElem_toArray, List.getElem_cons_succ, List.getElem_cons_zero, List.setIfInBounds_toArray, List.set_cons_zero, List.set_cons_succ]
    refine reg_one (i := 0) (by kernel_rfl) rfl rfl (wpList_load_row rfl 114 _ rfl (c.w.heap.size + 2) rfl _ _ _ _ (show W5.drew.heap[c.w.heap.size + 2]? = some (objK T.1) from hs5.nw) Tryz.underlying114 rfl infoK (wpList_nil (And.intro hH fun _ => ?_)))
    simp only [Act.put, List.getElem_toArray, List.getElem_cons_succ, List.getElem_cons_zero, List.setIfInBounds_toArray, List.set_cons_zero, List.set_cons_succ]
    refine reg_call2 (i := 9) (by kernel_rfl) rfl rfl 142 _ _ _ _ rfl T.1.val (.int .i64 (ev c.j).go) rfl rfl (cf_fn Tryz.func142 (by kernel_rfl) (by kernel_rfl) _ _) _ (cT _) ?_
    rintro e w6 ⟨rfl, hb6⟩
    have hb6' : Below W5.heap.size W5 w6 := bthen (bey_drew W5) hb6
    refine ⟨_, rfl, ⟨hb6'.size, fun b q _ => hb6'.block b q⟩, fun hH6 => ?_⟩
    have hs6 := hs5.later hg hb6'
    simp only [Act.put, List.getElem_toArray, List.getElem_cons_succ, List.getElem_cons_zero, List.setIfInBounds_toArray, List.set_cons_zero, List.set_cons_succ]
    refine reg_move (i := 10) rfl (by kernel_rfl) (by kernel_rfl) (by kernel_rfl) (fun _ _ _ _ h => h) rfl _ (fun _ => rfl) hH6 ?_
    simp only [Act.put, List.getElem_toArray, List.getElem_cons_succ, List.getElem_cons_zero, List.setIfInBounds_toArray, List.set_cons_zero, List.set_cons_succ]
    refine reg_move (i := 11) rfl (by kernel_rfl) (by kernel_rfl) (by kernel_rfl) (fun _ _ _ _ h => h) rfl N.val (fun _ => rfl) hH6 ?_
    simp only [Act.put, List.getElem_toArray, List.getElem_cons_succ, List.getElem_cons_zero, List.setIfInBounds_toArray, List.set_cons_zero, List.set_cons_succ]
    refine reg_move (i := 12) rfl (by kernel_rfl) (by kernel_rfl) (by kernel_rfl) (fun _ _ _ _ h => h) rfl (.int .i64 0) (fun _ => rfl) hH6 ?_
    simp only [Act.put, List.getElem_toArray, List.getElem_cons_succ, List.getElem_cons_zero, List.setIfInBounds_toArray, List.set_cons_zero, List.set_cons_succ]
    have hH7 : W5.heap.size ≤ (w6.setRow (c.w.heap.size + 2) N.cells.toArray).heap.size ∧ ∀ b, b < W5.heap.size → b ≠ c.w.heap.size + 2 → (w6.setRow (c.w.heap.size + 2) N.cells.toArray).heap[b]? = W5.heap[b]? := ⟨by rw [setRow_size]; exact hb6'.size, fun b q1 q2 => (setRow_other _ _ _ _ q2).trans (hb6'.block b q1)⟩
    refine reg_one (i := 13) (by kernel_rfl) rfl rfl (wpList_store_row rfl 114 _ _ rfl (c.w.heap.size + 2) N.cells.toArray rfl rfl _ _ hs6.nw infoK rfl (one6 N) (wpList_nil (And.intro hH7 fun _ => ?_)))
    simp only [Act.put, List.getElem_toArray, List.getElem_cons_succ, List.getElem_cons_zero, List.setIfInBounds_toArray, List.set_cons_zero, List.set_cons_succ]
    refine wpAnyH_done (by kernel_rfl) (NoPanic.normal ?_) _
    have hs7 := hs6.now hg N
    have hDW5 : D < W5.heap.size := (Array.getElem?_eq_some_iff.mp hKH.out).1
    have hK7 := (hH7.2 D hDW5 (by omega)).trans hKH.out
    generalize (w6.setRow (c.w.heap.size + 2) N.cells.toArray) = W7 at *
    have hs7H : Hid (St c N (E ++ T.2) da' dc' W7) := hs7
    have hK7H : Hid (W7.heap[D]? = some (.deferred (some []))) := hK7
    clear hH7 hs7 hK7 hH6 hs6 hb6 hb6' hH e1 e2 e3 e4 cT
    go_wp2_with fail
    have hs7 := hs7H.out
    have hsz7 := hs7.sz
    obtain ⟨iK, hiK, hzK, hsK, hbK⟩ := info_q infoK6
    have hs7d := hs7.later hg (bey_drew W7)
    have ca3 : ∀ b, c.w.heap.size ≤ b → b ∉ blk c.ca := fun b q1 q2 => by have := (hg.d3 b q2).1; omega
    have hCd : OwnL W7.drew c.n₀ 114 6 c.ca c.cc (C.map Ck.cells) := own_keep hCH.out fun b q => hs7.kp b (hg.d3 b q).1 (hg.d3 b q).2.1 (hg.d3 b q).2.2
    refine wp_region_noPanic ?_
    have hH : W7.drew.heap[c.w.heap.size]? = some (.cells #[.pointer (some ⟨c.R, 0, none⟩)] 213) ∧ W7.drew.heap[c.w.heap.size + 2]? = some (objK N) := ⟨hs7.bx, hs7.nw⟩
    refine wp_region_held_drew (S := fun w' => w'.heap[c.w.heap.size]? = some (.cells #[.pointer (some ⟨c.R, 0, none⟩)] 213) ∧ w'.heap[c.w.heap.size + 2]? = some (objK N)) (by kernel_rfl) hH (fun _ => ?_)
    refine reg_load1 (i := 0) rfl (by kernel_rfl) (by kernel_rfl) (by kernel_rfl) (fun _ _ _ _ h => h) rfl 213 _ rfl ⟨c.w.heap.size, 0, none⟩ rfl _ Tryz.underlying213 rfl _ (fun w' h' => cell_of h'.1 rfl) hH ?_
    simp only [Act.put, List.getElem_toArray, List.getElem_cons_succ, List.getElem_cons_zero, List.setIfInBounds_toArray, List.set_cons_zero, List.set_cons_succ]
    refine reg_load1 (i := 1) rfl (by kernel_rfl) (by kernel_rfl) (by kernel_rfl) (fun _ _ _ _ h => h) rfl 213 _ rfl ⟨c.w.heap.size, 0, none⟩ rfl _ Tryz.underlying213 rfl _ (fun w' h' => cell_of h'.1 rfl) hH ?_
    simp only [Act.put, List.getElem_toArray, List.getElem_cons_succ, List.getElem_cons_zero, List.setIfInBounds_toArray, List.set_cons_zero, List.set_cons_succ]
    refine reg_move (i := 2) rfl (by kernel_rfl) (by kernel_rfl) (by kernel_rfl) (fun _ _ _ _ h => h) rfl _ (fun _ => rfl) hH ?_
    simp only [Act.put, List.getElem_toArray, List.getElem_cons_succ, List.getElem_cons_zero, List.setIfInBounds_toArray, List.set_cons_zero, List.set_cons_succ]
    refine reg_move (i := 3) rfl (by kernel_rfl) (by kernel_rfl) (by kernel_rfl) (fun _ _ _ _ h => h) rfl (.pointer (some ⟨c.R, 1, none⟩)) (fun _ => by kernel_rfl) hH ?_
    simp only [Act.put, List.getElem_toArray, List.getElem_cons_succ, List.getElem_cons_zero, List.setIfInBounds_toArray, List.set_cons_zero, List.set_cons_succ]
    refine reg_load (i := 5) rfl (by kernel_rfl) (by kernel_rfl) (by kernel_rfl) (fun _ _ _ _ h => h) rfl 114 _ rfl (c.w.heap.size + 2) 0 rfl N.cells _ (fun w' h' => fun q v hv => cell_of (cs := N.cells.toArray) h'.2 (by rw [Nat.zero_add]; simpa using hv)) Tryz.underlying114 rfl infoK hH ?_
    simp only [Act.put, List.getElem_toArray, List.getElem_cons_succ, List.getElem_cons_zero, List.setIfInBounds_toArray, List.set_cons_zero, List.set_cons_succ]
    have hHa : (W7.drew.alloc (.cells N.cells.toArray 114)).heap[c.w.heap.size]? = some (.cells #[.pointer (some ⟨c.R, 0, none⟩)] 213) ∧ (W7.drew.alloc (.cells N.cells.toArray 114)).heap[c.w.heap.size + 2]? = some (objK N) := by
      have := hs7d.later hg (boxed W7.drew (.cells N.cells.toArray 114))
      exact ⟨this.bx, this.nw⟩
    have hra := (hs7d.later hg (boxed W7.drew (.cells N.cells.toArray 114))).rl
    refine reg_two (i := 4) (j := 6) (by kernel_rfl) rfl rfl rfl rfl ?_ ?_
    · refine wpList_load1 rfl 104 _ rfl ⟨c.R, 1, none⟩ rfl _ Tryz.underlying104 rfl (.slice c.ca c.cn c.cc) (cell_of hs7d.rl rfl) (wpList_nil (And.intro hH fun _ => ?_))
      simp only [Act.put, List.getElem_toArray, List.getElem_cons_succ, List.getElem_cons_zero, List.setIfInBounds_toArray, List.set_cons_zero, List.set_cons_succ]
      refine reg_one (i := 6) (by kernel_rfl) rfl rfl (wpList_buildSlice rfl 104 114 1 _ rfl N.cells.toArray iK _ Tryz.underlying104 hiK hzK (by rw [hsK]; omega) (by rw [hsK]; omega) (by simp only [hsK]; kernel_rfl) (wpList_nil (And.intro hHa fun _ => ?_)))
      simp only [Act.put, List.getElem_toArray, List.getElem_cons_succ, List.getElem_cons_zero, List.setIfInBounds_toArray, List.set_cons_zero, List.set_cons_succ]
      refine reg_one (i := 7) (by kernel_rfl) rfl rfl (wpList_app1 (wr := W7.drew) rfl (.tmp 84) (.tmp 86) 104 rfl c.n₀ 114 iK _ 6 48 Tryz.underlying104 hiK hzK hsK hbK rfl (by decide) c.ca c.cc (C.map Ck.cells) (by rw [List.length_map, ← hcnH.out]; rfl) hCd N.cells rfl rfl (one6l N) (by rw [List.length_map]; unfold maxLen; omega) (by rw [List.length_map]; omega) (by show c.n₀ ≤ W7.heap.size; omega) ?_)
      intro va' vc' w8 g8
      obtain ⟨r8, kD, post⟩ := hs7d.last hg hcnH.out g8 (D := D) (by omega) hK7H.out
      have hH8 : w8.heap[c.w.heap.size]? = some (.cells #[.pointer (some ⟨c.R, 0, none⟩)] 213) ∧ w8.heap[c.w.heap.size + 2]? = some (objK N) := ⟨(g8.kp _ (by show _ < W7.heap.size; omega) (ca3 _ (by omega))).trans hs7.bx, (g8.kp _ (by show _ < W7.heap.size; omega) (ca3 _ (by omega))).trans hs7.nw⟩
      refine wpList_nil (And.intro hH8 fun _ => ?_)
      rw [List.length_map]
      simp only [Act.put, List.getElem_toArray, List.getElem_cons_succ, List.getElem_cons_zero, List.setIfInBounds_toArray, List.set_cons_zero, List.set_cons_succ]
      refine reg_move (i := 8) rfl (by kernel_rfl) (by kernel_rfl) (by kernel_rfl) (fun _ _ _ _ h => h) rfl _ (fun _ => rfl) hH8 ?_
      simp only [Act.put, List.getElem_toArray, List.getElem_cons_succ, List.getElem_cons_zero, List.setIfInBounds_toArray, List.set_cons_zero, List.set_cons_succ]
      refine reg_move (i := 9) rfl (by kernel_rfl) (by kernel_rfl) (by kernel_rfl) (fun _ _ _ _ h => h) rfl (.pointer (some ⟨c.R, 1, none⟩)) (fun _ => by kernel_rfl) hH8 ?_
      simp only [Act.put, List.getElem_toArray, List.getElem_cons_succ, List.getElem_cons_zero, List.setIfInBounds_toArray, List.set_cons_zero, List.set_cons_succ]
      have hH9 : (w8.setCell ⟨c.R, 1, none⟩ (.slice va' (C.length + 1) vc')).heap[c.w.heap.size]? = some (.cells #[.pointer (some ⟨c.R, 0, none⟩)] 213) ∧ (w8.setCell ⟨c.R, 1, none⟩ (.slice va' (C.length + 1) vc')).heap[c.w.heap.size + 2]? = some (objK N) := by
        rw [setCell_eq_setRow w8 c.R 1 _ _ _ _ r8]
        exact ⟨(setRow_other _ _ _ _ (by omega)).trans hH8.1, (setRow_other _ _ _ _ (by omega)).trans hH8.2⟩
      refine reg_one (i := 10) (by kernel_rfl) rfl rfl (wpList_store1 rfl 104 _ _ rfl ⟨c.R, 1, none⟩ rfl va' (C.length + 1) vc' rfl (by kernel_rfl) _ (cell_of r8 rfl) (frozen_of_row _ _ _ _ _ r8) (wpList_nil (And.intro hH9 fun _ => ?_)))
      simp only [Act.put, List.getElem_toArray, List.getElem_cons_succ, List.getElem_cons_zero, List.setIfInBounds_toArray, List.set_cons_zero, List.set_cons_succ]
      refine wpAnyH_done (by kernel_rfl) (NoPanic.normal ?_) _
      refine ⟨by simp, .inl ⟨_, _, rfl, run_takeDeferred kD, ?_⟩⟩
      refine ⟨_, results_none rfl _ _ _, ⟨_, rfl⟩, ?_⟩
      rw [← hT.out]
      exact post
    · refine wpList_buildSlice rfl 104 114 1 _ rfl N.cells.toArray iK _ Tryz.underlying104 hiK hzK (by rw [hsK]; omega) (by rw [hsK]; omega) (by simp only [hsK]; kernel_rfl) (wpList_nil (And.intro hHa fun _ => ?_))
      simp only [Act.put, List.getElem_toArray, List.getElem_cons_succ, List.getElem_cons_zero, List.setIfInBounds_toArray, List.set_cons_zero, List.set_cons_succ]
      refine reg_one (i := 4) (by kernel_rfl) rfl rfl (wpList_load1 rfl 104 _ rfl ⟨c.R, 1, none⟩ rfl _ Tryz.underlying104 rfl (.slice c.ca c.cn c.cc) (cell_of hra rfl) (wpList_nil (And.intro hHa fun _ => ?_)))
      simp only [Act.put, List.getElem_toArray, List.getElem_cons_succ, List.getElem_cons_zero, List.setIfInBounds_toArray, List.set_cons_zero, List.set_cons_succ]
      refine reg_one (i := 7) (by kernel_rfl) rfl rfl (wpList_app1 (wr := W7.drew) rfl (.tmp 84) (.tmp 86) 104 rfl c.n₀ 114 iK _ 6 48 Tryz.underlying104 hiK hzK hsK hbK rfl (by decide) c.ca c.cc (C.map Ck.cells) (by rw [List.length_map, ← hcnH.out]; rfl) hCd N.cells rfl rfl (one6l N) (by rw [List.length_map]; unfold maxLen; omega) (by rw [List.length_map]; omega) (by show c.n₀ ≤ W7.heap.size; omega) ?_)
      intro va' vc' w8 g8
      obtain ⟨r8, kD, post⟩ := hs7d.last hg hcnH.out g8 (D := D) (by omega) hK7H.out
      have hH8 : w8.heap[c.w.heap.size]? = some (.cells #[.pointer (some ⟨c.R, 0, none⟩)] 213) ∧ w8.heap[c.w.heap.size + 2]? = some (objK N) := ⟨(g8.kp _ (by show _ < W7.heap.size; omega) (ca3 _ (by omega))).trans hs7.bx, (g8.kp _ (by show _ < W7.heap.size; omega) (ca3 _ (by omega))).trans hs7.nw⟩
      refine wpList_nil (And.intro hH8 fun _ => ?_)
      rw [List.length_map]
      simp only [Act.put, List.getElem_toArray, List.getElem_cons_succ, List.getElem_cons_zero, List.setIfInBounds_toArray, List.set_cons_zero, List.set_cons_succ]
      refine reg_move (i := 8) rfl (by kernel_rfl) (by kernel_rfl) (by kernel_rfl) (fun _ _ _ _ h => h) rfl _ (fun _ => rfl) hH8 ?_
      simp only [Act.put, List.getElem_toArray, List.getElem_cons_succ, List.getElem_cons_zero, List.setIfInBounds_toArray, List.set_cons_zero, List.set_cons_succ]
      refine reg_move (i := 9) rfl (by kernel_rfl) (by kernel_rfl) (by kernel_rfl) (fun _ _ _ _ h => h) rfl (.pointer (some ⟨c.R, 1, none⟩)) (fun _ => by kernel_rfl) hH8 ?_
      simp only [Act.put, List.getElem_toArray, List.getElem_cons_succ, List.getElem_cons_zero, List.setIfInBounds_toArray, List.set_cons_zero, List.set_cons_succ]
      have hH9 : (w8.setCell ⟨c.R, 1, none⟩ (.slice va' (C.length + 1) vc')).heap[c.w.heap.size]? = some (.cells #[.pointer (some ⟨c.R, 0, none⟩)] 213) ∧ (w8.setCell ⟨c.R, 1, none⟩ (.slice va' (C.length + 1) vc')).heap[c.w.heap.size + 2]? = some (objK N) := by
        rw [setCell_eq_setRow w8 c.R 1 _ _ _ _ r8]
        exact ⟨(setRow_other _ _ _ _ (by omega)).trans hH8.1, (setRow_other _ _ _ _ (by omega)).trans hH8.2⟩
      refine reg_one (i := 10) (by kernel_rfl) rfl rfl (wpList_store1 rfl 104 _ _ rfl ⟨c.R, 1, none⟩ rfl va' (C.length + 1) vc' rfl (by kernel_rfl) _ (cell_of r8 rfl) (frozen_of_row _ _ _ _ _ r8) (wpList_nil (And.intro hH9 fun _ => ?_)))
      simp only [Act.put, List.getElem_toArray, List.getElem_cons_succ, List.getElem_cons_zero, List.setIfInBounds_toArray, List.set_cons_zero, List.set_cons_succ]
      refine wpAnyH_done (by kernel_rfl) (NoPanic.normal ?_) _
      refine ⟨by simp, .inl ⟨_, _, rfl, run_takeDeferred kD, ?_⟩⟩
      refine ⟨_, results_none rfl _ _ _, ⟨_, rfl⟩, ?_⟩
      rw [← hT.out]
      exact post
  case stop =>
    rintro D cd pre W2 _ _ h _
    exact h.elim
end Go.Proofs.YtafefnkgdnmjbaaGreatDoor.pg
/- Lists that a loop over an iterator puts together; slices.Values of pairs. -/
namespace Go.Proofs.YtafefnkgdnmjbaaGreatDoor.pg
open Go.ChangeShapes Go.WideShapes Go.ChangeAt Go.RowKit Go.Shelf
set_option linter.unusedVariables false
set_option linter.unusedSimpArgs false
set_option maxRecDepth 100000
attribute [local go_sem] Oper.semAt_some
/-- A list of the call's own, kept in a box. -/
structure PutS (w W : World) (lo P tS e k : Nat) (da : Option Addr) (dc : Nat) (L : List (List Value)) : Prop where
  c : W.heap[P]? = some (.cells #[.slice da L.length dc] tS)
  o : OwnL W lo e k da dc L
  l : w.heap.size ≤ lo ∧ lo ≤ W.heap.size
  n : P ∉ blk da
  p : w.heap.size ≤ P
  b : Below w.heap.size w W
section
variable {w W W' : World} {lo P tS e k : Nat} {da : Option Addr} {dc : Nat} {L : List (List Value)}
theorem PutS.lt (h : PutS w W lo P tS e k da dc L) : P < W.heap.size := (Array.getElem?_eq_some_iff.mp h.c).1
theorem PutS.keep (h : PutS w W lo P tS e k da dc L) (hk : ∀ (b : Nat) (o : Obj), W.heap[b]? = some o → o.isCells = true → W'.heap[b]? = some o) (hb : Below w.heap.size W W') : PutS w W' lo P tS e k da dc L :=
  ⟨hk _ _ h.c rfl, own_keep h.o fun g hg => by
    obtain ⟨o, h1, h2⟩ := own_cells h.o g hg
    rw [hk g o h1 h2, h1], ⟨h.l.1, Nat.le_trans h.l.2 hb.size⟩, h.n, h.p, h.b.trans hb⟩
theorem PutS.later (h : PutS w W lo P tS e k da dc L) (hb : Below W.heap.size W W') : PutS w W' lo P tS e k da dc L :=
  h.keep (fun b o q _ => (hb.block b (Array.getElem?_eq_some_iff.mp q).1).trans q) (hb.mono h.b.size)
theorem PutS.own {B : Nat} {row : Option Nat} (h : PutS w W lo P tS e k da dc L) (hB : w.heap.size ≤ B) (hgr : W.grownBy W' row)
    (hr : ∀ r, row = some r → B ≤ r ∧ ∃ o : Obj, W.heap[r]? = some o ∧ o.isCells = false) : PutS w W' lo P tS e k da dc L := by
  refine h.keep (fun b o q1 q2 => ?_) ((Below.refl w.heap.size W).grown hgr h.b.size fun k e => by have := (hr k e).1; omega)
  rw [hgr.block b (Array.getElem?_eq_some_iff.mp q1).1 fun e => ?_]
  · exact q1
  · obtain ⟨_, o', h2, h3⟩ := hr b e.symm
    rw [q1] at h2; cases h2; rw [q2] at h3; cases h3
theorem PutS.add {cs : List Value} {va' : Option Addr} {vc' : Nat} {w8 : World} (h : PutS w W lo P tS e k da dc L) (g8 : Grown W lo e k da L cs va' vc' w8) :
    w8.heap[P]? = some (.cells #[.slice da L.length dc] tS) ∧ PutS w (w8.setCell ⟨P, 0, none⟩ (.slice va' (L.length + 1) vc')) lo P tS e k va' vc' (L ++ [cs]) ∧ (∀ b, b < W.heap.size → b ≠ P → b ∉ blk da → (w8.setCell ⟨P, 0, none⟩ (.slice va' (L.length + 1) vc')).heap[b]? = W.heap[b]?) ∧ Below w.heap.size W (w8.setCell ⟨P, 0, none⟩ (.slice va' (L.length + 1) vc')) := by
  have r8 : w8.heap[P]? = some (.cells #[.slice da L.length dc] tS) := (g8.kp P h.lt h.n).trans h.c
  refine ⟨r8, ?_⟩
  rw [setCell_eq_setRow w8 P 0 _ _ _ _ r8]
  have hz := h.b.size
  have hp := h.p
  have hl := h.l
  have hb8 : Below w.heap.size W w8 := g8.be.mono (by omega)
  have hz8 := hb8.size
  refine ⟨⟨?_, ?_, ⟨hl.1, by rw [setRow_size]; omega⟩, ?_, hp, below_setRow (h.b.trans hb8) hp _⟩, fun b q1 q2 q3 => (setRow_other _ _ _ _ q2).trans (g8.kp b q1 q3), below_setRow hb8 hp _⟩
  · rw [setRow_heap w8 P _ _ _ _ r8, List.length_append, List.length_singleton]
    rfl
  · refine own_keep g8.ow fun g hgm => setRow_other _ _ _ _ fun e => ?_
    subst e
    rcases g8.bk _ hgm with q | q
    · exact h.n q
    · have := h.lt; omega
  · intro q
    rcases g8.bk _ q with q | q
    · exact h.n q
    · have := h.lt; omega
/-- What a round that adds has left alone. -/
theorem PutS.round {B : Nat} (h : PutS w W lo P tS e k da dc L) (hs : W.heap.size ≤ W'.heap.size) (hk : ∀ b, b < W.heap.size → b ≠ P → b ∉ blk da → W'.heap[b]? = W.heap[b]?) : KeepsFrom B W W' :=
  ⟨hs, fun b o _ q1 q2 => by
    rw [hk b (Array.getElem?_eq_some_iff.mp q1).1 (fun e => by rw [e, h.c] at q1; cases q1; cases q2) fun q => ?_]
    · exact q1
    · obtain ⟨o', h1, h2⟩ := own_cells h.o b q
      rw [q1] at h1; cases h1; rw [q2] at h2; cases h2⟩
end
/-- The first k of the places below j. -/
def up (j : Nat) : Nat → List { i : Nat // i < j }
  | 0 => []
  | k + 1 => if h : k < j then up j k ++ [⟨k, h⟩] else up j k
theorem up_more {j k : Nat} (h : k < j) : up j (k + 1) = up j k ++ [⟨k, h⟩] := by rw [up, dif_pos h]
theorem up_len {j : Nat} : ∀ {k : Nat}, k ≤ j → (up j k).length = k
  | 0, _ => rfl
  | k + 1, h => by rw [up_more (by omega), List.length_append, up_len (by omega), List.length_singleton]
theorem up_map {α : Type} (L : List α) (d : α) : ∀ k, k ≤ L.length → (up L.length k).map (fun x => L.getD x.1 d) = L.take k
  | 0, _ => by simp [up]
  | k + 1, h => by
    have e : L.getD k d = L[k] := by rw [List.getD_eq_getElem?_getD, List.getElem?_eq_getElem (show k < L.length by omega)]; rfl
    rw [up_more (by omega), List.map_append, up_map L d k (by omega), List.map_singleton, List.take_succ_eq_append_getElem (show k < L.length by omega)]
    show _ ++ [L.getD k d] = _
    rw [e]
/-- A call of a closure in a round. -/
theorem inR_call {P : Program} {l n : Nat} {ops : Array Oper} {Q : Exit → Act → World → Prop} {rest : List Oper} {o : Oper} {a : Act} {w : World} (hgd : o.guard = none) (f : FuncId) (x : Operand) (xs : Array Operand) (ts : Array TypeId) (cap vs : Array Value)
    (hc0 : o.op = .call { callee := .value x, args := xs, argTypes := ts }) (hx : a.eval x = .func (.func f) #[] cap) (hv : xs.map a.eval = vs) (hcf : ∀ args w, (callFunc f args).run P w = .ok (.enter f args) w) (R : Ending → World → Prop) (hc : Calls P f (vs ++ cap) w R)
    (hK : ∀ e w', R e w' → ∃ v, e = .returned v ∧ wpListIn (Fence.wide.inRound l) n P ops Q rest (a.put o.dst v) w') : wpListIn (Fence.wide.inRound l) n P ops Q (o :: rest) a w := by
  refine inR_list hgd (by intro c e; rw [hc0] at e; cases e) (wpList_plain hgd fun K hK2 => ?_)
  have hrun : (execOp a.eval o).run P w = .ok (.enter f (vs ++ cap)) w := by
    simp [execOp, hc0, resolve, invoke, hx, Deferred.ofValue, hcf, hv]
  unfold Oper.wp
  rw [hrun, Oper.upon_enter]
  refine hc.mono fun e w' h => ?_
  obtain ⟨v, rfl, hk⟩ := hK e w' h
  exact hK2 _ _ (wpList_nil hk)
theorem inR_call2 {P : Program} {l n : Nat} {ops : Array Oper} {Q : Exit → Act → World → Prop} {rest : List Oper} {o : Oper} {a : Act} {w : World} (hgd : o.guard = none) (f : FuncId) (x y z : Operand) (ts : Array TypeId) (cap : Array Value)
    (hc0 : o.op = .call { callee := .value x, args := #[y, z], argTypes := ts }) (hx : a.eval x = .func (.func f) #[] cap) (v v2 : Value) (hv : a.eval y = v) (hv2 : a.eval z = v2) (hcf : ∀ args w, (callFunc f args).run P w = .ok (.enter f args) w) (R : Ending → World → Prop) (hc : Calls P f (#[v, v2] ++ cap) w R)
    (hK : ∀ e w', R e w' → ∃ v, e = .returned v ∧ wpListIn (Fence.wide.inRound l) n P ops Q rest (a.put o.dst v) w') : wpListIn (Fence.wide.inRound l) n P ops Q (o :: rest) a w :=
  inR_call hgd f x #[y, z] ts cap #[v, v2] hc0 hx (by simp [hv, hv2]) hcf R hc hK
theorem abideV {β : Type} {B : Nat} {J : β → World → Prop} (h : AbidesFrom B J) {s : β} {W W' : World} (hs : J s W) (hb : Below W.heap.size W W') : J s W' := h s W W' none hs ⟨hb.os, hb.tape, hb.output, hb.size, fun k hk _ => hb.block k hk⟩ (fun r e => by cases e)
set_option maxHeartbeats 2000000 in
theorem val1_in (F : Fence) (n : Nat) (hf : F.fn 123) (hro : F.round = none) (hn : 1 ≤ n) (lp Bs n₀ j cap AB : Nat) (a : Option Addr) (ev : Nat → Nat × Nat) (hj : j ≤ 65536) (J Jx : List { i : Nat // i < j } → World → Prop) (hJ : AbidesFrom AB J)
    (hY : ∀ pre x W, J pre W → pre.length < j → YieldAt F (n - 1) Tryz.prog lp #[.agg (edg (ev x.1)).toArray] W fun e W' =>
      (e = .returned (.bool true) ∧ J (pre ++ [x]) W' ∧ Below n₀ W W') ∨ (e = .returned (.bool false) ∧ Jx (pre ++ [x]) W'))
    (W : World) (hBn : Bs < n₀) (hnW : n₀ ≤ W.heap.size) (hBs : W.heap[Bs]? = some (.cells #[.slice a j cap] 23)) (hc : PrAt n₀ W a j cap ev) (h0 : J [] W) :
    CallsIn F n Tryz.prog 123 #[.func (.yield lp) #[] #[], .pointer (some ⟨Bs, 0, none⟩)] W fun e W' => (∃ v, e = .returned v) ∧
      ((∃ ys, ys = up j j ∧ J ys W') ∨ (∃ pre, True ∧ Jx pre W')) := by
  have hjI : (j : Int) ≤ 65536 := by omega
  have huH : Hid (Tryz.prog.underlying 71 = _) := Tryz.underlying71
  have hiH : Hid ((Tryz.prog.info? 71).map (·.size) = some 2) := by (show _ = _; kernel_rfl)
  have hcW : W.cell? ⟨Bs, 0, none⟩ = some (.slice a j cap) := by simp [World.cell?, hBs]
  refine callsIn_of_wp Tryz.func123 rfl hf ?_ hro
  simp only [Tryz.ntmps123, List.size_toArray, List.length_cons, List.length_nil, Nat.reduceAdd, Nat.reduceSub, Array.replicate_succ, Array.replicate_zero, List.push_toArray, List.append_toArray, List.nil_append, List.cons_append]
  gi_wp2
  gi_loopw [7] (fun u wr => ∃ k : Nat, k ≤ j ∧ u = .int .i64 (k : Int) ∧ J (up j k) wr ∧ Below n₀ W wr)
    (fun u _ => j - (intOf u).toNat)
  case atStart => exact ⟨0, Nat.zero_le _, rfl, h0, Below.refl _ _⟩
  case round =>
    obtain ⟨k, hk, rfl, hJs, hnx⟩ := hrel
    by_cases hlt : k < j
    · have hkI : (k : Int) < j := by omega
      have hki : (k : Int) ≤ 65536 := by omega
      obtain ⟨b, o, hix, hbn, hrg⟩ := (hc.below hnx) k hlt
      have hJ2 := abideV hJ hJs (boxed wr (.cells (edg (ev k)).toArray 71))
      obtain ⟨fn, tmps, assign, body, hy, hR⟩ := hY _ ⟨k, hlt⟩ _ hJ2 (by rw [up_len hk]; exact hlt)
      dsimp only at hy
      have hm := up_more hlt
      generalize ev k = x at *
      simp only [edg] at hrg hy hR
      have hrH : Hid (wr.rangeAt b o [.int .i64 (x.1 : Int), .int .i64 (x.2 : Int)]) := hrg
      have hbx := boxed wr (.cells (edg x).toArray 71)
      have hlw : Hid (n₀ ≤ wr.heap.size) := by have := hnx.size; show _ ≤ _; omega
      clear hrg hkI
      gi_wp2_with (refine inF_load_mid rfl 71 _ rfl b o rfl [.int .i64 (x.1 : Int), .int .i64 (x.2 : Int)] _ hrH.out huH.out rfl hiH.out ?_)
      refine hR.mono ?_
      rintro e W3 (⟨rfl, hJ3, hk3⟩ | ⟨rfl, hJx3⟩)
      · gi_wp2
        go_roundw
        case rel => exact ⟨k + 1, by omega, by go_num, by rw [hm]; exact hJ3, hnx.trans ((hbx.mono hlw.out).trans hk3)⟩
        case measure => simp [intOf]; omega
      · gi_wp2
        refine bodyPost_ret (results_none rfl _ _ _) rfl ?_
        exact ⟨⟨_, rfl⟩, .inr ⟨_, trivial, hJx3⟩⟩
    · have hkj : k = j := by omega
      have hJj : J (up j j) wr := by rw [hkj] at hJs; exact hJs
      subst hkj
      clear hJs
      gi_wp2
      go_end0
      first
        | exact ⟨⟨_, rfl⟩, .inl hJj⟩
        | exact ⟨⟨_, rfl⟩, .inl ⟨_, rfl, hJj⟩⟩
set_option maxHeartbeats 1000000 in
theorem val_any (a : Option Addr) (len cap : Nat) (w : World) : Calls Tryz.prog 90 #[.slice a len cap] w fun e w' => e = .returned (.func (.func 123) #[] #[.pointer (some ⟨w.heap.size, 0, none⟩)]) ∧ w' = w.alloc (.cells #[.slice a len cap] 23) := by
  go_enter Tryz.func90, Tryz.ntmps90
  go_wp2
  go_ret
  exact ⟨rfl, rfl⟩
theorem val_stops (F : Fence) (n : Nat) (hf : F.fn 123) (hro : F.round = none) (hn : 1 ≤ n) (Bs n₀ j cap : Nat) (a : Option Addr) (ev : Nat → Nat × Nat) (hj : j ≤ 65536) (w : World) (hB : Bs < n₀) (hn0 : n₀ ≤ w.heap.size)
    (hBs : w.heap[Bs]? = some (.cells #[.slice a j cap] 23)) (hc : PrAt n₀ w a j cap ev) :
    SeqStopsK F n Tryz.prog 123 #[.pointer (some ⟨Bs, 0, none⟩)] (fun x : { i : Nat // i < j } => #[.agg (edg (ev x.1)).toArray]) (Below n₀) (fun ys => ys = up j j) (fun _ => True) j w :=
  fun l J Jx W hW hJ _ hY h0 => val1_in F n hf hro hn l Bs n₀ j cap _ a ev hj J Jx hJ hY W hB (by have := hW.size; omega) ((hW.block Bs (by omega)).trans hBs) (hc.below (hW.mono hn0)) h0
end Go.Proofs.YtafefnkgdnmjbaaGreatDoor.pg
/- A store of one cell, what is left under a name of its own. -/
namespace Go.Proofs.YtafefnkgdnmjbaaGreatDoor.pg
open Go.ChangeShapes Go.WideShapes Go.ChangeAt Go.RowKit
set_option linter.unusedVariables false
set_option linter.unusedSimpArgs false
theorem wpList_puti {P : Program} {ops : Array Oper} {rest : List Oper} {o : Oper} {a : Act} {w : World} {Q : Exit → Act → World → Prop} (hgd : o.guard = none) (ty : TypeId) (x y : Operand) (ho : o.op = .store ty x y) (ad : Addr) (hx : a.eval x = .pointer (some ad)) (n : Int) (hy : a.eval y = (.int .i64 n)) (hi : (P.info? ty).map (·.size) = some 1) (v : Value) (hc : w.cell? ad = some v) (hf : w.frozen? ad = false)
    (h : ∀ W', W' = w.setCell ad (.int .i64 n) → wpList P ops Q rest (a.put o.dst undef) W') : wpList P ops Q (o :: rest) a w := wpList_plain hgd fun K hK => by
  have hr : (execOp a.eval o).run P w = .ok .skip (w.setCell ad (.int .i64 n)) := by
    cases hq : P.info? ty with
    | none => simp [hq] at hi
    | some i =>
      have hs : i.size = 1 := by simpa [hq] using hi
      unfold execOp
      simp only [ho, hx, hy]
      simp [Instr.storeAt, Instr.sureAddr, storeVar, sizeOf, typeInfo, hq, hs, Value.cells, go_sem, hc, hf]
  unfold Oper.wp
  rw [hr]
  exact hK _ _ (h _ rfl)
theorem wpList_putb {P : Program} {ops : Array Oper} {rest : List Oper} {o : Oper} {a : Act} {w : World} {Q : Exit → Act → World → Prop} (hgd : o.guard = none) (ty : TypeId) (x y : Operand) (ho : o.op = .store ty x y) (ad : Addr) (hx : a.eval x = .pointer (some ad)) (b : Bool) (hy : a.eval y = (.bool b)) (hi : (P.info? ty).map (·.size) = some 1) (v : Value) (hc : w.cell? ad = some v) (hf : w.frozen? ad = false)
    (h : ∀ W', W' = w.setCell ad (.bool b) → wpList P ops Q rest (a.put o.dst undef) W') : wpList P ops Q (o :: rest) a w := wpList_plain hgd fun K hK => by
  have hr : (execOp a.eval o).run P w = .ok .skip (w.setCell ad (.bool b)) := by
    cases hq : P.info? ty with
    | none => simp [hq] at hi
    | some i =>
      have hs : i.size = 1 := by simpa [hq] using hi
      unfold execOp
      simp only [ho, hx, hy]
      simp [Instr.storeAt, Instr.sureAddr, storeVar, sizeOf, typeInfo, hq, hs, Value.cells, go_sem, hc, hf]
  unfold Oper.wp
  rw [hr]
  exact hK _ _ (h _ rfl)
theorem wpList_puts {P : Program} {ops : Array Oper} {rest : List Oper} {o : Oper} {a : Act} {w : World} {Q : Exit → Act → World → Prop} (hgd : o.guard = none) (ty : TypeId) (x y : Operand) (ho : o.op = .store ty x y) (ad : Addr) (hx : a.eval x = .pointer (some ad)) (g : Option Addr) (n cap : Nat) (hy : a.eval y = (.slice g n cap)) (hi : (P.info? ty).map (·.size) = some 1) (v : Value) (hc : w.cell? ad = some v) (hf : w.frozen? ad = false)
    (h : ∀ W', W' = w.setCell ad (.slice g n cap) → wpList P ops Q rest (a.put o.dst undef) W') : wpList P ops Q (o :: rest) a w := wpList_plain hgd fun K hK => by
  have hr : (execOp a.eval o).run P w = .ok .skip (w.setCell ad (.slice g n cap)) := by
    cases hq : P.info? ty with
    | none => simp [hq] at hi
    | some i =>
      have hs : i.size = 1 := by simpa [hq] using hi
      unfold execOp
      simp only [ho, hx, hy]
      simp [Instr.storeAt, Instr.sureAddr, storeVar, sizeOf, typeInfo, hq, hs, Value.cells, go_sem, hc, hf]
  unfold Oper.wp
  rw [hr]
  exact hK _ _ (h _ rfl)
end Go.Proofs.YtafefnkgdnmjbaaGreatDoor.pg
