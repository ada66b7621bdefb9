/- The search goes on: by trying each place that may come next. -/
import Derived.Test.YtklpifammbnldaaM23
import Derived.Test.YtklpifammbnldaaM7
import Derived.Test.YtklpifammbnldaaM19
namespace Go.Proofs.Ytklpifammbnldaa.pg
open Go.ChangeShapes Go.WideShapes Go.ChangeAt Go.RowKit
set_option linter.unusedVariables false
set_option linter.unusedSimpArgs false
set_option maxRecDepth 100000
attribute [local go_sem ↓] Go.wp_at_zero Go.wp_at_succ
abbrev zTr : Array Value := #[.bool false, .bool false, .bool false, .bool false, .bool false, .bool false, .bool false, .bool false, .int .i64 0, .int .i64 0, .int .i64 0, .int .i64 0, .int .i64 0, .int .i64 0, .int .i64 0, .int .i64 0, .int .i64 0]
theorem zeroTr : ∀ w, (zeroValue 123).run Try.prog w = .ok (.agg zTr) w := fun w => by kernel_rfl
theorem zeroCo : ∀ w, (zeroValue 59).run Try.prog w = .ok (.agg z9) w := fun w => by kernel_rfl
theorem infoTr : (Try.prog.info? 123).map (·.size) = some 17 := by kernel_rfl
theorem infoUn : (Try.prog.info? 124).map (·.size) = some 0 := by kernel_rfl
theorem infoNl : (Try.prog.info? 3).map (fun i => (i.zero, i.size, i.bytes)) = some (some (.int .i64 0), 1, 8) := by kernel_rfl
theorem bld_tr (f : Nat → Bool) (c : List Int) : ∀ w, (Instr.build 123 #[(0, .agg (boolRow 8 f)), (1, .agg (vC c))]).run Try.prog w = .ok (.agg (kA f c)) w := fun w => by kernel_rfl
theorem bld_un : ∀ w, (Instr.build 124 #[]).run Try.prog w = .ok (.agg #[]) w := fun w => by kernel_rfl
theorem wpList_bldL {P : Program} {ops : Array Oper} {rest : List Oper} {o : Oper} {a : Act} {w : World} {Q : Exit → Act → World → Prop} (hgd : o.guard = none) (t : TypeId) (parts : Array (Nat × Operand)) (ho : o.op = .build t parts) (vs : Array (Nat × Value)) (hp : (parts.map fun (i, x) => (i, a.eval x)) = vs) (v : Value) (hr : ∀ w, (Instr.build t vs).run P w = .ok v w)
    (h : wpList P ops Q rest (a.put o.dst v) w) : wpList P ops Q (o :: rest) a w := wpList_plain hgd fun K hK => by
  unfold Oper.wp execOp
  simp only [ho, hp, Sem.run_bind, Sem.run_pure, Result.andThen_ok, hr]
  exact hK _ _ h
theorem new_row {X : World} {t : TypeId} {zs cs : Array Value} : ((X.alloc (.cells zs t)).setRow X.heap.size cs).heap[X.heap.size]? = some (.cells cs t) ∧ Below X.heap.size X ((X.alloc (.cells zs t)).setRow X.heap.size cs) :=
  ⟨setRow_heap _ _ _ _ _ _ (heap_alloc_new _ _), below_setRow (boxed _ _) (Nat.le_refl _) _⟩
theorem at_buildL {P : Program} {ops : Array Oper} {rest : List Oper} {op : Oper} {a : Act} {w : World} {Q : Exit → Act → World → Prop} (ty : TypeId) (x : Array (Nat × Operand)) (ho : op.op = .build ty x) (h : StopL (wpList P ops Q (op :: rest) a w)) : wpList P ops Q (op :: rest) a w := h
theorem at_allocL {P : Program} {ops : Array Oper} {rest : List Oper} {op : Oper} {a : Act} {w : World} {Q : Exit → Act → World → Prop} (ty : TypeId) (ho : op.op = .alloc ty) (h : StopL (wpList P ops Q (op :: rest) a w)) : wpList P ops Q (op :: rest) a w := h
/-- A call of three, or something else. -/
theorem reg_ca3 {P : Program} {ops : Array Oper} {Q : Exit → Act → World → Prop} {S : World → Prop} {fuel : Nat} {listed : Array Bool} {a : Act} {w : World} {i j : Nat} {o p : Oper} (hr : Region.ready .any ops listed = [i, j]) (ho : ops[i]? = some o) (hp : ops[j]? = some p) (hw : Region.wanted o (yielded ops a.tmps) = true) (hw2 : Region.wanted p (yielded ops a.tmps) = true) (f : FuncId) (x y z : Operand) (t u q : TypeId)
    (hc0 : o.op = .call { callee := .value (.func f), args := #[x, y, z], argTypes := #[t, u, q] }) (v v2 v3 : Value) (hx : a.eval x = v) (hy : a.eval y = v2) (hz : a.eval z = v3) (hcf : (callFunc f #[v, v2, v3]).run P w = .ok (.enter f #[v, v2, v3]) w) (R : Ending → World → Prop) (hc : Calls P f #[v, v2, v3] w R)
    (hK : ∀ e w', R e w' → ∃ v, e = .returned v ∧ S w' ∧ (S w' → wpAnyH P .any ops Q S fuel (listed.setIfInBounds i true) (a.put o.dst v) w'))
    (h2 : wpList P ops (okQ fun a' w' => S w' ∧ (S w' → wpAnyH P .any ops Q S fuel (listed.setIfInBounds j true) a' w')) [p] a w) :
    wpAnyH P .any ops Q S (fuel + 1) listed a w := by
  refine wpAnyH_ready hr (by simp) (AllReadyH.cons ho (fun K hK2 => ?_) (AllReadyH.cons hp (arm_list hw2 h2) AllReadyH.nil))
  rw [if_pos hw]
  have hrun : (execOp a.eval o).run P w = .ok (.enter f #[v, v2, v3]) w := by
    have hf : a.eval (.func f) = .func (.func f) #[] #[] := rfl
    simp [execOp, hc0, resolve, invoke, hx, hy, hz, hf, Deferred.ofValue, hcf]
  unfold Oper.wp
  rw [hrun, Oper.upon_enter]
  refine hc.mono fun e w' h => ?_
  obtain ⟨v, rfl, hs, hk⟩ := hK e w' h
  exact hK2.out _ _ hs hk
theorem reg_call3L {P : Program} {ops : Array Oper} {Q : Exit → Act → World → Prop} {S : World → Prop} {fuel : Nat} {listed : Array Bool} {a : Act} {w : World} {i : Nat} {o : Oper} (hr : Region.ready .any ops listed = [i]) (ho : ops[i]? = some o) (hw : Region.wanted o (yielded ops a.tmps) = true) (f : FuncId) (x y z : Operand) (t u q : TypeId)
    (hc0 : o.op = .call { callee := .value (.func f), args := #[x, y, z], argTypes := #[t, u, q] }) (v v2 v3 : Value) (hx : a.eval x = v) (hy : a.eval y = v2) (hz : a.eval z = v3) (hcf : (callFunc f #[v, v2, v3]).run P w = .ok (.enter f #[v, v2, v3]) w) (R : Ending → World → Prop) (hc : Calls P f #[v, v2, v3] w R)
    (hK : ∀ e w', R e w' → ∃ v, e = .returned v ∧ S w' ∧ (S w' → wpAnyH P .any ops Q S fuel (listed.setIfInBounds i true) (a.put o.dst v) w')) :
    wpAnyH P .any ops Q S (fuel + 1) listed a w := reg_call hr ho hw f #[x, y, z] #[t, u, q] hc0 #[v, v2, v3] (by simp [hx, hy, hz]) hcf R hc hK
theorem MapT.look_as {w : World} {b n : Nat} {T : List ((Nat → Bool) × List Int)} (h : MapT w b n T) {f : Nat → Bool} {c : List Int} (hc : c.length ≤ 8) (hi : ∀ z ∈ c, I64 z) {r : Bool} (hr : r = true ↔ ∃ q ∈ T, kA q.1 q.2 = kA f c) : (Instr.lookup 103 (.map (some b)) (.agg (kA f c)) true).run Try.prog w = .ok (.tuple #[.agg #[], .bool r]) w := by
  obtain ⟨r', h1, h2⟩ := h.look f c hc hi
  rw [h1, show r' = r from Bool.eq_iff_iff.mpr (h2.trans hr.symm)]
theorem wpList_mapT {ops : Array Oper} {rest : List Oper} {o : Oper} {a : Act} {w : World} {Q : Exit → Act → World → Prop} (hgd : o.guard = none) (x y z : Operand) (ho : o.op = .mapUpdate 103 x y z) (b : Nat) (hx : a.eval x = .map (some b)) (f : Nat → Bool) (c : List Int) (hy : a.eval y = .agg (kA f c)) (hz : a.eval z = .agg #[]) {n : Nat} {T : List ((Nat → Bool) × List Int)} (h : MapT w b n T) (hn : n < maxLen) (hc : c.length ≤ 8) (hi : ∀ z ∈ c, I64 z)
    (hK : ∀ w', MapT w' b (n + 1) ((f, c) :: T) → w.grownBy w' (some b) → wpList Try.prog ops Q rest (a.put o.dst undef) w') : wpList Try.prog ops Q (o :: rest) a w := by
  obtain ⟨w', hr, hm, hg⟩ := h.put hn f c hc hi
  refine wpList_plain hgd fun K' hK' => ?_
  have hrun : (execOp a.eval o).run Try.prog w = .ok .skip w' := by
    unfold execOp
    simp only [ho, hx, hy, hz]
    simp [hr, go_sem]
  unfold Oper.wp
  rw [hrun]
  exact hK' _ _ (hK w' hm hg)
theorem cutI (a : Option Addr) (n cap j : Nat) (hj : j ≤ cap) (hc : cap ≤ 9223372036854775807) : ∀ wx, (Instr.sliceAt 26 (.slice a n cap) none (some (.int .i64 (j : Int))) none).run Try.prog wx = .ok (.slice a j cap) wx := by
  intro wx
  have u := Try.underlying26
  have z := Try.sizeOf53
  have h1 : (j : Int) ≤ cap := by omega
  have h2 : ¬ (cap : Int) < j := by omega
  have h3 : ¬ (j : Int) < 0 := by omega
  cases a <;> simp [Instr.sliceAt, run_underlying u, asIntOf, go_sem, z, h1, h2, h3, hj]
theorem ix64 (S i : Nat) (hi : i < 8) : ∀ wx, (Instr.indexAt 104 (.pointer (some ⟨S, 22, none⟩)) (.int .i64 (i : Int))).run Try.prog wx = .ok (.pointer (some ⟨S, 22 + 8 * i, none⟩)) wx := by
  match i, hi with
  | 0, _ => exact fun _ => by kernel_rfl
  | 1, _ => exact fun _ => by kernel_rfl
  | 2, _ => exact fun _ => by kernel_rfl
  | 3, _ => exact fun _ => by kernel_rfl
  | 4, _ => exact fun _ => by kernel_rfl
  | 5, _ => exact fun _ => by kernel_rfl
  | 6, _ => exact fun _ => by kernel_rfl
  | 7, _ => exact fun _ => by kernel_rfl
/-- What the rounds of goOn keep. -/
structure LoI (k : Int) (rel : Cl → Cl → Bool) (h : List Cl) (T : List ((Nat → Bool) × List Int)) (N m : Nat) (f : Nat → Bool) (c : List Int) (i : Nat) (T' : List ((Nat → Bool) × List Int)) (N' : Nat) : Prop where
  v : vain k rel h T' (cntD f h.length + 1)
  q : ∀ q ∈ T', q ∈ T ∨ q = (f, c) ∨ cntD f h.length + 1 ≤ cntD q.1 h.length
  fr : fromB k rel h f c i = fsB k rel h f c
  n : N' ≤ N + 1 + i * 9 ^ (m + 1)
section
variable {w0 W : World} {k : Int} {h : List Cl} {ha : Option Addr} {hc : Nat} {rel : Cl → Cl → Bool} {S mb : Nat} {T T' T2 : List ((Nat → Bool) × List Int)} {N N' N2 m i : Nat} {o : List Int} {oa : Option Addr} {oc : Nat} {f : Nat → Bool} {c : List Int}
theorem LoI.start (hv : vain k rel h T (cntD f h.length)) (hw : wholeB h f = false) : LoI k rel h T N m f c 0 ((f, c) :: T) (N + 1) :=
  ⟨fun q hq hl => by
    rcases List.mem_cons.mp hq with rfl | hq
    · exact absurd hl (by show ¬ cntD f h.length + 1 ≤ cntD f h.length; omega)
    · exact hv q hq (by omega), fun q hq => by
    rcases List.mem_cons.mp hq with rfl | hq
    · exact .inr (.inl rfl)
    · exact .inl hq, (fsB_part hw c).symm, by simp⟩
theorem LoI.skip (g : LoI k rel h T N m f c i T' N') (hi : i < h.length) (hs : (mayB rel h f i && fitC k c (hf h i)) = false) : LoI k rel h T N m f c (i + 1) T' N' :=
  ⟨g.v, g.q, (fromB_skip hi hs).symm.trans g.fr, by have h1 := g.n; rw [Nat.succ_mul]; generalize 9 ^ (m + 1) = P at *; omega⟩
theorem LoI.miss (g : LoI k rel h T N m f c i T' N') (hi : i < h.length) (hm : mayB rel h f i = true) (hft : fitC k c (hf h i) = true) (hno : fsB k rel h (setD f i) (nxtC k c (hf h i)) = none) (hn2 : N2 + 1 ≤ N' + 9 ^ (m + 1)) (hv : vain k rel h T2 (cntD (setD f i) h.length)) (hq : ∀ q ∈ T2, q ∈ T' ∨ cntD (setD f i) h.length ≤ cntD q.1 h.length) : LoI k rel h T N m f c (i + 1) T2 N2 := by
  have e := cntD_set (may_not hm) hi
  rw [e] at hv hq
  refine ⟨hv, fun q hq2 => ?_, (fromB_miss hi (by rw [hm, hft]; rfl) hno).symm.trans g.fr, by have h1 := g.n; rw [Nat.succ_mul]; generalize 9 ^ (m + 1) = P at *; omega⟩
  rcases hq q hq2 with q1 | q1
  · exact g.q q q1
  · exact .inr (.inr q1)
theorem LoI.hit (g : LoI k rel h T N m f c i T' N') (hi : i < h.length) (hm : mayB rel h f i = true) (hft : fitC k c (hf h i) = true) {r : List Nat} (hyes : fsB k rel h (setD f i) (nxtC k c (hf h i)) = some r) : fsB k rel h f c = some (i :: r) :=
  g.fr.symm.trans (fromB_hit hi (by rw [hm, hft]; rfl) hyes)
theorem LoI.nn (g : LoI k rel h T N m f c i T' N') (hi : i < h.length) (hn : h.length ≤ 8) (hN2 : N2 + 1 ≤ N' + 9 ^ (m + 1)) : N2 + 1 ≤ N + 9 ^ (m + 1 + 1) := by
  have h1 := g.n
  have h2 := pow9 m
  have h3 : (i + 1) * 9 ^ (m + 1) ≤ 8 * 9 ^ (m + 1) := Nat.mul_le_mul_right _ (by omega)
  rw [Nat.succ_mul] at h3
  rw [Nat.pow_succ 9 (m + 1)]
  omega
theorem LoI.call (g : LoI k rel h T N m f c i T' N') (hi : i < h.length) (hn : h.length ≤ 8) (hN : N + 9 ^ (m + 1 + 1) ≤ 2 ^ 40) : N' + 9 ^ (m + 1) ≤ 2 ^ 40 := by
  have h1 := g.n
  have h2 := pow9 m
  have h3 : (i + 1) * 9 ^ (m + 1) ≤ 8 * 9 ^ (m + 1) := Nat.mul_le_mul_right _ (by omega)
  rw [Nat.succ_mul] at h3
  rw [Nat.pow_succ 9 (m + 1)] at hN
  omega
theorem LoI.stop (g : LoI k rel h T N m f c h.length T' N') (hv : vain k rel h T (cntD f h.length)) (hn : h.length ≤ 8) : fsB k rel h f c = none ∧ vain k rel h T' (cntD f h.length) ∧ (∀ q ∈ T', q ∈ T ∨ cntD f h.length ≤ cntD q.1 h.length) ∧ N' + 1 ≤ N + 9 ^ (m + 1 + 1) := by
  have e : fsB k rel h f c = none := g.fr.symm.trans (fromB_end c)
  refine ⟨e, fun q hq hl => ?_, fun q hq => ?_, ?_⟩
  · rcases g.q q hq with q1 | rfl | q1
    · exact hv q q1 hl
    · exact e
    · exact g.v q hq q1
  · rcases g.q q hq with q1 | rfl | q1
    · exact .inl q1
    · exact .inr (Nat.le_refl _)
    · exact .inr (by omega)
  · have h1 := g.n
    have h2 := pow9 m
    have h3 : h.length * 9 ^ (m + 1) ≤ 8 * 9 ^ (m + 1) := Nat.mul_le_mul_right _ hn
    rw [Nat.pow_succ 9 (m + 1)]
    omega
theorem vain_hit (hv : vain k rel h T (cntD f h.length)) (hn : h.length ≤ 8) (hcl : c.length ≤ 8) (htl : ∀ q ∈ T, q.2.length ≤ 8) (hq : ∃ q ∈ T, kA q.1 q.2 = kA f c) : fsB k rel h f c = none := by
  obtain ⟨q, hq, e⟩ := hq
  obtain ⟨e1, e2⟩ := kA_inj (htl q hq) hcl e
  have hs : ∀ b, b < h.length → q.1 b = f b := fun b hb => e1 b (by omega)
  have := hv q hq (by rw [cntD_same hs]; exact Nat.le_refl _)
  rw [← this]
  unfold fsB
  rw [e2]
  exact (fst0_same hs).symm
theorem ah_row (hi : i < 8) : (b8 fun j => ahR rel h ((8 * i + j) / 8) ((8 * i + j) % 8)) = b8 (ahR rel h i) := by
  have e : ∀ j, j < 8 → (8 * i + j) / 8 = i ∧ (8 * i + j) % 8 = j := fun j hj => by omega
  simp only [b8, (e 0 (by omega)).1, (e 0 (by omega)).2, (e 1 (by omega)).1, (e 1 (by omega)).2, (e 2 (by omega)).1, (e 2 (by omega)).2, (e 3 (by omega)).1, (e 3 (by omega)).2, (e 4 (by omega)).1, (e 4 (by omega)).2, (e 5 (by omega)).1, (e 5 (by omega)).2, (e 6 (by omega)).1, (e 6 (by omega)).2, (e 7 (by omega)).1, (e 7 (by omega)).2]
theorem own_cap {w : World} {lo e : Nat} {a : Option Addr} {cap : Nat} {l : List Int} {x : Int} (h : OwnL w lo e 1 a cap ((l ++ [x]).map chCells)) : l.length + 1 ≤ cap ∧ cap ≤ 9223372036854775807 ∧ a ≠ none := by
  have e0 : ((l ++ [x]).map chCells).length = l.length + 1 := by simp
  rcases h.2 with ⟨q1, q2⟩ | ⟨g, cap', cur, q1, _, _, q3, q4, _⟩
  · rw [e0] at q2; omega
  · simp only [Value.slice.injEq] at q1
    obtain ⟨rfl, _, rfl⟩ := q1
    rw [e0] at q3
    unfold maxLen at q4
    exact ⟨q3, by omega, by simp⟩
theorem GoS.other {X : World} {oa0 : Option Addr} (g : GoS w0 W X k h ha hc rel S mb T N o oa0 oa oc f c) (B : Nat) (h1 : W.heap.size + 1 < B) (h2 : S ≠ B) (h3 : mb ≠ B) (h4 : w0.heap.size ≤ B) (h5 : ∀ b ∈ blk oa, b ≠ B) (cs : Array Value) : GoS w0 W (X.setRow B cs) k h ha hc rel S mb T N o oa0 oa oc f c := by
  have hk : ∀ b, b ≠ B → (X.setRow B cs).heap[b]? = X.heap[b]? := fun b hb => setRow_other _ _ _ _ hb
  exact ⟨⟨(hk _ h2).trans g.g.s, g.g.m.on (hk _ h3), own_keep g.g.o fun b hb => hk b (h5 b hb), below_setRow g.g.b h4 _, g.g.d1, g.g.d2, g.g.n1, g.g.n2, g.g.n3, g.g.tl⟩, ⟨by rw [setRow_size]; exact g.fr.sz, fun b q1 q2 q3 q4 => (hk b (by omega)).trans (g.fr.k b q1 q2 q3 q4), g.fr.o⟩, (hk _ (by omega)).trans g.d, (hk _ (by omega)).trans g.c, g.l, g.ls, g.lm⟩
theorem GoS.back {X : World} {oa0 : Option Addr} {x : Int} (g : GoS w0 W X k h ha hc rel S mb T N (o ++ [x]) oa0 oa oc f c) (hne : oa ≠ none) : GoS w0 W (X.setCell ⟨S, 87, none⟩ (.slice oa o.length oc)) k h ha hc rel S mb T N o oa0 oa oc f c := by
  have ho : OwnL X w0.heap.size 3 1 oa oc (o.map chCells) := by
    have := own_cutL g.g.o (fun row hr => by obtain ⟨z, _, rfl⟩ := List.mem_map.mp hr; rfl) o.length (by simp) hne
    rwa [← List.map_take, List.take_left' rfl] at this
  have h1 := g.g.ord (o' := o) ho (Below.refl _ _) (Nat.le_refl _) (fun _ _ _ => rfl) (fun b hb => .inl hb)
  exact g.call h1 (Fr.ord (Nat.le_refl _) (fun _ _ _ => rfl) (fun b hb => .inl hb) _)
theorem run_lenI {o : Oper} {ρ : Operand → Value} (x : Operand) (ho : o.op = .call { callee := .builtin .len, args := #[x], argTypes := #[26] }) (g : Option Addr) (n c : Nat) (hx : ρ x = .slice g n c) (w : World) : (execOp ρ o).run Try.prog w = .ok (.value (.int .i64 (n : Int))) w := by
  have u := Try.underlying26
  simp [execOp, ho, resolve, invoke, builtin, hx, Builtin.len_, run_underlying u, go_sem]
theorem subI (n : Nat) (hn : n ≤ 8) : ∀ wx, (binOp .sub 3 (.int .i64 ((n + 1 : Nat) : Int)) (.int .i64 1)).run Try.prog wx = .ok (.int .i64 (n : Int)) wx := by
  match n, hn with
  | 0, _ => exact fun _ => by kernel_rfl
  | 1, _ => exact fun _ => by kernel_rfl
  | 2, _ => exact fun _ => by kernel_rfl
  | 3, _ => exact fun _ => by kernel_rfl
  | 4, _ => exact fun _ => by kernel_rfl
  | 5, _ => exact fun _ => by kernel_rfl
  | 6, _ => exact fun _ => by kernel_rfl
  | 7, _ => exact fun _ => by kernel_rfl
  | 8, _ => exact fun _ => by kernel_rfl
def StopR (p : Prop) : Prop := p
theorem stopR_in {p : Prop} (h : StopR p) : p := h
theorem stopR_out {p : Prop} (h : p) : StopR p := h
set_option maxHeartbeats 8000000 in
theorem goOn_part (m : Nat) (hn : h.length ≤ 8) (hRi : RightH k h) (hh : Rows w0 7 ha hc (h.map Cl.cells)) (hwh : wholeB h f = false) (hInv' : InvC k c (cntD f h.length)) (hg : GS w0 W k h ha hc rel S mb T N o oa oc) (hv' : vain k rel h T (cntD f h.length)) (hN' : N + 9 ^ (m + 1 + 1) ≤ 2 ^ 40) (ho' : o.length ≤ 8)
    (hih : ∀ (i : Nat) (X : World) (T' : List ((Nat → Bool) × List Int)) (N' : Nat) (oa' : Option Addr) (oc' : Nat), i < h.length → mayB rel h f i = true → fitC k c (hf h i) = true → GS w0 X k h ha hc rel S mb T' N' (o ++ [(i : Int)]) oa' oc' → vain k rel h T' (cntD f h.length + 1) → N' + 9 ^ (m + 1) ≤ 2 ^ 40 → Calls Try.prog 46 #[.pointer (some ⟨S, 0, none⟩), .agg (boolRow 8 (setD f i)), .agg (vC (nxtC k c (hf h i)))] X (GoP w0 X k h ha hc rel S mb T' N' (o ++ [(i : Int)]) oa' (setD f i) (nxtC k c (hf h i)) m)) :
    Calls Try.prog 46 #[.pointer (some ⟨S, 0, none⟩), .agg (boolRow 8 f), .agg (vC c)] W (GoP w0 W k h ha hc rel S mb T N o oa f c (m + 1)) := by
  have hIH : Hid _ := hih
  have hR : Hid (RightH k h) := hRi
  have hInv : Hid (InvC k c (cntD f h.length)) := hInv'
  have hv : Hid (vain k rel h T (cntD f h.length)) := hv'
  have hNN : Hid (N + 9 ^ (m + 1 + 1) ≤ 2 ^ 40) := hN'
  have hol : Hid (o.length ≤ 8) := ho'
  have hhH : Hid (Rows w0 7 ha hc (h.map Cl.cells)) := hh
  have hcl : Hid (c.length ≤ 8) := inv_le hInv' hRi.kd (Nat.le_trans (cntD_le f h.length) hn)
  have hci : Hid (∀ z ∈ c, I64 z) := hInv'.i
  have hcX : Hid (Try.prog.underlying 53 = _) := Try.underlying53
  have htl : Hid (∀ q ∈ T, q.2.length ≤ 8) := hg.tl
  have hL0 : Hid (LoI k rel h T N m f c 0 ((f, c) :: T) (N + 1)) := LoI.start hv' hwh
  have hwF : Hid (wholeB h f = false) := hwh
  obtain ⟨iN, hiN', hzN', hsN', hbN'⟩ := info_q infoNl
  have hiN : Hid (Try.prog.info? 3 = some iN) := hiN'
  have hzN : Hid _ := hzN'
  have hsN : Hid _ := hsN'
  have hbN : Hid _ := hbN'
  have hG0 : Hid (GoS w0 W ((W.alloc (oPl f)).alloc (.cells (vC c) TC)) k h ha hc rel S mb T N o oa oa oc f c) := GoS.start hg f c
  have hw : hasB f (lastK h h.length) = false := (has_whole hn f).trans hwh
  go_enter Try.func46, Try.ntmps46
  go_upto_region 1 with fail
  obtain ⟨X, hX⟩ : ∃ X, (W.alloc (oPl f)).alloc (.cells (vC c) TC) = X := ⟨_, rfl⟩
  rw [hX] at hG0 ⊢
  have hG : Hid (GoS w0 W X k h ha hc rel S mb T N o oa oa oc f c) := hG0
  clear hX hG0
  clear hih hRi hInv' hv' hN' ho' hh hg hwh hiN' hzN' hsN' hbN'
  have hS : Hid (Below X.heap.size X X.drew) := bey_drew X
  have hRd : Hid (∀ w', Below X.heap.size X w' → w'.rangeAt W.heap.size 0 (b8 f) ∧ w'.rangeAt S 14 (b8 (lastK h h.length))) := fun w' q => ⟨rng_blk (hG.out.below q).d, sr_rmust (hG.out.below q).g.s⟩
  refine wp_region_noPanic ?_
  refine wp_region_held_drew (S := fun w' => Below X.heap.size X w') (by kernel_rfl) hS.out (fun _ => ?_)
  refine reg_load (i := 0) rfl (by kernel_rfl) (by kernel_rfl) (by kernel_rfl) (fun _ _ _ _ h => h) rfl 101 _ rfl W.heap.size 0 rfl (b8 f) _ (fun w' q => (hRd.out w' q).1) Try.underlying101 rfl infoP8b hS.out ?_
  simp only [Act.put, List.getElem_toArray, List.getElem_cons_succ, List.getElem_cons_zero, List.setIfInBounds_toArray, List.set_cons_zero, List.set_cons_succ]
  refine reg_move (i := 1) rfl (by kernel_rfl) (by kernel_rfl) (by kernel_rfl) (fun _ _ _ _ h => h) rfl (.pointer (some ⟨S, 0, none⟩)) (fun _ => rfl) hS.out ?_
  simp only [Act.put, List.getElem_toArray, List.getElem_cons_succ, List.getElem_cons_zero, List.setIfInBounds_toArray, List.set_cons_zero, List.set_cons_succ]
  refine reg_move (i := 2) rfl (by kernel_rfl) (by kernel_rfl) (by kernel_rfl) (fun _ _ _ _ h => h) rfl (.pointer (some ⟨S, 0, none⟩)) (fun _ => rfl) hS.out ?_
  simp only [Act.put, List.getElem_toArray, List.getElem_cons_succ, List.getElem_cons_zero, List.setIfInBounds_toArray, List.set_cons_zero, List.set_cons_succ]
  refine reg_move (i := 3) rfl (by kernel_rfl) (by kernel_rfl) (by kernel_rfl) (fun _ _ _ _ h => h) rfl (.pointer (some ⟨S, 14, none⟩)) (fun _ => rfl) hS.out ?_
  simp only [Act.put, List.getElem_toArray, List.getElem_cons_succ, List.getElem_cons_zero, List.setIfInBounds_toArray, List.set_cons_zero, List.set_cons_succ]
  refine reg_load (i := 4) rfl (by kernel_rfl) (by kernel_rfl) (by kernel_rfl) (fun _ _ _ _ h => h) rfl 101 _ rfl S 14 rfl (b8 (lastK h h.length)) _ (fun w' q => (hRd.out w' q).2) Try.underlying101 rfl infoP8b hS.out ?_
  simp only [Act.put, List.getElem_toArray, List.getElem_cons_succ, List.getElem_cons_zero, List.setIfInBounds_toArray, List.set_cons_zero, List.set_cons_succ]
  refine reg_call2 (i := 5) (by kernel_rfl) rfl rfl 66 _ _ _ _ rfl (.agg (boolRow 8 f)) (.agg (boolRow 8 (lastK h h.length))) rfl rfl (cf_fn Try.func66 (by kernel_rfl) (by kernel_rfl) _ _) _ (has_any8 f (lastK h h.length) _) ?_
  rintro e1 X1 ⟨rfl, hb1⟩
  refine ⟨_, rfl, bthen hS.out hb1, fun _ => ?_⟩
  simp only [Act.put, List.getElem_toArray, List.getElem_cons_succ, List.getElem_cons_zero, List.setIfInBounds_toArray, List.set_cons_zero, List.set_cons_succ]
  rw [hw]
  refine wpAnyH_done (by kernel_rfl) (NoPanic.normal ?_) _
  have hG1 : Hid (GoS w0 W X1 k h ha hc rel S mb T N o oa oa oc f c) := hG.out.below (bthen hS.out hb1)
  clear hS hRd hb1 hG
  go_upto_region 3 with fail
  have hcP : Hid (Try.prog.underlying 101 = _) := Try.underlying101
  have hcC : Hid (Try.prog.underlying 59 = _) := Try.underlying59
  go_upto_region 4 with (first
    | ((with_reducible refine at_loadL 101 (.tmp 4) rfl ?_); refine stopL_out ?_; refine wpList_load_row rfl 101 _ rfl W.heap.size rfl _ _ _ _ hG1.out.d hcP.out rfl (infoP8 f) ?_)
    | ((with_reducible refine at_loadL 59 (.tmp 5) rfl ?_); refine stopL_out ?_; refine wpList_load_row rfl 59 _ rfl (W.heap.size + 1) rfl _ _ _ _ hG1.out.c hcC.out rfl infoC9 ?_)
    | ((with_reducible refine at_buildL 123 _ rfl ?_); refine stopL_out ?_; refine wpList_bldL rfl 123 _ rfl #[(0, .agg (boolRow 8 f)), (1, .agg (vC c))] (by simp only [List.map_toArray, List.map_cons, List.map_nil]; rfl) _ (bld_tr f c) ?_)
    | ((with_reducible refine at_allocL 123 rfl ?_); refine stopL_out ?_; refine wpList_alloc_big rfl 123 rfl zeroTr ?_)
    | ((with_reducible refine at_storeL 123 _ _ rfl ?_); refine stopL_out ?_; refine wpList_store_row rfl 123 _ _ rfl X1.heap.size (kA f c) rfl rfl _ _ (heap_alloc_new _ _) infoTr rfl (by simp [Value.oneCell']) ?_))
  obtain ⟨X2, hX2⟩ : ∃ X2, (X1.alloc (.cells zTr 123)).setRow X1.heap.size (kA f c) = X2 := ⟨_, rfl⟩
  have hG2 : Hid (GoS w0 W X2 k h ha hc rel S mb T N o oa oa oc f c ∧ X2.heap[X1.heap.size]? = some (.cells (kA f c) 123)) := by (rw [← hX2]; exact ⟨hG1.out.below new_row.2, new_row.1⟩)
  rw [hX2]
  generalize X1.heap.size = B7 at *
  clear hX2 hG1
  obtain ⟨r, hr⟩ : ∃ r : Bool, r = true ↔ ∃ q ∈ T, kA q.1 q.2 = kA f c := ⟨@decide _ (Classical.propDecidable _), @decide_eq_true_iff _ (Classical.propDecidable _)⟩
  have hrH : Hid (r = true ↔ ∃ q ∈ T, kA q.1 q.2 = kA f c) := hr
  clear hr
  have hS : Hid (Below X2.heap.size X2 X2.drew) := bey_drew X2
  have hRd : Hid (∀ w', Below X2.heap.size X2 w' → w'.cell? ⟨S, 86, none⟩ = some (.map (some mb)) ∧ w'.rangeAt B7 0 (kA f c).toList ∧ MapT w' mb N T) := fun w' q => ⟨sr_cell (hG2.out.1.below q).g.s sr_map, rng_blk (blk_on hG2.out.2 q), (hG2.out.1.below q).g.m⟩
  refine wp_region_noPanic ?_
  refine wp_region_held_drew (S := fun w' => Below X2.heap.size X2 w') (by kernel_rfl) hS.out (fun _ => ?_)
  refine reg_move (i := 0) rfl (by kernel_rfl) (by kernel_rfl) (by kernel_rfl) (fun _ _ _ _ h => h) rfl (.pointer (some ⟨S, 0, none⟩)) (fun _ => rfl) hS.out ?_
  simp only [Act.put, List.getElem_toArray, List.getElem_cons_succ, List.getElem_cons_zero, List.setIfInBounds_toArray, List.set_cons_zero, List.set_cons_succ]
  refine reg_move (i := 1) rfl (by kernel_rfl) (by kernel_rfl) (by kernel_rfl) (fun _ _ _ _ h => h) rfl (.pointer (some ⟨S, 0, none⟩)) (fun _ => rfl) hS.out ?_
  simp only [Act.put, List.getElem_toArray, List.getElem_cons_succ, List.getElem_cons_zero, List.setIfInBounds_toArray, List.set_cons_zero, List.set_cons_succ]
  refine reg_move (i := 2) rfl (by kernel_rfl) (by kernel_rfl) (by kernel_rfl) (fun _ _ _ _ h => h) rfl (.pointer (some ⟨S, 86, none⟩)) (fun _ => rfl) hS.out ?_
  simp only [Act.put, List.getElem_toArray, List.getElem_cons_succ, List.getElem_cons_zero, List.setIfInBounds_toArray, List.set_cons_zero, List.set_cons_succ]
  refine reg_load1 (i := 3) rfl (by kernel_rfl) (by kernel_rfl) (by kernel_rfl) (fun _ _ _ _ h => h) rfl 103 _ rfl ⟨S, 86, none⟩ rfl _ Try.underlying103 rfl (.map (some mb)) (fun w' q => (hRd.out w' q).1) hS.out ?_
  simp only [Act.put, List.getElem_toArray, List.getElem_cons_succ, List.getElem_cons_zero, List.setIfInBounds_toArray, List.set_cons_zero, List.set_cons_succ]
  refine reg_load (i := 4) rfl (by kernel_rfl) (by kernel_rfl) (by kernel_rfl) (fun _ _ _ _ h => h) rfl 123 _ rfl B7 0 rfl (kA f c).toList _ (fun w' q => (hRd.out w' q).2.1) Try.underlying123 rfl infoTr hS.out ?_
  simp only [Act.put, List.getElem_toArray, List.getElem_cons_succ, List.getElem_cons_zero, List.setIfInBounds_toArray, List.set_cons_zero, List.set_cons_succ]
  refine reg_val (i := 5) rfl (by kernel_rfl) (by kernel_rfl) (by kernel_rfl) (fun _ _ _ _ h => h) rfl (.tuple #[.agg #[], .bool r]) (fun w' q => by unfold execOp; exact run_val2 ((hRd.out w' q).2.2.look_as hcl.out hci.out hrH.out)) hS.out ?_
  simp only [Act.put, List.getElem_toArray, List.getElem_cons_succ, List.getElem_cons_zero, List.setIfInBounds_toArray, List.set_cons_zero, List.set_cons_succ]
  refine reg_move (i := 6) rfl (by kernel_rfl) (by kernel_rfl) (by kernel_rfl) (fun _ _ _ _ h => h) rfl (.tuple #[.agg #[], .bool r]) (fun _ => rfl) hS.out ?_
  simp only [Act.put, List.getElem_toArray, List.getElem_cons_succ, List.getElem_cons_zero, List.setIfInBounds_toArray, List.set_cons_zero, List.set_cons_succ]
  refine reg_move (i := 7) rfl (by kernel_rfl) (by kernel_rfl) (by kernel_rfl) (fun _ _ _ _ h => h) rfl (.agg #[]) (fun _ => rfl) hS.out ?_
  simp only [Act.put, List.getElem_toArray, List.getElem_cons_succ, List.getElem_cons_zero, List.setIfInBounds_toArray, List.set_cons_zero, List.set_cons_succ]
  refine reg_move (i := 8) rfl (by kernel_rfl) (by kernel_rfl) (by kernel_rfl) (fun _ _ _ _ h => h) rfl (.bool r) (fun _ => rfl) hS.out ?_
  simp only [Act.put, List.getElem_toArray, List.getElem_cons_succ, List.getElem_cons_zero, List.setIfInBounds_toArray, List.set_cons_zero, List.set_cons_succ]
  refine reg_one (i := 9) (by kernel_rfl) rfl rfl (wpList_alloc_big rfl 124 rfl zeroU (wpList_nil (And.intro (bthen hS.out (boxed _ _)) fun _ => ?_)))
  simp only [Act.put, List.getElem_toArray, List.getElem_cons_succ, List.getElem_cons_zero, List.setIfInBounds_toArray, List.set_cons_zero, List.set_cons_succ]
  refine reg_one (i := 10) (by kernel_rfl) rfl rfl (wpList_store_row rfl 124 _ _ rfl X2.drew.heap.size #[] rfl rfl _ _ (heap_alloc_new _ _) infoUn rfl (by simp) (wpList_nil (And.intro (below_setRow (bthen hS.out (boxed _ _)) hS.out.size _) fun _ => ?_)))
  simp only [Act.put, List.getElem_toArray, List.getElem_cons_succ, List.getElem_cons_zero, List.setIfInBounds_toArray, List.set_cons_zero, List.set_cons_succ]
  refine reg_move (i := 11) rfl (by kernel_rfl) (by kernel_rfl) (by kernel_rfl) (fun _ _ _ _ h => h) rfl (.bool r) (fun _ => rfl) (below_setRow (bthen hS.out (boxed _ _)) hS.out.size _) ?_
  simp only [Act.put, List.getElem_toArray, List.getElem_cons_succ, List.getElem_cons_zero, List.setIfInBounds_toArray, List.set_cons_zero, List.set_cons_succ]
  refine wpAnyH_done (by kernel_rfl) (NoPanic.normal ?_) _
  obtain ⟨X3, hX3⟩ : ∃ X3, (X2.drew.alloc (.cells #[] 124)).setRow X2.drew.heap.size #[] = X3 := ⟨_, rfl⟩
  have hG3 : Hid (GoS w0 W X3 k h ha hc rel S mb T N o oa oa oc f c ∧ X3.heap[B7]? = some (.cells (kA f c) 123)) := by (rw [← hX3]; have hb := below_setRow (bthen hS.out (boxed _ (.cells #[] 124))) hS.out.size #[]; exact ⟨hG2.out.1.below hb, blk_on hG2.out.2 hb⟩)
  rw [hX3]
  clear hX3 hG2 hS hRd
  cases r with
  | true =>
    go_wp2
    go_ret
    have e : fsB k rel h f c = none := vain_hit hv.out hn hcl.out htl.out (hrH.out.mp (by first | rfl | trivial))
    exact ⟨T, N, oa, oc, by rw [e]; rfl, by rw [e]; simpa using hG3.out.1.g, hG3.out.1.fr, by have := pow9 (m + 1); omega, fun _ => ⟨hv.out, fun q hq => .inl hq⟩⟩
  | false =>
    clear hrH
    go_upto_region 7 with fail
    have hTd : Hid (GoS w0 W X3.drew k h ha hc rel S mb T N o oa oa oc f c) := hG3.out.1.below (bey_drew X3)
    have hRd : Hid (∀ w' : World, w'.heap[S]? = X3.drew.heap[S]? ∧ w'.heap[B7]? = X3.drew.heap[B7]? → w'.cell? ⟨S, 86, none⟩ = some (.map (some mb)) ∧ w'.rangeAt B7 0 (kA f c).toList) := fun w' q => ⟨sr_cell (q.1.trans hTd.out.g.s) sr_map, rng_blk (q.2.trans (blk_on hG3.out.2 (bey_drew X3)))⟩
    have hS : Hid (X3.drew.heap[S]? = X3.drew.heap[S]? ∧ X3.drew.heap[B7]? = X3.drew.heap[B7]?) := ⟨rfl, rfl⟩
    have hB7 : Hid (B7 ≠ mb ∧ B7 < X3.drew.heap.size) := ⟨fun q => by
        have h1 := hG3.out.2
        rw [q] at h1
        obtain ⟨D, ⟨es, cl, h2, _⟩, _⟩ := hG3.out.1.g.m
        rw [h2] at h1
        exact absurd h1 (by simp), (Array.getElem?_eq_some_iff.mp hG3.out.2).1⟩
    refine wp_region_noPanic ?_
    refine wp_region_held_drew (S := fun w' => w'.heap[S]? = X3.drew.heap[S]? ∧ w'.heap[B7]? = X3.drew.heap[B7]?) (by kernel_rfl) hS.out (fun _ => ?_)
    refine reg_move (i := 0) rfl (by kernel_rfl) (by kernel_rfl) (by kernel_rfl) (fun _ _ _ _ h => h) rfl (.pointer (some ⟨S, 0, none⟩)) (fun _ => rfl) hS.out ?_
    simp only [Act.put, List.getElem_toArray, List.getElem_cons_succ, List.getElem_cons_zero, List.setIfInBounds_toArray, List.set_cons_zero, List.set_cons_succ]
    refine reg_move (i := 1) rfl (by kernel_rfl) (by kernel_rfl) (by kernel_rfl) (fun _ _ _ _ h => h) rfl (.pointer (some ⟨S, 0, none⟩)) (fun _ => rfl) hS.out ?_
    simp only [Act.put, List.getElem_toArray, List.getElem_cons_succ, List.getElem_cons_zero, List.setIfInBounds_toArray, List.set_cons_zero, List.set_cons_succ]
    refine reg_move (i := 2) rfl (by kernel_rfl) (by kernel_rfl) (by kernel_rfl) (fun _ _ _ _ h => h) rfl (.pointer (some ⟨S, 86, none⟩)) (fun _ => rfl) hS.out ?_
    simp only [Act.put, List.getElem_toArray, List.getElem_cons_succ, List.getElem_cons_zero, List.setIfInBounds_toArray, List.set_cons_zero, List.set_cons_succ]
    refine reg_load1 (i := 3) rfl (by kernel_rfl) (by kernel_rfl) (by kernel_rfl) (fun _ _ _ _ h => h) rfl 103 _ rfl ⟨S, 86, none⟩ rfl _ Try.underlying103 rfl (.map (some mb)) (fun w' q => (hRd.out w' q).1) hS.out ?_
    simp only [Act.put, List.getElem_toArray, List.getElem_cons_succ, List.getElem_cons_zero, List.setIfInBounds_toArray, List.set_cons_zero, List.set_cons_succ]
    refine reg_load (i := 4) rfl (by kernel_rfl) (by kernel_rfl) (by kernel_rfl) (fun _ _ _ _ h => h) rfl 123 _ rfl B7 0 rfl (kA f c).toList _ (fun w' q => (hRd.out w' q).2) Try.underlying123 rfl infoTr hS.out ?_
    simp only [Act.put, List.getElem_toArray, List.getElem_cons_succ, List.getElem_cons_zero, List.setIfInBounds_toArray, List.set_cons_zero, List.set_cons_succ]
    refine reg_move (i := 5) rfl (by kernel_rfl) (by kernel_rfl) (by kernel_rfl) (fun _ _ _ _ h => h) rfl (.agg #[]) (fun wx => by unfold execOp; exact run_val2 (by simp only [List.map_toArray, List.map_nil]; exact bld_un wx)) hS.out ?_
    simp only [Act.put, List.getElem_toArray, List.getElem_cons_succ, List.getElem_cons_zero, List.setIfInBounds_toArray, List.set_cons_zero, List.set_cons_succ]
    refine reg_one (i := 6) (by kernel_rfl) rfl rfl (wpList_mapT rfl _ _ _ rfl mb rfl f c rfl rfl hTd.out.g.m (by have := pow9 (m + 1); have := hNN.out; unfold maxLen; omega) hcl.out hci.out fun X4 hm4 hg4 => wpList_nil (And.intro ⟨hg4.block _ hTd.out.g.lt.1 (fun q => hTd.out.g.n1 (Option.some.inj q)), hg4.block _ hB7.out.2 (fun q => hB7.out.1 (Option.some.inj q))⟩ fun _ => ?_))
    simp only [Act.put, List.getElem_toArray, List.getElem_cons_succ, List.getElem_cons_zero, List.setIfInBounds_toArray, List.set_cons_zero, List.set_cons_succ]
    refine wpAnyH_done (by kernel_rfl) (NoPanic.normal ?_) _
    have hG4 : Hid (GoS w0 W X4 k h ha hc rel S mb ((f, c) :: T) (N + 1) o oa oa oc f c) := hTd.out.tried hm4 hg4 (fun q hq => by
      rcases List.mem_cons.mp hq with rfl | hq
      · exact hcl.out
      · exact hTd.out.g.tl q hq)
    have c13 : X4.cell? ⟨S, 13, none⟩ = some (.slice ha h.length hc) := sr_cell hG4.out.g.s sr_calls
    clear hTd hRd hS hB7 hG3 hm4 hg4
    go_wp2
    clear c13
    go_loopw [45] (fun u wr => ∃ i : Nat, i ≤ h.length ∧ u = .int .i64 (i : Int) ∧ Hid (∃ (T' : List ((Nat → Bool) × List Int)) (N' : Nat) (oa' : Option Addr) (oc' : Nat), GoS w0 W wr k h ha hc rel S mb T' N' o oa oa' oc' f c ∧ LoI k rel h T N m f c i T' N')) (fun u _ => h.length - (intOf u).toNat)
    case atStart => exact ⟨0, Nat.zero_le _, rfl, (f, c) :: T, N + 1, oa, oc, hG4.out, hL0.out⟩
    case round =>
      obtain ⟨i, hi, rfl, hst⟩ := hrel
      obtain ⟨T', N', oa', oc', hG0, hL1⟩ := hst.out
      have hG : Hid (GoS w0 W wr k h ha hc rel S mb T' N' o oa oa' oc' f c) := hG0
      have hL : Hid (LoI k rel h T N m f c i T' N') := hL1
      clear hst hG0 hL1 hG4 hL0
      by_cases hlt : i < h.length
      · have hiI : (i : Int) < h.length := by omega
        have hi8 : i < 8 := by omega
        obtain ⟨b1, o1, x1, _, r1⟩ := cl_ix (hhH.out.later hG.out.g.b) hlt
        obtain ⟨x, hx⟩ : ∃ x, hf h i = x := ⟨_, rfl⟩
        have hxH : Hid (hf h i = x) := hx
        rw [hx] at r1
        have r1H : Hid (wr.rangeAt b1 o1 [.int .i64 x.go, .int .i64 x.d, .int .i64 x.inn, .int .i64 x.out, .bool x.em, .int .i64 x.bg, .int .i64 x.en]) := r1
        clear r1 hx
        go_upto_region 11 with ((with_reducible refine at_loadL 53 (.tmp 48) rfl ?_); refine stopL_out ?_; refine wpList_load_mid rfl 53 _ rfl b1 o1 rfl [.int .i64 x.go, .int .i64 x.d, .int .i64 x.inn, .int .i64 x.out, .bool x.em, .int .i64 x.bg, .int .i64 x.en] _ r1H.out hcX.out rfl infoX ?_)
        have hGY : Hid (GoS w0 W (wr.alloc (oCl x)) k h ha hc rel S mb T' N' o oa oa' oc' f c ∧ (wr.alloc (oCl x)).heap[wr.heap.size]? = some (oCl x)) := ⟨hG.out.below (boxed _ _), heap_alloc_new _ _⟩
        obtain ⟨Y, hY⟩ : ∃ Y, wr.alloc (oCl x) = Y := ⟨_, rfl⟩
        rw [hY] at hGY ⊢
        generalize wr.heap.size = CB at *
        clear hG r1H hY x1
        have xd := ixp8 W.heap.size i hi8
        have xa := ix64 S i hi8
        have hS : Hid (Below Y.heap.size Y Y.drew) := bey_drew Y
        have hRd : Hid (∀ w', Below Y.heap.size Y w' → w'.cell? ⟨W.heap.size, i, none⟩ = some (.bool (f i)) ∧ w'.rangeAt W.heap.size 0 (b8 f) ∧ w'.rangeAt S (22 + 8 * i) (b8 (ahR rel h i))) := fun w' q => ⟨cell_lc (hGY.out.1.below q).d (boolRow_at hi8), rng_blk (hGY.out.1.below q).d, by have := sr_rahd (hGY.out.1.below q).g.s hi8; rw [ah_row hi8] at this; exact this⟩
        refine wp_region_noPanic ?_
        refine wp_region_held_drew (S := fun w' => Below Y.heap.size Y w') (by kernel_rfl) hS.out (fun _ => ?_)
        refine reg_move (i := 0) rfl (by kernel_rfl) (by kernel_rfl) (by kernel_rfl) (fun _ _ _ _ h => h) rfl (.int .i64 (i : Int)) (fun _ => rfl) hS.out ?_
        simp only [Act.put, List.getElem_toArray, List.getElem_cons_succ, List.getElem_cons_zero, List.setIfInBounds_toArray, List.set_cons_zero, List.set_cons_succ]
        refine reg_move (i := 1) rfl (by kernel_rfl) (by kernel_rfl) (by kernel_rfl) (fun _ _ _ _ h => h) rfl (.pointer (some ⟨W.heap.size, i, none⟩)) (fun wx => by unfold execOp; exact run_value_of (xd wx)) hS.out ?_
        simp only [Act.put, List.getElem_toArray, List.getElem_cons_succ, List.getElem_cons_zero, List.setIfInBounds_toArray, List.set_cons_zero, List.set_cons_succ]
        refine reg_load1 (i := 2) rfl (by kernel_rfl) (by kernel_rfl) (by kernel_rfl) (fun _ _ _ _ h => h) rfl 4 _ rfl ⟨W.heap.size, i, none⟩ rfl _ Try.underlying4 rfl (.bool (f i)) (fun w' q => (hRd.out w' q).1) hS.out ?_
        simp only [Act.put, List.getElem_toArray, List.getElem_cons_succ, List.getElem_cons_zero, List.setIfInBounds_toArray, List.set_cons_zero, List.set_cons_succ]
        refine reg_move (i := 3) rfl (by kernel_rfl) (by kernel_rfl) (by kernel_rfl) (fun _ _ _ _ h => h) rfl (.bool (f i)) (fun _ => rfl) hS.out ?_
        simp only [Act.put, List.getElem_toArray, List.getElem_cons_succ, List.getElem_cons_zero, List.setIfInBounds_toArray, List.set_cons_zero, List.set_cons_succ]
        have hmy : Hid (mayB rel h f i = (!f i && hasB f (ahR rel h i))) := has_may hn hlt f
        obtain ⟨d, hd⟩ : ∃ d, f i = d := ⟨_, rfl⟩
        rw [hd] at hmy ⊢
        have hdH : Hid (f i = d) := hd
        clear hd
        cases d with
        | true =>
          refine reg_skipL (i := 4) rfl (by kernel_rfl) (by kernel_rfl) (by kernel_rfl) (fun _ _ _ _ h => h) rfl hS.out ?_
          simp only [Act.put, List.getElem_toArray, List.getElem_cons_succ, List.getElem_cons_zero, List.setIfInBounds_toArray, List.set_cons_zero, List.set_cons_succ]
          refine reg_skipL (i := 5) rfl (by kernel_rfl) (by kernel_rfl) (by kernel_rfl) (fun _ _ _ _ h => h) rfl hS.out ?_
          simp only [Act.put, List.getElem_toArray, List.getElem_cons_succ, List.getElem_cons_zero, List.setIfInBounds_toArray, List.set_cons_zero, List.set_cons_succ]
          refine reg_skipL (i := 6) rfl (by kernel_rfl) (by kernel_rfl) (by kernel_rfl) (fun _ _ _ _ h => h) rfl hS.out ?_
          simp only [Act.put, List.getElem_toArray, List.getElem_cons_succ, List.getElem_cons_zero, List.setIfInBounds_toArray, List.set_cons_zero, List.set_cons_succ]
          refine reg_skipL (i := 7) rfl (by kernel_rfl) (by kernel_rfl) (by kernel_rfl) (fun _ _ _ _ h => h) rfl hS.out ?_
          simp only [Act.put, List.getElem_toArray, List.getElem_cons_succ, List.getElem_cons_zero, List.setIfInBounds_toArray, List.set_cons_zero, List.set_cons_succ]
          refine reg_skipL (i := 8) rfl (by kernel_rfl) (by kernel_rfl) (by kernel_rfl) (fun _ _ _ _ h => h) rfl hS.out ?_
          simp only [Act.put, List.getElem_toArray, List.getElem_cons_succ, List.getElem_cons_zero, List.setIfInBounds_toArray, List.set_cons_zero, List.set_cons_succ]
          refine reg_skipL (i := 9) rfl (by kernel_rfl) (by kernel_rfl) (by kernel_rfl) (fun _ _ _ _ h => h) rfl hS.out ?_
          simp only [Act.put, List.getElem_toArray, List.getElem_cons_succ, List.getElem_cons_zero, List.setIfInBounds_toArray, List.set_cons_zero, List.set_cons_succ]
          refine reg_skipL (i := 10) rfl (by kernel_rfl) (by kernel_rfl) (by kernel_rfl) (fun _ _ _ _ h => h) rfl hS.out ?_
          simp only [Act.put, List.getElem_toArray, List.getElem_cons_succ, List.getElem_cons_zero, List.setIfInBounds_toArray, List.set_cons_zero, List.set_cons_succ]
          refine reg_skipL (i := 11) rfl (by kernel_rfl) (by kernel_rfl) (by kernel_rfl) (fun _ _ _ _ h => h) rfl hS.out ?_
          simp only [Act.put, List.getElem_toArray, List.getElem_cons_succ, List.getElem_cons_zero, List.setIfInBounds_toArray, List.set_cons_zero, List.set_cons_succ]
          refine reg_skipL (i := 12) rfl (by kernel_rfl) (by kernel_rfl) (by kernel_rfl) (fun _ _ _ _ h => h) rfl hS.out ?_
          simp only [Act.put, List.getElem_toArray, List.getElem_cons_succ, List.getElem_cons_zero, List.setIfInBounds_toArray, List.set_cons_zero, List.set_cons_succ]
          refine reg_move (i := 13) rfl (by kernel_rfl) (by kernel_rfl) (by kernel_rfl) (fun _ _ _ _ h => h) rfl (.bool true) (fun _ => rfl) hS.out ?_
          simp only [Act.put, List.getElem_toArray, List.getElem_cons_succ, List.getElem_cons_zero, List.setIfInBounds_toArray, List.set_cons_zero, List.set_cons_succ]
          refine wpAnyH_done (by kernel_rfl) (NoPanic.normal ?_) _
          have hG5 : Hid (GoS w0 W Y.drew k h ha hc rel S mb T' N' o oa oa' oc' f c) := hGY.out.1.below hS.out
          have hL5 : Hid (LoI k rel h T N m f c (i + 1) T' N') := hL.out.skip hlt (by rw [hmy.out]; rfl)
          clear hRd hS hGY hL hmy hxH
          go_wp2
          go_roundw
          case rel => exact ⟨i + 1, by omega, by go_num, T', N', oa', oc', hG5.out, hL5.out⟩
          case measure => simp [intOf]; omega
        | false =>
          refine reg_load (i := 4) rfl (by kernel_rfl) (by kernel_rfl) (by kernel_rfl) (fun _ _ _ _ h => h) rfl 101 _ rfl W.heap.size 0 rfl (b8 f) _ (fun w' q => (hRd.out w' q).2.1) Try.underlying101 rfl infoP8b hS.out ?_
          simp only [Act.put, List.getElem_toArray, List.getElem_cons_succ, List.getElem_cons_zero, List.setIfInBounds_toArray, List.set_cons_zero, List.set_cons_succ]
          refine reg_move (i := 5) rfl (by kernel_rfl) (by kernel_rfl) (by kernel_rfl) (fun _ _ _ _ h => h) rfl (.pointer (some ⟨S, 0, none⟩)) (fun _ => rfl) hS.out ?_
          simp only [Act.put, List.getElem_toArray, List.getElem_cons_succ, List.getElem_cons_zero, List.setIfInBounds_toArray, List.set_cons_zero, List.set_cons_succ]
          refine reg_move (i := 6) rfl (by kernel_rfl) (by kernel_rfl) (by kernel_rfl) (fun _ _ _ _ h => h) rfl (.int .i64 (i : Int)) (fun _ => rfl) hS.out ?_
          simp only [Act.put, List.getElem_toArray, List.getElem_cons_succ, List.getElem_cons_zero, List.setIfInBounds_toArray, List.set_cons_zero, List.set_cons_succ]
          refine reg_move (i := 7) rfl (by kernel_rfl) (by kernel_rfl) (by kernel_rfl) (fun _ _ _ _ h => h) rfl (.pointer (some ⟨S, 0, none⟩)) (fun _ => rfl) hS.out ?_
          simp only [Act.put, List.getElem_toArray, List.getElem_cons_succ, List.getElem_cons_zero, List.setIfInBounds_toArray, List.set_cons_zero, List.set_cons_succ]
          refine reg_move (i := 8) rfl (by kernel_rfl) (by kernel_rfl) (by kernel_rfl) (fun _ _ _ _ h => h) rfl (.pointer (some ⟨S, 22, none⟩)) (fun _ => rfl) hS.out ?_
          simp only [Act.put, List.getElem_toArray, List.getElem_cons_succ, List.getElem_cons_zero, List.setIfInBounds_toArray, List.set_cons_zero, List.set_cons_succ]
          refine reg_move (i := 9) rfl (by kernel_rfl) (by kernel_rfl) (by kernel_rfl) (fun _ _ _ _ h => h) rfl (.pointer (some ⟨S, 22 + 8 * i, none⟩)) (fun wx => by unfold execOp; exact run_value_of (xa wx)) hS.out ?_
          simp only [Act.put, List.getElem_toArray, List.getElem_cons_succ, List.getElem_cons_zero, List.setIfInBounds_toArray, List.set_cons_zero, List.set_cons_succ]
          refine reg_load (i := 10) rfl (by kernel_rfl) (by kernel_rfl) (by kernel_rfl) (fun _ _ _ _ h => h) rfl 101 _ rfl S (22 + 8 * i) rfl (b8 (ahR rel h i)) _ (fun w' q => (hRd.out w' q).2.2) Try.underlying101 rfl infoP8b hS.out ?_
          simp only [Act.put, List.getElem_toArray, List.getElem_cons_succ, List.getElem_cons_zero, List.setIfInBounds_toArray, List.set_cons_zero, List.set_cons_succ]
          refine reg_call2 (i := 11) (by kernel_rfl) rfl rfl 66 _ _ _ _ rfl (.agg (boolRow 8 f)) (.agg (boolRow 8 (ahR rel h i))) rfl rfl (cf_fn Try.func66 (by kernel_rfl) (by kernel_rfl) _ _) _ (has_any8 f (ahR rel h i) _) ?_
          rintro e1 Y1 ⟨rfl, hb1⟩
          refine ⟨_, rfl, bthen hS.out hb1, fun _ => ?_⟩
          simp only [Act.put, List.getElem_toArray, List.getElem_cons_succ, List.getElem_cons_zero, List.setIfInBounds_toArray, List.set_cons_zero, List.set_cons_succ]
          obtain ⟨d, hd⟩ : ∃ d, hasB f (ahR rel h i) = d := ⟨_, rfl⟩
          rw [hd] at hmy ⊢
          clear hd
          refine reg_move (i := 12) rfl (by kernel_rfl) (by kernel_rfl) (by kernel_rfl) (fun _ _ _ _ h => h) rfl (.bool (!d)) (fun _ => rfl) (bthen hS.out hb1) ?_
          simp only [Act.put, List.getElem_toArray, List.getElem_cons_succ, List.getElem_cons_zero, List.setIfInBounds_toArray, List.set_cons_zero, List.set_cons_succ]
          refine reg_move (i := 13) rfl (by kernel_rfl) (by kernel_rfl) (by kernel_rfl) (fun _ _ _ _ h => h) rfl (.bool (!d)) (fun _ => rfl) (bthen hS.out hb1) ?_
          simp only [Act.put, List.getElem_toArray, List.getElem_cons_succ, List.getElem_cons_zero, List.setIfInBounds_toArray, List.set_cons_zero, List.set_cons_succ]
          refine wpAnyH_done (by kernel_rfl) (NoPanic.normal ?_) _
          have hG5 : Hid (GoS w0 W Y1 k h ha hc rel S mb T' N' o oa oa' oc' f c ∧ Y1.heap[CB]? = some (oCl x)) := ⟨hGY.out.1.below (bthen hS.out hb1), blk_on hGY.out.2 (bthen hS.out hb1)⟩
          clear hRd hS hGY hb1 xd xa
          cases d with
          | false =>
            have hL5 : Hid (LoI k rel h T N m f c (i + 1) T' N') := hL.out.skip hlt (by rw [hmy.out]; rfl)
            clear hL hmy hxH
            go_wp2
            go_roundw
            case rel => exact ⟨i + 1, by omega, by go_num, T', N', oa', oc', hG5.out.1, hL5.out⟩
            case measure => simp [intOf]; omega
          | true =>
            have hm : Hid (mayB rel h f i = true) := hmy.out
            clear hmy
            have hXD : Hid (doesB k x.d = true ∧ OkC k x.d c) := by
              have q := (hR.out.c x (by rw [← hxH.out]; exact hf_mem hlt)).1
              exact ⟨q, inv_ok hInv.out hR.out.kd (by
                have h1 := cntD_set hdH.out hlt
                have h2 := cntD_le (setD f i) h.length
                omega) q⟩
            go_upto_region 12 with fail
            go_cut [12, 13] from 46 to 107 (fun u12 u13 wx => ∃ C2 : Nat, u12 = .pointer (some ⟨C2, 0, none⟩) ∧ u13 = .bool (fitC k c x) ∧ Hid (Below Y1.heap.size Y1 wx ∧ wx.heap[C2]? = some (.cells (vC (nxtC k c x)) TC) ∧ Y1.heap.size ≤ C2))
            case first =>
              have hS : Hid (Below Y1.heap.size Y1 Y1.drew) := bey_drew Y1
              have hRd : Hid (∀ w', Below Y1.heap.size Y1 w' → w'.rangeAt S 0 (vT k).toList ∧ w'.rangeAt (W.heap.size + 1) 0 (vC c).toList ∧ w'.rangeAt CB 0 x.cells) := fun w' q => ⟨sr_rth (hG5.out.1.below q).g.s, rng_blk (hG5.out.1.below q).c, rng_blk (blk_on hG5.out.2 q)⟩
              refine wp_region_noPanic ?_
              refine wp_region_held_drew (S := fun w' => Below Y1.heap.size Y1 w') (by kernel_rfl) hS.out (fun _ => ?_)
              refine reg_move (i := 0) rfl (by kernel_rfl) (by kernel_rfl) (by kernel_rfl) (fun _ _ _ _ h => h) rfl (.pointer (some ⟨S, 0, none⟩)) (fun _ => rfl) hS.out ?_
              simp only [Act.put, List.getElem_toArray, List.getElem_cons_succ, List.getElem_cons_zero, List.setIfInBounds_toArray, List.set_cons_zero, List.set_cons_succ]
              refine reg_move (i := 1) rfl (by kernel_rfl) (by kernel_rfl) (by kernel_rfl) (fun _ _ _ _ h => h) rfl (.pointer (some ⟨S, 0, none⟩)) (fun _ => rfl) hS.out ?_
              simp only [Act.put, List.getElem_toArray, List.getElem_cons_succ, List.getElem_cons_zero, List.setIfInBounds_toArray, List.set_cons_zero, List.set_cons_succ]
              refine reg_move (i := 2) rfl (by kernel_rfl) (by kernel_rfl) (by kernel_rfl) (fun _ _ _ _ h => h) rfl (.pointer (some ⟨S, 0, none⟩)) (fun _ => rfl) hS.out ?_
              simp only [Act.put, List.getElem_toArray, List.getElem_cons_succ, List.getElem_cons_zero, List.setIfInBounds_toArray, List.set_cons_zero, List.set_cons_succ]
              refine reg_load (i := 3) rfl (by kernel_rfl) (by kernel_rfl) (by kernel_rfl) (fun _ _ _ _ h => h) rfl 65 _ rfl S 0 rfl (vT k).toList _ (fun w' q => (hRd.out w' q).1) Try.underlying65 rfl infoT hS.out ?_
              simp only [Act.put, List.getElem_toArray, List.getElem_cons_succ, List.getElem_cons_zero, List.setIfInBounds_toArray, List.set_cons_zero, List.set_cons_succ]
              refine reg_load (i := 4) rfl (by kernel_rfl) (by kernel_rfl) (by kernel_rfl) (fun _ _ _ _ h => h) rfl 59 _ rfl (W.heap.size + 1) 0 rfl (vC c).toList _ (fun w' q => (hRd.out w' q).2.1) Try.underlying59 rfl infoC9 hS.out ?_
              simp only [Act.put, List.getElem_toArray, List.getElem_cons_succ, List.getElem_cons_zero, List.setIfInBounds_toArray, List.set_cons_zero, List.set_cons_succ]
              refine reg_load (i := 5) rfl (by kernel_rfl) (by kernel_rfl) (by kernel_rfl) (fun _ _ _ _ h => h) rfl 53 _ rfl CB 0 rfl x.cells _ (fun w' q => (hRd.out w' q).2.2) Try.underlying53 rfl infoX hS.out ?_
              simp only [Act.put, List.getElem_toArray, List.getElem_cons_succ, List.getElem_cons_zero, List.setIfInBounds_toArray, List.set_cons_zero, List.set_cons_succ]
              refine reg_ca3 (i := 6) (j := 10) (by kernel_rfl) rfl rfl rfl rfl 52 _ _ _ _ _ _ rfl (.agg (vT k)) (.agg (vC c)) x.val rfl rfl rfl (cf_fn Try.func52 (by kernel_rfl) (by kernel_rfl) _ _) _ (done_any k c x hXD.out.1 hXD.out.2 _) ?_ (wpList_alloc_big rfl 59 rfl zeroCo (wpList_nil (And.intro (bthen hS.out (boxed _ _)) fun _ => ?_)))
              · rintro e1 Y2 ⟨rfl, hb2⟩
                have hS2 : Hid (Below Y1.heap.size Y1 Y2) := bthen hS.out hb2
                refine ⟨_, rfl, hS2.out, fun _ => ?_⟩
                simp only [Act.put, List.getElem_toArray, List.getElem_cons_succ, List.getElem_cons_zero, List.setIfInBounds_toArray, List.set_cons_zero, List.set_cons_succ]
                refine reg_move (i := 7) rfl (by kernel_rfl) (by kernel_rfl) (by kernel_rfl) (fun _ _ _ _ h => h) rfl (.tuple #[.agg (vC (nxtC k c x)), .bool (fitC k c x)]) (fun _ => rfl) hS2.out ?_
                simp only [Act.put, List.getElem_toArray, List.getElem_cons_succ, List.getElem_cons_zero, List.setIfInBounds_toArray, List.set_cons_zero, List.set_cons_succ]
                refine reg_move (i := 8) rfl (by kernel_rfl) (by kernel_rfl) (by kernel_rfl) (fun _ _ _ _ h => h) rfl (.agg (vC (nxtC k c x))) (fun _ => rfl) hS2.out ?_
                simp only [Act.put, List.getElem_toArray, List.getElem_cons_succ, List.getElem_cons_zero, List.setIfInBounds_toArray, List.set_cons_zero, List.set_cons_succ]
                refine reg_move (i := 9) rfl (by kernel_rfl) (by kernel_rfl) (by kernel_rfl) (fun _ _ _ _ h => h) rfl (.bool (fitC k c x)) (fun _ => rfl) hS2.out ?_
                simp only [Act.put, List.getElem_toArray, List.getElem_cons_succ, List.getElem_cons_zero, List.setIfInBounds_toArray, List.set_cons_zero, List.set_cons_succ]
                refine reg_one (i := 10) (by kernel_rfl) rfl rfl (wpList_alloc_big rfl 59 rfl zeroCo (wpList_nil (And.intro (bthen hS2.out (boxed _ _)) fun _ => ?_)))
                simp only [Act.put, List.getElem_toArray, List.getElem_cons_succ, List.getElem_cons_zero, List.setIfInBounds_toArray, List.set_cons_zero, List.set_cons_succ]
                refine reg_one (i := 11) (by kernel_rfl) rfl rfl (wpList_store_row rfl 59 _ _ rfl Y2.heap.size (vC (nxtC k c x)) rfl rfl _ _ (heap_alloc_new _ _) infoC9 rfl (vC_one _) (wpList_nil (And.intro (below_setRow (bthen hS2.out (boxed _ _)) hS2.out.size _) fun _ => ?_)))
                simp only [Act.put, List.getElem_toArray, List.getElem_cons_succ, List.getElem_cons_zero, List.setIfInBounds_toArray, List.set_cons_zero, List.set_cons_succ]
                refine reg_move (i := 12) rfl (by kernel_rfl) (by kernel_rfl) (by kernel_rfl) (fun _ _ _ _ h => h) rfl (.bool (fitC k c x)) (fun _ => rfl) (below_setRow (bthen hS2.out (boxed _ _)) hS2.out.size _) ?_
                simp only [Act.put, List.getElem_toArray, List.getElem_cons_succ, List.getElem_cons_zero, List.setIfInBounds_toArray, List.set_cons_zero, List.set_cons_succ]
                refine wpAnyH_done (by kernel_rfl) (NoPanic.normal ?_) _
                have t2 : Hid (Below Y1.heap.size Y1 (World.setRow (Y2.alloc (.cells z9 59)) Y2.heap.size (vC (nxtC k c x))) ∧ (World.setRow (Y2.alloc (.cells z9 59)) Y2.heap.size (vC (nxtC k c x))).heap[Y2.heap.size]? = some (.cells (vC (nxtC k c x)) TC) ∧ Y1.heap.size ≤ Y2.heap.size) := ⟨below_setRow (bthen hS2.out (boxed _ _)) hS2.out.size _, setRow_heap _ _ _ _ _ _ (heap_alloc_new _ _), hS2.out.size⟩
                generalize World.setRow (Y2.alloc (.cells z9 59)) Y2.heap.size (vC (nxtC k c x)) = Y3 at *
                generalize Y2.heap.size = C2 at *
                go_wp2_with fail
                go_meet
                case rel => exact ⟨C2, rfl, rfl, t2.out⟩
              · simp only [Act.put, List.getElem_toArray, List.getElem_cons_succ, List.getElem_cons_zero, List.setIfInBounds_toArray, List.set_cons_zero, List.set_cons_succ]
                refine reg_call3L (i := 6) (by kernel_rfl) rfl rfl 52 _ _ _ _ _ _ rfl (.agg (vT k)) (.agg (vC c)) x.val rfl rfl rfl (cf_fn Try.func52 (by kernel_rfl) (by kernel_rfl) _ _) _ (done_any k c x hXD.out.1 hXD.out.2 _) ?_
                rintro e1 Y2 ⟨rfl, hb2⟩
                have hS2 : Hid (Below Y1.heap.size Y1 Y2 ∧ Y2.heap[Y1.drew.heap.size]? = some (.cells z9 TC)) := ⟨bthen (bthen hS.out (boxed _ _)) hb2, blk_on (heap_alloc_new _ _) hb2⟩
                refine ⟨_, rfl, hS2.out.1, fun _ => ?_⟩
                simp only [Act.put, List.getElem_toArray, List.getElem_cons_succ, List.getElem_cons_zero, List.setIfInBounds_toArray, List.set_cons_zero, List.set_cons_succ]
                refine reg_move (i := 7) rfl (by kernel_rfl) (by kernel_rfl) (by kernel_rfl) (fun _ _ _ _ h => h) rfl (.tuple #[.agg (vC (nxtC k c x)), .bool (fitC k c x)]) (fun _ => rfl) hS2.out.1 ?_
                simp only [Act.put, List.getElem_toArray, List.getElem_cons_succ, List.getElem_cons_zero, List.setIfInBounds_toArray, List.set_cons_zero, List.set_cons_succ]
                refine reg_move (i := 8) rfl (by kernel_rfl) (by kernel_rfl) (by kernel_rfl) (fun _ _ _ _ h => h) rfl (.agg (vC (nxtC k c x))) (fun _ => rfl) hS2.out.1 ?_
                simp only [Act.put, List.getElem_toArray, List.getElem_cons_succ, List.getElem_cons_zero, List.setIfInBounds_toArray, List.set_cons_zero, List.set_cons_succ]
                refine reg_move (i := 9) rfl (by kernel_rfl) (by kernel_rfl) (by kernel_rfl) (fun _ _ _ _ h => h) rfl (.bool (fitC k c x)) (fun _ => rfl) hS2.out.1 ?_
                simp only [Act.put, List.getElem_toArray, List.getElem_cons_succ, List.getElem_cons_zero, List.setIfInBounds_toArray, List.set_cons_zero, List.set_cons_succ]
                refine reg_one (i := 11) (by kernel_rfl) rfl rfl (wpList_store_row rfl 59 _ _ rfl Y1.drew.heap.size (vC (nxtC k c x)) rfl rfl _ _ hS2.out.2 infoC9 rfl (vC_one _) (wpList_nil (And.intro (below_setRow hS2.out.1 hS.out.size _) fun _ => ?_)))
                simp only [Act.put, List.getElem_toArray, List.getElem_cons_succ, List.getElem_cons_zero, List.setIfInBounds_toArray, List.set_cons_zero, List.set_cons_succ]
                refine reg_move (i := 12) rfl (by kernel_rfl) (by kernel_rfl) (by kernel_rfl) (fun _ _ _ _ h => h) rfl (.bool (fitC k c x)) (fun _ => rfl) (below_setRow hS2.out.1 hS.out.size _) ?_
                simp only [Act.put, List.getElem_toArray, List.getElem_cons_succ, List.getElem_cons_zero, List.setIfInBounds_toArray, List.set_cons_zero, List.set_cons_succ]
                refine wpAnyH_done (by kernel_rfl) (NoPanic.normal ?_) _
                have t2 : Hid (Below Y1.heap.size Y1 (World.setRow Y2 Y1.drew.heap.size (vC (nxtC k c x))) ∧ (World.setRow Y2 Y1.drew.heap.size (vC (nxtC k c x))).heap[Y1.drew.heap.size]? = some (.cells (vC (nxtC k c x)) TC) ∧ Y1.heap.size ≤ Y1.drew.heap.size) := ⟨below_setRow hS2.out.1 hS.out.size _, setRow_heap _ _ _ _ _ _ hS2.out.2, hS.out.size⟩
                generalize World.setRow Y2 Y1.drew.heap.size (vC (nxtC k c x)) = Y3 at *
                generalize Y1.drew.heap.size = C2 at *
                go_wp2_with fail
                go_meet
                case rel => exact ⟨C2, rfl, rfl, t2.out⟩
            case rest =>
              obtain ⟨C2, rfl, rfl, hC⟩ := hcut
              generalize wc = Z at *
              have hG6 : Hid (GoS w0 W Z k h ha hc rel S mb T' N' o oa oa' oc' f c) := hG5.out.1.below hC.out.1
              have hC2 : Hid (Z.heap[C2]? = some (.cells (vC (nxtC k c x)) TC) ∧ W.heap.size + 1 < C2) := ⟨hC.out.2.1, by have := hC.out.2.2; have := hG5.out.1.sz; omega⟩
              clear hC hG5
              obtain ⟨d, hd⟩ : ∃ d, fitC k c x = d := ⟨_, rfl⟩
              have hfH : Hid (fitC k c x = d) := hd
              rw [hd]
              clear hd
              cases d with
              | false =>
                have hL5 : Hid (LoI k rel h T N m f c (i + 1) T' N') := hL.out.skip hlt (by rw [hxH.out, hfH.out, Bool.and_false])
                clear hL hm hxH hfH hC2
                go_wp2
                go_roundw
                case rel => exact ⟨i + 1, by omega, by go_num, T', N', oa', oc', hG6.out, hL5.out⟩
                case measure => simp [intOf]; omega
              | true =>
                have hfit : Hid (fitC k c (hf h i) = true) := by show _ = _; rw [hxH.out]; exact hfH.out
                have hnx : Hid (nxtC k c (hf h i) = nxtC k c x) := by show _ = _; rw [hxH.out]
                clear hfH hxH hXD
                go_upto_region 15 with (first
                  | ((with_reducible refine at_loadL 101 (.tmp 4) rfl ?_); refine stopL_out ?_; refine wpList_load_row rfl 101 _ rfl W.heap.size rfl _ _ _ _ hG6.out.d hcP.out rfl (infoP8 f) ?_)
                  | ((with_reducible refine at_allocL 101 rfl ?_); refine stopL_out ?_; refine wpList_alloc_big rfl 101 rfl zeroP8 ?_)
                  | ((with_reducible refine at_storeL 101 _ _ rfl ?_); refine stopL_out ?_; refine wpList_store_row rfl 101 _ _ rfl Z.heap.size (boolRow 8 f) rfl rfl _ _ (heap_alloc_new _ _) (infoP8 f) (by rw [row8_size, row8_size]) (row8_one _) ?_))
                obtain ⟨Z1, hZ1⟩ : ∃ Z1, (Z.alloc (oPl fun _ => false)).setRow Z.heap.size (boolRow 8 f) = Z1 := ⟨_, rfl⟩
                have hG7 : Hid (GoS w0 W Z1 k h ha hc rel S mb T' N' o oa oa' oc' f c ∧ Z1.heap[Z.heap.size]? = some (oPl f) ∧ Z1.heap[C2]? = some (.cells (vC (nxtC k c x)) TC) ∧ W.heap.size + 1 < Z.heap.size ∧ C2 ≠ Z.heap.size ∧ S < Z.heap.size ∧ mb < Z.heap.size) := by
                  rw [← hZ1]
                  exact ⟨hG6.out.below new_row.2, new_row.1, blk_on hC2.out.1 new_row.2, hG6.out.sz, by have := (Array.getElem?_eq_some_iff.mp hC2.out.1).1; omega, hG6.out.g.lt.1, hG6.out.g.lt.2⟩
                have hob : Hid (∀ b ∈ blk oa', b < Z.heap.size) := fun b hb => (hG6.out.g.obl b hb).2
                rw [hZ1]
                generalize Z.heap.size = B14 at *
                clear hZ1 hG6 hC2
                have xs := ixp8 B14 i hi8
                have cs : Z1.cell? ⟨B14, i, none⟩ = some (.bool (f i)) := cell_lc hG7.out.2.1 (boolRow_at hi8)
                go_upto_region 16 with (refine wpList_putb rfl 4 _ _ rfl ⟨B14, i, none⟩ rfl true rfl (by kernel_rfl) _ cs (frozen_of_row _ _ _ _ _ hG7.out.2.1) fun Z2 hZ2 => ?_; (have hG8 : Hid (GoS w0 W Z2 k h ha hc rel S mb T' N' o oa oa' oc' f c ∧ Z2.heap[B14]? = some (oPl (setD f i)) ∧ Z2.heap[C2]? = some (.cells (vC (nxtC k c x)) TC)) := by (have hq := hG7.out; rw [hZ2, setCell_eq_setRow Z1 B14 i _ _ _ _ hq.2.1, boolRow_set]; exact ⟨hq.1.other B14 hq.2.2.2.1 (Nat.ne_of_lt hq.2.2.2.2.2.1) (Nat.ne_of_lt hq.2.2.2.2.2.2) (Nat.le_trans hq.1.g.d1 (Nat.le_of_lt hq.2.2.2.2.2.1)) (fun b hb => Nat.ne_of_lt (hob.out b hb)) _, setRow_heap _ _ _ _ _ _ hq.2.1, (setRow_other _ _ _ _ hq.2.2.2.2.1).trans hq.2.2.1⟩)); clear hZ2 cs xs)
                have hsz : Hid (C2 < Z2.heap.size ∧ B14 < Z2.heap.size) := ⟨(Array.getElem?_eq_some_iff.mp hG8.out.2.2).1, (Array.getElem?_eq_some_iff.mp hG8.out.2.1).1⟩
                have hdd : Hid (C2 ≠ B14 ∧ S ≠ B14 ∧ S ≠ C2 ∧ (∀ b ∈ blk oa', b ≠ B14 ∧ b ≠ C2)) := ⟨hG7.out.2.2.2.2.1, by have := hG7.out.2.2.2.2.2.1; omega, fun q => by
                  have h1 := hG8.out.1.g.s
                  rw [q, hG8.out.2.2] at h1
                  simp only [Option.some.injEq, Obj.cells.injEq] at h1
                  exact absurd h1.2.1 (by decide), fun b hb => ⟨by have := hob.out b hb; omega, fun q => by
                  have h1 := hG8.out.1.g.o.2
                  rcases h1 with ⟨q1, _⟩ | ⟨g, cap, cur, q1, _, q2, _⟩
                  · simp only [Value.slice.injEq] at q1
                    rw [q1.1] at hb
                    simp [blk] at hb
                  · simp only [Value.slice.injEq] at q1
                    rw [q1.1] at hb
                    simp only [blk, List.mem_singleton] at hb
                    rw [← hb, q, hG8.out.2.2] at q2
                    simp only [Option.some.injEq, Obj.cells.injEq] at q2
                    exact absurd q2.2.1 (by decide)⟩⟩
                clear hG7 hob
                have c87 : Z2.cell? ⟨S, 87, none⟩ = some (.slice oa' o.length oc') := sr_cell hG8.out.1.g.s sr_ord
                have hlo : Hid (o.length = (o.map chCells).length) := by show _ = _; rw [List.length_map]
                go_upto_region 17 with (first
                  | (at_builtin; (refine wpList_app1 rfl (.tmp 83) (.tmp 85) 26 rfl w0.heap.size 3 iN _ 1 8 Try.underlying26 hiN.out hzN.out hsN.out hbN.out rfl (by decide) oa' oc' (o.map chCells) (by rw [List.length_map]; rfl) hG8.out.1.g.o (chCells (i : Int)) rfl rfl (by simp [chCells, Value.oneCell']) (by rw [List.length_map]; have := hol.out; unfold maxLen; omega) (by rw [List.length_map]; have := hol.out; omega) hG8.out.1.g.b.size ?_); intro va vc Z3 hgr; rw [List.length_map])
                  | (refine wpList_puts rfl 26 _ _ rfl ⟨S, 87, none⟩ rfl va (o.length + 1) vc rfl (by kernel_rfl) (.slice oa' o.length oc') (sr_cell ((hgr.kp S hG8.out.1.g.lt.1 hG8.out.1.g.n2).trans hG8.out.1.g.s) sr_ord) (frozen_of_row _ _ _ _ _ ((hgr.kp S hG8.out.1.g.lt.1 hG8.out.1.g.n2).trans hG8.out.1.g.s)) fun Z4 hZ4 => ?_))
                have hle : Hid (o.length + 1 = (o ++ [(i : Int)]).length) := by show _ = _; rw [List.length_append]; rfl
                have hG9 : Hid (GS w0 Z4 k h ha hc rel S mb T' N' (o ++ [(i : Int)]) va vc ∧ Fr Z2 Z4 S mb oa' va ∧ Z4.heap[B14]? = some (oPl (setD f i)) ∧ Z4.heap[C2]? = some (.cells (vC (nxtC k c x)) TC)) := by
                  have hq := hG8.out
                  have hd := hdd.out
                  have hsz' := hsz.out
                  rw [hZ4, hle.out]
                  have hbe : Below w0.heap.size Z2 Z3 := by
                    have := hgr.be
                    rwa [Nat.min_eq_left hq.1.g.b.size] at this
                  refine ⟨hq.1.g.ord (by rw [List.map_append]; exact hgr.ow) hbe hgr.be.size (fun b h1 h2 => hgr.kp b h1 h2) hgr.bk, Fr.ord hgr.be.size (fun b h1 h2 => hgr.kp b h1 h2) hgr.bk _, ?_, ?_⟩
                  · exact (heap_setCell_other _ ⟨S, 87, none⟩ _ _ (Ne.symm hd.2.1)).trans ((hgr.kp B14 hsz'.2 fun q => (hd.2.2.2 _ q).1 rfl).trans hq.2.1)
                  · exact (heap_setCell_other _ ⟨S, 87, none⟩ _ _ (Ne.symm hd.2.2.1)).trans ((hgr.kp C2 hsz'.1 fun q => (hd.2.2.2 _ q).2 rfl).trans hq.2.2)
                have hG10 : Hid (GoS w0 W Z4 k h ha hc rel S mb T' N' (o ++ [(i : Int)]) oa va vc f c) := hG8.out.1.call hG9.out.1 hG9.out.2.1
                clear hgr hZ4 hG8 hsz hdd c87 hlo hle
                have cG := hIH.out i Z4 T' N' va vc hlt hm.out hfit.out hG9.out.1 hL.out.v (hL.out.call hlt hn hNN.out)
                rw [hnx.out] at cG
                go_wp2_with (first
                  | ((with_reducible refine at_loadL 101 (.tmp 14) rfl ?_); refine stopL_out ?_; refine wpList_load_row rfl 101 _ rfl B14 rfl _ _ _ _ hG9.out.2.2.1 hcP.out rfl (infoP8 _) ?_)
                  | ((with_reducible refine at_loadL 59 (.tmp 12) rfl ?_); refine stopL_out ?_; refine wpList_load_row rfl 59 _ rfl C2 rfl _ _ _ _ hG9.out.2.2.2 hcC.out rfl infoC9 ?_)
                  | (go_at_call 46; (with_reducible refine cG.mono ?_); rintro e Z5 ⟨T2, N2, oa2, oc2, rfl, hg5, hf5, hn5, hv5⟩; (have h5 : Hid (GS w0 Z5 k h ha hc rel S mb T2 N2 ((o ++ [(i : Int)]) ++ ((fsB k rel h (setD f i) (nxtC k c x)).getD []).map fun (j : Nat) => (j : Int)) oa2 oc2 ∧ Fr Z4 Z5 S mb va oa2 ∧ N2 + 1 ≤ N' + 9 ^ (m + 1) ∧ (fsB k rel h (setD f i) (nxtC k c x) = none → vain k rel h T2 (cntD (setD f i) h.length) ∧ ∀ q ∈ T2, q ∈ T' ∨ cntD (setD f i) h.length ≤ cntD q.1 h.length)) := ⟨hg5, hf5, hn5, hv5⟩); clear hg5 hf5 hn5 hv5 cG; (obtain ⟨R, hRR⟩ : ∃ R, fsB k rel h (setD f i) (nxtC k c x) = R := ⟨_, rfl⟩); (have hRH : Hid (fsB k rel h (setD f i) (nxtC k c (hf h i)) = R) := by rw [hnx.out]; exact hRR); rw [hRR] at h5 ⊢; clear hRR; refine stopR_in ?_))
                refine stopR_out ?_
                cases R with
                | some r =>
                  go_wp2
                  go_ret
                  have e := hL.out.hit hlt hm.out hfit.out hRH.out
                  have hq := h5.out
                  have hF := hG10.out.call hq.1 hq.2.1
                  exact ⟨T2, N2, oa2, oc2, by rw [e]; rfl, by rw [e]; simpa [List.append_assoc] using hF.g, hF.fr, hL.out.nn hlt hn hq.2.2.1, fun q => by rw [e] at q; cases q⟩
                | none =>
                  have hL6 : Hid (LoI k rel h T N m f c (i + 1) T2 N2) := hL.out.miss hlt hm.out hfit.out hRH.out h5.out.2.2.1 (h5.out.2.2.2 rfl).1 (h5.out.2.2.2 rfl).2
                  have hG11 : Hid (GoS w0 W Z5 k h ha hc rel S mb T2 N2 (o ++ [(i : Int)]) oa oa2 oc2 f c) := by
                    have := hG10.out.call h5.out.1 h5.out.2.1
                    show GoS _ _ _ _ _ _ _ _ _ _ _ _ _ _ _ _ _ _
                    simpa using this
                  clear h5 hG9 hG10 hL hm hfit hRH hnx
                  have hlc : Hid (o.length + 1 ≤ oc2 ∧ oc2 ≤ 9223372036854775807 ∧ oa2 ≠ none) := own_cap hG11.out.g.o
                  go_wp2_with fail
                  have hTd : Hid (GoS w0 W Z5.drew k h ha hc rel S mb T2 N2 (o ++ [(i : Int)]) oa oa2 oc2 f c) := hG11.out.below (bey_drew Z5)
                  clear hG11
                  have c87 : Hid (Z5.drew.cell? ⟨S, 87, none⟩ = some (.slice oa2 (o.length + 1) oc2)) := by
                    have := sr_cell hTd.out.g.s sr_ord
                    rw [List.length_append] at this
                    exact this
                  refine wp_region_noPanic ?_
                  refine wp_region_held_drew (S := fun _ => True) (by kernel_rfl) trivial (fun _ => ?_)
                  generalize Z5.drew = D at *
                  refine reg_move (i := 0) rfl (by kernel_rfl) (by kernel_rfl) (by kernel_rfl) (fun _ _ _ _ h => h) rfl (.pointer (some ⟨S, 0, none⟩)) (fun _ => rfl) trivial ?_
                  simp only [Act.put, List.getElem_toArray, List.getElem_cons_succ, List.getElem_cons_zero, List.setIfInBounds_toArray, List.set_cons_zero, List.set_cons_succ]
                  refine reg_move (i := 1) rfl (by kernel_rfl) (by kernel_rfl) (by kernel_rfl) (fun _ _ _ _ h => h) rfl (.pointer (some ⟨S, 0, none⟩)) (fun _ => rfl) trivial ?_
                  simp only [Act.put, List.getElem_toArray, List.getElem_cons_succ, List.getElem_cons_zero, List.setIfInBounds_toArray, List.set_cons_zero, List.set_cons_succ]
                  refine reg_move (i := 2) rfl (by kernel_rfl) (by kernel_rfl) (by kernel_rfl) (fun _ _ _ _ h => h) rfl (.pointer (some ⟨S, 0, none⟩)) (fun _ => rfl) trivial ?_
                  simp only [Act.put, List.getElem_toArray, List.getElem_cons_succ, List.getElem_cons_zero, List.setIfInBounds_toArray, List.set_cons_zero, List.set_cons_succ]
                  refine reg_move (i := 3) rfl (by kernel_rfl) (by kernel_rfl) (by kernel_rfl) (fun _ _ _ _ h => h) rfl (.pointer (some ⟨S, 87, none⟩)) (fun _ => rfl) trivial ?_
                  simp only [Act.put, List.getElem_toArray, List.getElem_cons_succ, List.getElem_cons_zero, List.setIfInBounds_toArray, List.set_cons_zero, List.set_cons_succ]
                  refine reg_move (i := 5) rfl (by kernel_rfl) (by kernel_rfl) (by kernel_rfl) (fun _ _ _ _ h => h) rfl (.pointer (some ⟨S, 0, none⟩)) (fun _ => rfl) trivial ?_
                  simp only [Act.put, List.getElem_toArray, List.getElem_cons_succ, List.getElem_cons_zero, List.setIfInBounds_toArray, List.set_cons_zero, List.set_cons_succ]
                  refine reg_move (i := 6) rfl (by kernel_rfl) (by kernel_rfl) (by kernel_rfl) (fun _ _ _ _ h => h) rfl (.pointer (some ⟨S, 0, none⟩)) (fun _ => rfl) trivial ?_
                  simp only [Act.put, List.getElem_toArray, List.getElem_cons_succ, List.getElem_cons_zero, List.setIfInBounds_toArray, List.set_cons_zero, List.set_cons_succ]
                  refine reg_move (i := 7) rfl (by kernel_rfl) (by kernel_rfl) (by kernel_rfl) (fun _ _ _ _ h => h) rfl (.pointer (some ⟨S, 87, none⟩)) (fun _ => rfl) trivial ?_
                  simp only [Act.put, List.getElem_toArray, List.getElem_cons_succ, List.getElem_cons_zero, List.setIfInBounds_toArray, List.set_cons_zero, List.set_cons_succ]
                  refine reg_two (i := 4) (j := 8) (by kernel_rfl) rfl rfl rfl rfl (wpList_load1 rfl 26 _ rfl ⟨S, 87, none⟩ rfl _ Try.underlying26 rfl (.slice oa2 (o.length + 1) oc2) c87.out (wpList_nil (And.intro trivial fun _ => ?_))) (wpList_load1 rfl 26 _ rfl ⟨S, 87, none⟩ rfl _ Try.underlying26 rfl (.slice oa2 (o.length + 1) oc2) c87.out (wpList_nil (And.intro trivial fun _ => ?_)))
                  · simp only [Act.put, List.getElem_toArray, List.getElem_cons_succ, List.getElem_cons_zero, List.setIfInBounds_toArray, List.set_cons_zero, List.set_cons_succ]
                    refine reg_one (i := 8) (by kernel_rfl) rfl rfl (wpList_load1 rfl 26 _ rfl ⟨S, 87, none⟩ rfl _ Try.underlying26 rfl (.slice oa2 (o.length + 1) oc2) c87.out (wpList_nil (And.intro trivial fun _ => ?_)))
                    simp only [Act.put, List.getElem_toArray, List.getElem_cons_succ, List.getElem_cons_zero, List.setIfInBounds_toArray, List.set_cons_zero, List.set_cons_succ]
                    refine reg_move (i := 9) rfl (by kernel_rfl) (by kernel_rfl) (by kernel_rfl) (fun _ _ _ _ h => h) rfl (.int .i64 ((o.length + 1 : Nat) : Int)) (fun wx => run_lenI _ rfl oa2 (o.length + 1) oc2 rfl wx) trivial ?_
                    simp only [Act.put, List.getElem_toArray, List.getElem_cons_succ, List.getElem_cons_zero, List.setIfInBounds_toArray, List.set_cons_zero, List.set_cons_succ]
                    refine reg_move (i := 10) rfl (by kernel_rfl) (by kernel_rfl) (by kernel_rfl) (fun _ _ _ _ h => h) rfl (.int .i64 (o.length : Int)) (fun wx => by unfold execOp; exact run_val2 (subI o.length hol.out wx)) trivial ?_
                    simp only [Act.put, List.getElem_toArray, List.getElem_cons_succ, List.getElem_cons_zero, List.setIfInBounds_toArray, List.set_cons_zero, List.set_cons_succ]
                    refine reg_move (i := 11) rfl (by kernel_rfl) (by kernel_rfl) (by kernel_rfl) (fun _ _ _ _ h => h) rfl (.slice oa2 o.length oc2) (fun wx => by unfold execOp; exact run_val2 (cutI oa2 (o.length + 1) oc2 o.length (Nat.le_of_succ_le hlc.out.1) hlc.out.2.1 wx)) trivial ?_
                    simp only [Act.put, List.getElem_toArray, List.getElem_cons_succ, List.getElem_cons_zero, List.setIfInBounds_toArray, List.set_cons_zero, List.set_cons_succ]
                    refine reg_move (i := 12) rfl (by kernel_rfl) (by kernel_rfl) (by kernel_rfl) (fun _ _ _ _ h => h) rfl (.pointer (some ⟨S, 0, none⟩)) (fun _ => rfl) trivial ?_
                    simp only [Act.put, List.getElem_toArray, List.getElem_cons_succ, List.getElem_cons_zero, List.setIfInBounds_toArray, List.set_cons_zero, List.set_cons_succ]
                    refine reg_move (i := 13) rfl (by kernel_rfl) (by kernel_rfl) (by kernel_rfl) (fun _ _ _ _ h => h) rfl (.pointer (some ⟨S, 87, none⟩)) (fun _ => rfl) trivial ?_
                    simp only [Act.put, List.getElem_toArray, List.getElem_cons_succ, List.getElem_cons_zero, List.setIfInBounds_toArray, List.set_cons_zero, List.set_cons_succ]
                    refine reg_one (i := 14) (by kernel_rfl) rfl rfl (wpList_store1 rfl 26 _ _ rfl ⟨S, 87, none⟩ rfl oa2 o.length oc2 rfl (by kernel_rfl) _ c87.out (frozen_of_row _ _ _ _ _ hTd.out.g.s) (wpList_nil (And.intro trivial fun _ => ?_)))
                    simp only [Act.put, List.getElem_toArray, List.getElem_cons_succ, List.getElem_cons_zero, List.setIfInBounds_toArray, List.set_cons_zero, List.set_cons_succ]
                    refine wpAnyH_done (by kernel_rfl) (NoPanic.normal ?_) _
                    have hG12 : Hid (GoS w0 W (D.setCell ⟨S, 87, none⟩ (.slice oa2 o.length oc2)) k h ha hc rel S mb T2 N2 o oa oa2 oc2 f c) := GoS.back hTd.out hlc.out.2.2
                    generalize World.setCell _ _ _ = D2 at *
                    clear hTd c87 hlc
                    go_wp2
                    go_roundw
                    case rel => exact ⟨i + 1, by omega, by go_num, T2, N2, oa2, oc2, hG12.out, hL6.out⟩
                    case measure => simp [intOf]; omega
                  · simp only [Act.put, List.getElem_toArray, List.getElem_cons_succ, List.getElem_cons_zero, List.setIfInBounds_toArray, List.set_cons_zero, List.set_cons_succ]
                    refine reg_move (i := 9) rfl (by kernel_rfl) (by kernel_rfl) (by kernel_rfl) (fun _ _ _ _ h => h) rfl (.int .i64 ((o.length + 1 : Nat) : Int)) (fun wx => run_lenI _ rfl oa2 (o.length + 1) oc2 rfl wx) trivial ?_
                    simp only [Act.put, List.getElem_toArray, List.getElem_cons_succ, List.getElem_cons_zero, List.setIfInBounds_toArray, List.set_cons_zero, List.set_cons_succ]
                    refine reg_move (i := 10) rfl (by kernel_rfl) (by kernel_rfl) (by kernel_rfl) (fun _ _ _ _ h => h) rfl (.int .i64 (o.length : Int)) (fun wx => by unfold execOp; exact run_val2 (subI o.length hol.out wx)) trivial ?_
                    simp only [Act.put, List.getElem_toArray, List.getElem_cons_succ, List.getElem_cons_zero, List.setIfInBounds_toArray, List.set_cons_zero, List.set_cons_succ]
                    refine reg_one (i := 4) (by kernel_rfl) rfl rfl (wpList_load1 rfl 26 _ rfl ⟨S, 87, none⟩ rfl _ Try.underlying26 rfl (.slice oa2 (o.length + 1) oc2) c87.out (wpList_nil (And.intro trivial fun _ => ?_)))
                    simp only [Act.put, List.getElem_toArray, List.getElem_cons_succ, List.getElem_cons_zero, List.setIfInBounds_toArray, List.set_cons_zero, List.set_cons_succ]
                    refine reg_move (i := 11) rfl (by kernel_rfl) (by kernel_rfl) (by kernel_rfl) (fun _ _ _ _ h => h) rfl (.slice oa2 o.length oc2) (fun wx => by unfold execOp; exact run_val2 (cutI oa2 (o.length + 1) oc2 o.length (Nat.le_of_succ_le hlc.out.1) hlc.out.2.1 wx)) trivial ?_
                    simp only [Act.put, List.getElem_toArray, List.getElem_cons_succ, List.getElem_cons_zero, List.setIfInBounds_toArray, List.set_cons_zero, List.set_cons_succ]
                    refine reg_move (i := 12) rfl (by kernel_rfl) (by kernel_rfl) (by kernel_rfl) (fun _ _ _ _ h => h) rfl (.pointer (some ⟨S, 0, none⟩)) (fun _ => rfl) trivial ?_
                    simp only [Act.put, List.getElem_toArray, List.getElem_cons_succ, List.getElem_cons_zero, List.setIfInBounds_toArray, List.set_cons_zero, List.set_cons_succ]
                    refine reg_move (i := 13) rfl (by kernel_rfl) (by kernel_rfl) (by kernel_rfl) (fun _ _ _ _ h => h) rfl (.pointer (some ⟨S, 87, none⟩)) (fun _ => rfl) trivial ?_
                    simp only [Act.put, List.getElem_toArray, List.getElem_cons_succ, List.getElem_cons_zero, List.setIfInBounds_toArray, List.set_cons_zero, List.set_cons_succ]
                    refine reg_one (i := 14) (by kernel_rfl) rfl rfl (wpList_store1 rfl 26 _ _ rfl ⟨S, 87, none⟩ rfl oa2 o.length oc2 rfl (by kernel_rfl) _ c87.out (frozen_of_row _ _ _ _ _ hTd.out.g.s) (wpList_nil (And.intro trivial fun _ => ?_)))
                    simp only [Act.put, List.getElem_toArray, List.getElem_cons_succ, List.getElem_cons_zero, List.setIfInBounds_toArray, List.set_cons_zero, List.set_cons_succ]
                    refine wpAnyH_done (by kernel_rfl) (NoPanic.normal ?_) _
                    have hG12 : Hid (GoS w0 W (D.setCell ⟨S, 87, none⟩ (.slice oa2 o.length oc2)) k h ha hc rel S mb T2 N2 o oa oa2 oc2 f c) := GoS.back hTd.out hlc.out.2.2
                    generalize World.setCell _ _ _ = D2 at *
                    clear hTd c87 hlc
                    go_wp2
                    go_roundw
                    case rel => exact ⟨i + 1, by omega, by go_num, T2, N2, oa2, oc2, hG12.out, hL6.out⟩
                    case measure => simp [intOf]; omega
      · have hie : i = h.length := by omega
        subst hie
        have hiI : ¬ (h.length : Int) < h.length := by omega
        have hE : Hid _ := hL.out.stop hv.out hn
        clear hL
        go_wp2
        go_ret
        exact ⟨T', N', oa', oc', by rw [hE.out.1]; rfl, by rw [hE.out.1]; simpa using hG.out.g, hG.out.fr, hE.out.2.2.2, fun _ => ⟨hE.out.2.1, hE.out.2.2.1⟩⟩
end
end Go.Proofs.Ytklpifammbnldaa.pg
/- The first order: a search made and set going. -/
namespace Go.Proofs.Ytklpifammbnldaa.pg
open Go.ChangeShapes Go.WideShapes Go.ChangeAt Go.RowKit
set_option linter.unusedVariables false
set_option linter.unusedSimpArgs false
set_option maxRecDepth 100000
attribute [local go_sem ↓] Go.wp_at_zero Go.wp_at_succ
theorem all_done {h : List Cl} {f : Nat → Bool} (e : h.length ≤ cntD f h.length) : wholeB h f = true := by
  have : ∀ n, n ≤ cntD f n → ∀ i, i < n → f i = true := by
    intro n
    induction n with
    | zero => intro _ i hi; omega
    | succ n ih =>
      intro q i hi
      have hl := cntD_le f n
      unfold cntD at q
      cases hn : f n with
      | false => rw [hn] at q; simp at q; omega
      | true =>
        rw [hn] at q; simp at q
        by_cases ei : i = n
        · subst ei; exact hn
        · exact ih q i (by omega)
  unfold wholeB
  rw [List.all_eq_true]
  intro i hi
  rw [this _ e i (by simpa using hi), Bool.or_true]
section
variable {w0 : World} {k : Int} {h : List Cl} {ha : Option Addr} {hc : Nat} {rel : Cl → Cl → Bool} {S mb : Nat}
theorem goOn_any (hn : h.length ≤ 8) (hR : RightH k h) (hI : ∀ x ∈ h, I64 x.inn) (hh : Rows w0 7 ha hc (h.map Cl.cells)) : ∀ (m : Nat) (f : Nat → Bool) (c : List Int) (W : World) (T : List ((Nat → Bool) × List Int)) (N : Nat) (o : List Int) (oa : Option Addr) (oc : Nat), h.length ≤ m + cntD f h.length → InvC k c (cntD f h.length) → GS w0 W k h ha hc rel S mb T N o oa oc → vain k rel h T (cntD f h.length) → N + 9 ^ (m + 1) ≤ 2 ^ 40 → o.length + m ≤ 8 →
    Calls Try.prog 46 #[.pointer (some ⟨S, 0, none⟩), .agg (boolRow 8 f), .agg (vC c)] W (GoP w0 W k h ha hc rel S mb T N o oa f c m) := by
  intro m
  induction m with
  | zero =>
    intro f c W T N o oa oc hm hi hg hv hN ho
    exact goOn_whole 0 hn (all_done (by omega)) hg
  | succ m ih =>
    intro f c W T N o oa oc hm hi hg hv hN ho
    rcases Bool.eq_false_or_eq_true (wholeB h f) with hw | hw
    · exact goOn_whole (m + 1) hn hw hg
    · refine goOn_part m hn hR hh hw hi hg hv hN (by omega) fun i X T' N' oa' oc' hil hmay hfit hg' hv' hN' => ?_
      have e := cntD_set (may_not hmay) hil
      have hx := hf_mem hil
      refine ih (setD f i) _ X T' N' _ oa' oc' (by rw [e]; omega) ?_ hg' (by rw [e]; exact hv') hN' (by rw [List.length_append, List.length_singleton]; omega)
      rw [e]
      exact inv_next hi (hR.c _ hx).1 (hI _ hx)
end
abbrev z88 : Array Value := (zT.toList ++ (Value.slice none 0 0 :: ((boolRow 8 fun _ => false).toList ++ ((boolRow 64 fun _ => false).toList ++ ([.map none, .slice none 0 0] : List Value))))).toArray
theorem zeroS : ∀ w, (zeroValue 106).run Try.prog w = .ok (.agg z88) w := fun w => by kernel_rfl
theorem infoS : (Try.prog.info? 106).map (·.size) = some 88 := by kernel_rfl
theorem bld_S (k : Int) (ha : Option Addr) (n hc : Nat) (must : Nat → Bool) (mb : Nat) : ∀ w, (Instr.build 106 #[(0, .agg (vT k)), (1, .slice ha n hc), (2, .agg (boolRow 8 must)), (4, .map (some mb))]).run Try.prog w = .ok (.agg (srL k ha n hc must (fun _ => false) mb none 0 0).toArray) w := fun w => by kernel_rfl
theorem bld_P : ∀ w, (Instr.build 101 #[]).run Try.prog w = .ok (.agg (boolRow 8 fun _ => false)) w := fun w => by kernel_rfl
theorem vT_first (k : Int) : (vC (firstC k)).toList = (vT k).toList.take 9 := by
  unfold vC vT firstC
  split <;> rfl
theorem ixo8 (B o j : Nat) (hj : j < 8) : ∀ wx, (Instr.indexAt 101 (.pointer (some ⟨B, o, none⟩)) (.int .i64 (j : Int))).run Try.prog wx = .ok (.pointer (some ⟨B, o + j, none⟩)) wx := by
  match j, hj with
  | 0, _ => exact fun _ => by kernel_rfl
  | 1, _ => exact fun _ => by kernel_rfl
  | 2, _ => exact fun _ => by kernel_rfl
  | 3, _ => exact fun _ => by kernel_rfl
  | 4, _ => exact fun _ => by kernel_rfl
  | 5, _ => exact fun _ => by kernel_rfl
  | 6, _ => exact fun _ => by kernel_rfl
  | 7, _ => exact fun _ => by kernel_rfl
theorem mapT_of {w : World} {b : Nat} (h : w.heap[b]? = some (.map #[] 0)) : MapT w b 0 [] := by
  obtain ⟨D, ⟨es, c, h1, h2⟩, h3⟩ := mapT_new (default : World)
  rw [heap_alloc_new] at h1
  simp only [Option.some.injEq, Obj.map.injEq] at h1
  obtain ⟨rfl, rfl⟩ := h1
  exact ⟨D, ⟨#[], 0, h, h2⟩, h3⟩
/-- What must be done ahead, as far as it is filled in. -/
def ahP (rel : Cl → Cl → Bool) (h : List Cl) (i j b : Nat) : Bool := ahR rel h (b / 8) (b % 8) && decide (b / 8 < i ∨ (b / 8 = i ∧ b % 8 < j))
theorem ahP_zero (rel : Cl → Cl → Bool) (h : List Cl) : ahP rel h 0 0 = fun _ => false := by
  funext b
  unfold ahP
  rw [decide_eq_false (by omega), Bool.and_false]
theorem ahP_put {rel : Cl → Cl → Bool} {h : List Cl} {i j : Nat} (hi : i < h.length) (hj : j < h.length) (h8 : h.length ≤ 8) : (fun b => if b = 8 * i + j then rel (hf h j) (hf h i) else ahP rel h i j b) = ahP rel h i (j + 1) := by
  funext b
  unfold ahP
  by_cases e : b = 8 * i + j
  · rw [if_pos e]
    have e1 : b / 8 = i ∧ b % 8 = j := by omega
    rw [e1.1, e1.2, decide_eq_true (by omega), Bool.and_true]
    unfold ahR
    rw [decide_eq_true hi, decide_eq_true hj]
    rfl
  · rw [if_neg e]
    congr 1
    rw [Bool.eq_iff_iff, decide_eq_true_iff, decide_eq_true_iff]
    omega
theorem ahP_next {rel : Cl → Cl → Bool} {h : List Cl} {i : Nat} : ahP rel h i h.length = ahP rel h (i + 1) 0 := by
  funext b
  unfold ahP
  by_cases e : b % 8 < h.length
  · congr 1
    rw [Bool.eq_iff_iff, decide_eq_true_iff, decide_eq_true_iff]
    omega
  · have : ahR rel h (b / 8) (b % 8) = false := by
      unfold ahR
      rw [decide_eq_false e, Bool.false_and, Bool.and_false]
    rw [this, Bool.false_and, Bool.false_and]
theorem ahP_all {rel : Cl → Cl → Bool} {h : List Cl} : ahP rel h h.length 0 = fun b => ahR rel h (b / 8) (b % 8) := by
  funext b
  unfold ahP
  by_cases e : b / 8 < h.length
  · rw [decide_eq_true (by omega), Bool.and_true]
  · have : ahR rel h (b / 8) (b % 8) = false := by
      unfold ahR
      rw [decide_eq_false e, Bool.false_and]
    rw [this, Bool.false_and]
/-- How find stands: the search that it makes. -/
structure FdS (w X : World) (k : Int) (h : List Cl) (ha : Option Addr) (hc : Nat) (B9 S mb : Nat) (ahd : Nat → Bool) : Prop where
  s : X.heap[S]? = some (oSr k ha h.length hc (lastK h h.length) ahd mb none 0 0)
  m : X.heap[mb]? = some (.map #[] 0)
  t : X.heap[B9]? = some (oT k)
  b : Below w.heap.size w X
  d1 : w.heap.size ≤ S
  d2 : w.heap.size ≤ mb
  n : S ≠ mb
section
variable {w X X' : World} {k : Int} {h : List Cl} {ha : Option Addr} {hc : Nat} {rel : Cl → Cl → Bool} {B9 S mb : Nat} {ahd : Nat → Bool}
theorem FdS.later (g : FdS w X k h ha hc B9 S mb ahd) (hb : Below X.heap.size X X') : FdS w X' k h ha hc B9 S mb ahd := ⟨blk_on g.s hb, blk_on g.m hb, blk_on g.t hb, bthen g.b hb, g.d1, g.d2, g.n⟩
theorem FdS.ne (g : FdS w X k h ha hc B9 S mb ahd) : B9 ≠ S := fun q => by
  have h1 := g.t
  rw [q, g.s] at h1
  simp only [Option.some.injEq, Obj.cells.injEq] at h1
  exact absurd h1.2.1 (by decide)
theorem FdS.put (g : FdS w X k h ha hc B9 S mb ahd) {j : Nat} (hj : j < 64) (v : Bool) : FdS w (X.setCell ⟨S, 22 + j, none⟩ (.bool v)) k h ha hc B9 S mb (fun b => if b = j then v else ahd b) :=
  ⟨sr_storeA g.s hj v, (heap_setCell_other X ⟨S, 22 + j, none⟩ mb _ (Ne.symm g.n)).trans g.m, (heap_setCell_other X ⟨S, 22 + j, none⟩ B9 _ g.ne).trans g.t, g.b.setCell (p := ⟨S, 22 + j, none⟩) g.d1 _, g.d1, g.d2, g.n⟩
theorem FdS.gs (g : FdS w X k h ha hc B9 S mb fun b => ahR rel h (b / 8) (b % 8)) : GS w X k h ha hc rel S mb [] 0 [] none 0 :=
  ⟨g.s, mapT_of g.m, own_nil_q _ _ _ _, g.b, g.d1, g.d2, g.n, by simp [blk], by simp [blk], fun q hq => by simp at hq⟩
/-- A function of two operations, as find is given it. -/
structure RelF (rf : Nat) (rel : Cl → Cl → Bool) : Prop where
  c : ∀ x y w, Calls Try.prog rf #[x.val, y.val] w fun e w' => e = .returned (.bool (rel x y)) ∧ Below w.heap.size w w'
  e : ∀ args w, (callFunc rf args).run Try.prog w = .ok (.enter rf args) w
theorem relF_end : RelF 30 endB := ⟨fun x y w => end_any x y w, fun _ _ => cf_fn Try.func30 (by kernel_rfl) (by kernel_rfl) _ _⟩
theorem relF_turn : RelF 31 turnB := ⟨fun x y w => turn_any x y w, fun _ _ => cf_fn Try.func31 (by kernel_rfl) (by kernel_rfl) _ _⟩
/-- What find answers. -/
def FindP (k : Int) (h : List Cl) (rel : Cl → Cl → Bool) (lo : Nat) (e : Ending) (w' : World) : Prop :=
  (¬ RightH k h ∧ e = .returned (.tuple #[.slice none 0 0, .bool false, .int .i64 260])) ∨
  (RightH k h ∧ ((fsB k rel h (fun _ => false) (firstC k) = none ∧ e = .returned (.tuple #[.slice none 0 0, .bool false, .int .i64 0])) ∨
    ∃ (r : List Nat) (oa : Option Addr) (oc : Nat), fsB k rel h (fun _ => false) (firstC k) = some r ∧ e = .returned (.tuple #[.slice oa r.length oc, .bool true, .int .i64 0]) ∧ Rows w' 1 oa oc ((r.map fun (j : Nat) => (j : Int)).map chCells) ∧ ∀ b ∈ blk oa, lo ≤ b))
theorem cnt_none8 (n : Nat) : cntD (fun _ => false) n = 0 := by
  induction n with
  | zero => rfl
  | succ n ih => unfold cntD; rw [ih]; rfl
def fv2 (rf : Nat) : Value := .func (.func rf) #[] #[]
theorem sr_one (k : Int) (ha : Option Addr) (n hc : Nat) (must ahd : Nat → Bool) (mb : Nat) (oa : Option Addr) (on oc : Nat) : (srL k ha n hc must ahd mb oa on oc).toArray.all (·.oneCell') = true := by
  have hb : ∀ m (f : Nat → Bool), (boolRow m f).toList.all (·.oneCell') = true := fun m f => by
    rw [List.all_eq_true]
    intro x hx
    simp only [boolRow, List.mem_map] at hx
    obtain ⟨j, _, rfl⟩ := hx
    rfl
  rw [List.all_toArray]
  unfold srL
  rw [List.all_append, List.all_cons, List.all_append, List.all_append, hb, hb]
  rfl
theorem fd_new {V : World} (hb : Below w.heap.size w X) (h9 : X.heap[B9]? = some (oT k)) (hV : Below X.heap.size X V) (hm : V.heap[mb]? = some (.map #[] 0)) (hs : V.heap[S]? = some (.cells z88 TS)) (hS : X.heap.size ≤ S) (hM : X.heap.size ≤ mb) : FdS w (V.setRow S (srL k ha h.length hc (lastK h h.length) (fun _ => false) mb none 0 0).toArray) k h ha hc B9 S mb (fun _ => false) := by
  have hne : mb ≠ S := fun q => by
    rw [q, hs] at hm
    cases hm
  have h9l := (Array.getElem?_eq_some_iff.mp h9).1
  exact ⟨setRow_heap _ _ _ _ _ _ hs, (setRow_other _ _ _ _ hne).trans hm, (setRow_other _ _ _ _ (by omega)).trans (blk_on h9 hV), below_setRow (bthen hb hV) (by have := hb.size; omega) _, by have := hb.size; omega, by have := hb.size; omega, Ne.symm hne⟩
theorem look_yes (k : Int) (h : List Cl) (ha : Option Addr) (hc : Nat) (w : World) (hh : Rows w 7 ha hc (h.map Cl.cells)) (hR : RightH k h) : Calls Try.prog 28 #[.int .i64 k, .slice ha h.length hc] w fun e w' => e = .returned (.tuple #[.agg (vT k), .int .i64 0]) ∧ Below w.heap.size w w' :=
  (lookH_any k h ha hc w hh).mono fun e w' q => ⟨q.1.elim (fun q => q.2) (fun q => absurd hR q.1), q.2⟩
theorem look_no (k : Int) (h : List Cl) (ha : Option Addr) (hc : Nat) (w : World) (hh : Rows w 7 ha hc (h.map Cl.cells)) (hR : ¬ RightH k h) : Calls Try.prog 28 #[.int .i64 k, .slice ha h.length hc] w fun e w' => e = .returned (.tuple #[.agg zT, .int .i64 260]) ∧ Below w.heap.size w w' :=
  (lookH_any k h ha hc w hh).mono fun e w' q => ⟨q.1.elim (fun q => absurd q.1 hR) (fun q => q.2), q.2⟩
theorem reg_callvL {P : Program} {ops : Array Oper} {Q : Exit → Act → World → Prop} {S : World → Prop} {fuel : Nat} {listed : Array Bool} {a : Act} {w : World} {i : Nat} {o : Oper} (hr : Region.ready .any ops listed = [i]) (ho : ops[i]? = some o) (hw : Region.wanted o (yielded ops a.tmps) = true) (f : FuncId) (x y z : Operand) (ts : Array TypeId)
    (hc0 : o.op = .call { callee := .value x, args := #[y, z], argTypes := ts }) (hx : a.eval x = .func (.func f) #[] #[]) (v v2 : Value) (hv : a.eval y = v) (hv2 : a.eval z = v2) (hcf : ∀ args w, (callFunc f args).run P w = .ok (.enter f args) w) (R : Ending → World → Prop) (hc : Calls P f #[v, v2] w R)
    (hK : ∀ e w', R e w' → ∃ v, e = .returned v ∧ S w' ∧ (S w' → wpAnyH P .any ops Q S fuel (listed.setIfInBounds i true) (a.put o.dst v) w')) :
    wpAnyH P .any ops Q S (fuel + 1) listed a w := by
  refine wpAnyH_ready hr (by simp) (AllReadyH.cons ho (fun K hK2 => ?_) AllReadyH.nil)
  rw [if_pos hw]
  have hrun : (execOp a.eval o).run P w = .ok (.enter f #[v, v2]) w := by
    simp [execOp, hc0, resolve, invoke, hx, Deferred.ofValue, hcf, hv, hv2]
  unfold Oper.wp
  rw [hrun, Oper.upon_enter]
  refine hc.mono fun e w' h => ?_
  obtain ⟨v, rfl, hs, hk⟩ := hK e w' h
  exact hK2.out _ _ hs hk
theorem wpList_mkmap {P : Program} {ops : Array Oper} {rest : List Oper} {o : Oper} {a : Act} {w : World} {Q : Exit → Act → World → Prop} (hgd : o.guard = none) (t : TypeId) (ho : o.op = .makeMap t none) (h : wpList P ops Q rest (a.put o.dst (.map (some w.heap.size))) (w.alloc (.map #[] 0))) : wpList P ops Q (o :: rest) a w := wpList_plain hgd fun K hK => by
  have hr : (execOp a.eval o).run P w = .ok (.value (.map (some w.heap.size))) (w.alloc (.map #[] 0)) := by
    unfold execOp
    simp only [ho]
    exact run_val2 (run_makeMap t w)
  unfold Oper.wp
  rw [hr]
  exact hK _ _ h
set_option maxHeartbeats 8000000 in
theorem findH_any (rf : Nat) (hrf : RelF rf rel) (hh : Rows w 7 ha hc (h.map Cl.cells)) (hI : ∀ x ∈ h, I64 x.inn) : Calls Try.prog 29 #[.int .i64 k, .slice ha h.length hc, .func (.func rf) #[] #[]] w fun e w' => FindP k h rel w.heap.size e w' ∧ Below w.heap.size w w' := by
  have hhH : Hid (Rows w 7 ha hc (h.map Cl.cells)) := hh
  have hIH : Hid (∀ x ∈ h, I64 x.inn) := hI
  have hrH : Hid (RelF rf rel) := hrf
  have hb0 : Below w.heap.size w w := Below.refl _ _
  have huT : Hid (Try.prog.underlying 65 = _) := Try.underlying65
  have huX : Hid (Try.prog.underlying 53 = _) := Try.underlying53
  have huC : Hid (Try.prog.underlying 59 = _) := Try.underlying59
  have hnI : (h.length : Int) ≤ 9223372036854775807 := rows_len hh
  clear hh hI hrf
  by_cases hR : RightH k h
  · have hRH : Hid (RightH k h) := hR
    clear hR
    have cK : ∀ wx, Below w.heap.size w wx → Calls Try.prog 28 #[.int .i64 k, .slice ha h.length hc] wx _ := fun wx q => look_yes k h ha hc wx (hhH.out.later q) hRH.out
    have hn8 : h.length ≤ 8 := hRH.out.n
    go_enter Try.func29, Try.ntmps29
    go_upto_region 4 with (first
      | (go_at_call 28; (with_reducible refine (cK _ hb0).mono ?_); rintro e w1 ⟨rfl, hb1⟩; (have hb1H : Hid (Below w.heap.size w w1) := hb1); clear hb1 hb0 cK)
      | ((with_reducible refine at_allocL 65 rfl ?_); refine stopL_out ?_; refine wpList_alloc_big rfl 65 rfl zeroT ?_)
      | ((with_reducible refine at_storeL 65 _ _ rfl ?_); refine stopL_out ?_; refine wpList_store_row rfl 65 _ _ rfl w1.heap.size (vT k) rfl rfl _ _ (heap_alloc_new _ _) infoT rfl (by simp [vT, fv, Value.oneCell']) ?_))
    obtain ⟨X1, hX1⟩ : ∃ X1, (w1.alloc (.cells zT 65)).setRow w1.heap.size (vT k) = X1 := ⟨_, rfl⟩
    have h9 : Hid (X1.heap[w1.heap.size]? = some (oT k)) := by (rw [← hX1]; exact new_row.1)
    have hbX : Hid (Below w.heap.size w X1) := by (rw [← hX1]; exact bthen hb1H.out new_row.2)
    rw [hX1]
    generalize w1.heap.size = B9 at *
    clear hX1 hb1H
    go_cut [11] (fun u11 wx => ∃ SB MB : Nat, u11 = .pointer (some ⟨SB, 0, none⟩) ∧ Hid (FdS w wx k h ha hc B9 SB MB (fun _ => false)))
    case first =>
      have hS : Hid (Below X1.heap.size X1 X1.drew) := bey_drew X1
      have hRd : Hid (∀ w', Below X1.heap.size X1 w' → w'.rangeAt B9 0 (vT k).toList) := fun w' q => rng_blk (blk_on h9.out q)
      have cL : ∀ wx, Below X1.heap.size X1 wx → Calls Try.prog 45 #[.slice ha h.length hc] wx _ := fun wx q => lasting_any h ha hc wx (hhH.out.later (bthen hbX.out q)) hRH.out.n
      refine wp_region_noPanic ?_
      refine wp_region_held_drew (S := fun w' => Below X1.heap.size X1 w') (by kernel_rfl) hS.out (fun _ => ?_)
      refine reg_load (i := 0) rfl (by kernel_rfl) (by kernel_rfl) (by kernel_rfl) (fun _ _ _ _ h => h) rfl 65 _ rfl B9 0 rfl (vT k).toList _ (fun w' q => hRd.out w' q) Try.underlying65 rfl infoT hS.out ?_
      simp only [Act.put, List.getElem_toArray, List.getElem_cons_succ, List.getElem_cons_zero, List.setIfInBounds_toArray, List.set_cons_zero, List.set_cons_succ]
      refine reg_move (i := 1) rfl (by kernel_rfl) (by kernel_rfl) (by kernel_rfl) (fun _ _ _ _ h => h) rfl (.slice ha h.length hc) (fun _ => rfl) hS.out ?_
      simp only [Act.put, List.getElem_toArray, List.getElem_cons_succ, List.getElem_cons_zero, List.setIfInBounds_toArray, List.set_cons_zero, List.set_cons_succ]
      refine reg_move (i := 2) rfl (by kernel_rfl) (by kernel_rfl) (by kernel_rfl) (fun _ _ _ _ h => h) rfl (.slice ha h.length hc) (fun _ => rfl) hS.out ?_
      simp only [Act.put, List.getElem_toArray, List.getElem_cons_succ, List.getElem_cons_zero, List.setIfInBounds_toArray, List.set_cons_zero, List.set_cons_succ]
      refine wpAnyH_ready (show Region.ready .any _ _ = [3, 4, 6] by kernel_rfl) (by simp) (AllReadyH.cons rfl (arm_call1 rfl 45 _ _ rfl (.slice ha h.length hc) rfl (cf_fn Try.func45 (by kernel_rfl) (by kernel_rfl) _ _) _ (cL _ hS.out) ?_) (AllReadyH.cons rfl (arm_list rfl (wpList_mkmap rfl 103 rfl (wpList_nil (And.intro (bthen hS.out (boxed _ _)) fun _ => ?_)))) (AllReadyH.cons rfl (arm_list rfl (wpList_alloc_big rfl 106 rfl zeroS (wpList_nil (And.intro (bthen hS.out (boxed _ _)) fun _ => ?_)))) AllReadyH.nil)))
      · rintro e1 VC ⟨rfl, hbc⟩
        have hZ0 : Hid (Below X1.heap.size X1 VC) := bthen hS.out hbc
        refine ⟨_, rfl, hZ0.out, fun _ => ?_⟩
        simp only [Act.put, List.getElem_toArray, List.getElem_cons_succ, List.getElem_cons_zero, List.setIfInBounds_toArray, List.set_cons_zero, List.set_cons_succ]
        refine wpAnyH_ready (show Region.ready .any _ _ = [4, 6] by kernel_rfl) (by simp) (AllReadyH.cons rfl (arm_list rfl (wpList_mkmap rfl 103 rfl (wpList_nil (And.intro (bthen hZ0.out (boxed _ _)) fun _ => ?_)))) (AllReadyH.cons rfl (arm_list rfl (wpList_alloc_big rfl 106 rfl zeroS (wpList_nil (And.intro (bthen hZ0.out (boxed _ _)) fun _ => ?_)))) AllReadyH.nil))
        · simp only [Act.put, List.getElem_toArray, List.getElem_cons_succ, List.getElem_cons_zero, List.setIfInBounds_toArray, List.set_cons_zero, List.set_cons_succ]
          obtain ⟨VM, hVM⟩ : ∃ VM, World.alloc VC (.map #[] 0) = VM := ⟨_, rfl⟩
          have hM0 : Hid (Below X1.heap.size X1 VM ∧ VM.heap[World.heap VC |>.size]? = some (.map #[] 0) ∧ X1.heap.size ≤ (World.heap VC).size) := by (rw [← hVM]; exact ⟨bthen hZ0.out (boxed _ _), heap_alloc_new _ _, (hZ0.out).size⟩)
          rw [hVM]
          generalize (World.heap VC).size = MB at *
          clear hVM
          refine reg_move (i := 5) rfl (by kernel_rfl) (by kernel_rfl) (by kernel_rfl) (fun _ _ _ _ h => h) rfl (.agg (srL k ha h.length hc (lastK h h.length) (fun _ => false) MB none 0 0).toArray) (fun wx => by unfold execOp; exact run_val2 (by simp only [List.map_toArray, List.map_cons, List.map_nil]; exact bld_S k ha h.length hc (lastK h h.length) MB wx)) hM0.out.1 ?_
          simp only [Act.put, List.getElem_toArray, List.getElem_cons_succ, List.getElem_cons_zero, List.setIfInBounds_toArray, List.set_cons_zero, List.set_cons_succ]
          refine wpAnyH_ready (show Region.ready .any _ _ = [6] by kernel_rfl) (by simp) (AllReadyH.cons rfl (arm_list rfl (wpList_alloc_big rfl 106 rfl zeroS (wpList_nil (And.intro (bthen hM0.out.1 (boxed _ _)) fun _ => ?_)))) AllReadyH.nil)
          simp only [Act.put, List.getElem_toArray, List.getElem_cons_succ, List.getElem_cons_zero, List.setIfInBounds_toArray, List.set_cons_zero, List.set_cons_succ]
          obtain ⟨VA, hVA⟩ : ∃ VA, World.alloc VM (.cells z88 106) = VA := ⟨_, rfl⟩
          have hA0 : Hid (Below X1.heap.size X1 VA ∧ VA.heap[(World.heap VM).size]? = some (.cells z88 TS) ∧ VA.heap[MB]? = some (.map #[] 0) ∧ X1.heap.size ≤ (World.heap VM).size) := by (rw [← hVA]; exact ⟨bthen hM0.out.1 (boxed _ _), heap_alloc_new _ _, blk_on hM0.out.2.1 (boxed _ _), (hM0.out.1).size⟩)
          rw [hVA]
          generalize (World.heap VM).size = SB at *
          clear hVA
          have hZ : Hid (Below X1.heap.size X1 VA ∧ (World.heap VA)[MB]? = some (.map #[] 0) ∧ (World.heap VA)[SB]? = some (.cells z88 TS)) := ⟨hA0.out.1, hA0.out.2.2.1, hA0.out.2.1⟩
          have hSB : Hid (X1.heap.size ≤ SB) := hA0.out.2.2.2
          have hMB : Hid (X1.heap.size ≤ MB) := hM0.out.2.2
          refine reg_one (i := 7) (by kernel_rfl) rfl rfl (wpList_store_row rfl 106 _ _ rfl SB (srL k ha h.length hc (lastK h h.length) (fun _ => false) MB none 0 0).toArray rfl rfl _ _ hZ.out.2.2 (by rw [List.size_toArray, sr_len]; exact infoS) (by rw [List.size_toArray, List.size_toArray, sr_len]; rfl) (sr_one _ _ _ _ _ _ _ _ _ _) (wpList_nil (And.intro (below_setRow hZ.out.1 hSB.out _) fun _ => ?_)))
          simp only [Act.put, List.getElem_toArray, List.getElem_cons_succ, List.getElem_cons_zero, List.setIfInBounds_toArray, List.set_cons_zero, List.set_cons_succ]
          refine wpAnyH_done (by kernel_rfl) (NoPanic.normal ?_) _
          have hF : Hid (FdS w (World.setRow VA SB (srL k ha h.length hc (lastK h h.length) (fun _ => false) MB none 0 0).toArray) k h ha hc B9 SB MB (fun _ => false)) := fd_new hbX.out h9.out hZ.out.1 hZ.out.2.1 hZ.out.2.2 hSB.out hMB.out
          generalize World.setRow VA SB _ = Y at *
          go_wp2_with fail
          go_meet
          case rel => exact ⟨SB, MB, rfl, hF.out⟩
        · simp only [Act.put, List.getElem_toArray, List.getElem_cons_succ, List.getElem_cons_zero, List.setIfInBounds_toArray, List.set_cons_zero, List.set_cons_succ]
          obtain ⟨VA, hVA⟩ : ∃ VA, World.alloc VC (.cells z88 106) = VA := ⟨_, rfl⟩
          have hA0 : Hid (Below X1.heap.size X1 VA ∧ VA.heap[(World.heap VC).size]? = some (.cells z88 TS) ∧ X1.heap.size ≤ (World.heap VC).size) := by (rw [← hVA]; exact ⟨bthen hZ0.out (boxed _ _), heap_alloc_new _ _, (hZ0.out).size⟩)
          rw [hVA]
          generalize (World.heap VC).size = SB at *
          clear hVA
          refine wpAnyH_ready (show Region.ready .any _ _ = [4] by kernel_rfl) (by simp) (AllReadyH.cons rfl (arm_list rfl (wpList_mkmap rfl 103 rfl (wpList_nil (And.intro (bthen hA0.out.1 (boxed _ _)) fun _ => ?_)))) AllReadyH.nil)
          simp only [Act.put, List.getElem_toArray, List.getElem_cons_succ, List.getElem_cons_zero, List.setIfInBounds_toArray, List.set_cons_zero, List.set_cons_succ]
          obtain ⟨VM, hVM⟩ : ∃ VM, World.alloc VA (.map #[] 0) = VM := ⟨_, rfl⟩
          have hM0 : Hid (Below X1.heap.size X1 VM ∧ VM.heap[World.heap VA |>.size]? = some (.map #[] 0) ∧ VM.heap[SB]? = some (.cells z88 TS) ∧ X1.heap.size ≤ (World.heap VA).size) := by (rw [← hVM]; exact ⟨bthen hA0.out.1 (boxed _ _), heap_alloc_new _ _, blk_on hA0.out.2.1 (boxed _ _), (hA0.out.1).size⟩)
          rw [hVM]
          generalize (World.heap VA).size = MB at *
          clear hVM
          refine reg_move (i := 5) rfl (by kernel_rfl) (by kernel_rfl) (by kernel_rfl) (fun _ _ _ _ h => h) rfl (.agg (srL k ha h.length hc (lastK h h.length) (fun _ => false) MB none 0 0).toArray) (fun wx => by unfold execOp; exact run_val2 (by simp only [List.map_toArray, List.map_cons, List.map_nil]; exact bld_S k ha h.length hc (lastK h h.length) MB wx)) hM0.out.1 ?_
          simp only [Act.put, List.getElem_toArray, List.getElem_cons_succ, List.getElem_cons_zero, List.setIfInBounds_toArray, List.set_cons_zero, List.set_cons_succ]
          have hZ : Hid (Below X1.heap.size X1 VM ∧ (World.heap VM)[MB]? = some (.map #[] 0) ∧ (World.heap VM)[SB]? = some (.cells z88 TS)) := ⟨hM0.out.1, hM0.out.2.1, hM0.out.2.2.1⟩
          have hSB : Hid (X1.heap.size ≤ SB) := hA0.out.2.2
          have hMB : Hid (X1.heap.size ≤ MB) := hM0.out.2.2.2
          refine reg_one (i := 7) (by kernel_rfl) rfl rfl (wpList_store_row rfl 106 _ _ rfl SB (srL k ha h.length hc (lastK h h.length) (fun _ => false) MB none 0 0).toArray rfl rfl _ _ hZ.out.2.2 (by rw [List.size_toArray, sr_len]; exact infoS) (by rw [List.size_toArray, List.size_toArray, sr_len]; rfl) (sr_one _ _ _ _ _ _ _ _ _ _) (wpList_nil (And.intro (below_setRow hZ.out.1 hSB.out _) fun _ => ?_)))
          simp only [Act.put, List.getElem_toArray, List.getElem_cons_succ, List.getElem_cons_zero, List.setIfInBounds_toArray, List.set_cons_zero, List.set_cons_succ]
          refine wpAnyH_done (by kernel_rfl) (NoPanic.normal ?_) _
          have hF : Hid (FdS w (World.setRow VM SB (srL k ha h.length hc (lastK h h.length) (fun _ => false) MB none 0 0).toArray) k h ha hc B9 SB MB (fun _ => false)) := fd_new hbX.out h9.out hZ.out.1 hZ.out.2.1 hZ.out.2.2 hSB.out hMB.out
          generalize World.setRow VM SB _ = Y at *
          go_wp2_with fail
          go_meet
          case rel => exact ⟨SB, MB, rfl, hF.out⟩
      · simp only [Act.put, List.getElem_toArray, List.getElem_cons_succ, List.getElem_cons_zero, List.setIfInBounds_toArray, List.set_cons_zero, List.set_cons_succ]
        obtain ⟨VM, hVM⟩ : ∃ VM, World.alloc X1.drew (.map #[] 0) = VM := ⟨_, rfl⟩
        have hM0 : Hid (Below X1.heap.size X1 VM ∧ VM.heap[World.heap X1.drew |>.size]? = some (.map #[] 0) ∧ X1.heap.size ≤ (World.heap X1.drew).size) := by (rw [← hVM]; exact ⟨bthen hS.out (boxed _ _), heap_alloc_new _ _, (hS.out).size⟩)
        rw [hVM]
        generalize (World.heap X1.drew).size = MB at *
        clear hVM
        refine wpAnyH_ready (show Region.ready .any _ _ = [3, 6] by kernel_rfl) (by simp) (AllReadyH.cons rfl (arm_call1 rfl 45 _ _ rfl (.slice ha h.length hc) rfl (cf_fn Try.func45 (by kernel_rfl) (by kernel_rfl) _ _) _ (cL _ hM0.out.1) ?_) (AllReadyH.cons rfl (arm_list rfl (wpList_alloc_big rfl 106 rfl zeroS (wpList_nil (And.intro (bthen hM0.out.1 (boxed _ _)) fun _ => ?_)))) AllReadyH.nil))
        · rintro e1 VC ⟨rfl, hbc⟩
          have hZ0 : Hid (Below X1.heap.size X1 VC ∧ VC.heap[MB]? = some (.map #[] 0)) := ⟨bthen hM0.out.1 hbc, blk_on hM0.out.2.1 hbc⟩
          refine ⟨_, rfl, hZ0.out.1, fun _ => ?_⟩
          simp only [Act.put, List.getElem_toArray, List.getElem_cons_succ, List.getElem_cons_zero, List.setIfInBounds_toArray, List.set_cons_zero, List.set_cons_succ]
          refine reg_move (i := 5) rfl (by kernel_rfl) (by kernel_rfl) (by kernel_rfl) (fun _ _ _ _ h => h) rfl (.agg (srL k ha h.length hc (lastK h h.length) (fun _ => false) MB none 0 0).toArray) (fun wx => by unfold execOp; exact run_val2 (by simp only [List.map_toArray, List.map_cons, List.map_nil]; exact bld_S k ha h.length hc (lastK h h.length) MB wx)) hZ0.out.1 ?_
          simp only [Act.put, List.getElem_toArray, List.getElem_cons_succ, List.getElem_cons_zero, List.setIfInBounds_toArray, List.set_cons_zero, List.set_cons_succ]
          refine wpAnyH_ready (show Region.ready .any _ _ = [6] by kernel_rfl) (by simp) (AllReadyH.cons rfl (arm_list rfl (wpList_alloc_big rfl 106 rfl zeroS (wpList_nil (And.intro (bthen hZ0.out.1 (boxed _ _)) fun _ => ?_)))) AllReadyH.nil)
          simp only [Act.put, List.getElem_toArray, List.getElem_cons_succ, List.getElem_cons_zero, List.setIfInBounds_toArray, List.set_cons_zero, List.set_cons_succ]
          obtain ⟨VA, hVA⟩ : ∃ VA, World.alloc VC (.cells z88 106) = VA := ⟨_, rfl⟩
          have hA0 : Hid (Below X1.heap.size X1 VA ∧ VA.heap[(World.heap VC).size]? = some (.cells z88 TS) ∧ VA.heap[MB]? = some (.map #[] 0) ∧ X1.heap.size ≤ (World.heap VC).size) := by (rw [← hVA]; exact ⟨bthen hZ0.out.1 (boxed _ _), heap_alloc_new _ _, blk_on hZ0.out.2 (boxed _ _), (hZ0.out.1).size⟩)
          rw [hVA]
          generalize (World.heap VC).size = SB at *
          clear hVA
          have hZ : Hid (Below X1.heap.size X1 VA ∧ (World.heap VA)[MB]? = some (.map #[] 0) ∧ (World.heap VA)[SB]? = some (.cells z88 TS)) := ⟨hA0.out.1, hA0.out.2.2.1, hA0.out.2.1⟩
          have hSB : Hid (X1.heap.size ≤ SB) := hA0.out.2.2.2
          have hMB : Hid (X1.heap.size ≤ MB) := hM0.out.2.2
          refine reg_one (i := 7) (by kernel_rfl) rfl rfl (wpList_store_row rfl 106 _ _ rfl SB (srL k ha h.length hc (lastK h h.length) (fun _ => false) MB none 0 0).toArray rfl rfl _ _ hZ.out.2.2 (by rw [List.size_toArray, sr_len]; exact infoS) (by rw [List.size_toArray, List.size_toArray, sr_len]; rfl) (sr_one _ _ _ _ _ _ _ _ _ _) (wpList_nil (And.intro (below_setRow hZ.out.1 hSB.out _) fun _ => ?_)))
          simp only [Act.put, List.getElem_toArray, List.getElem_cons_succ, List.getElem_cons_zero, List.setIfInBounds_toArray, List.set_cons_zero, List.set_cons_succ]
          refine wpAnyH_done (by kernel_rfl) (NoPanic.normal ?_) _
          have hF : Hid (FdS w (World.setRow VA SB (srL k ha h.length hc (lastK h h.length) (fun _ => false) MB none 0 0).toArray) k h ha hc B9 SB MB (fun _ => false)) := fd_new hbX.out h9.out hZ.out.1 hZ.out.2.1 hZ.out.2.2 hSB.out hMB.out
          generalize World.setRow VA SB _ = Y at *
          go_wp2_with fail
          go_meet
          case rel => exact ⟨SB, MB, rfl, hF.out⟩
        · simp only [Act.put, List.getElem_toArray, List.getElem_cons_succ, List.getElem_cons_zero, List.setIfInBounds_toArray, List.set_cons_zero, List.set_cons_succ]
          obtain ⟨VA, hVA⟩ : ∃ VA, World.alloc VM (.cells z88 106) = VA := ⟨_, rfl⟩
          have hA0 : Hid (Below X1.heap.size X1 VA ∧ VA.heap[(World.heap VM).size]? = some (.cells z88 TS) ∧ VA.heap[MB]? = some (.map #[] 0) ∧ X1.heap.size ≤ (World.heap VM).size) := by (rw [← hVA]; exact ⟨bthen hM0.out.1 (boxed _ _), heap_alloc_new _ _, blk_on hM0.out.2.1 (boxed _ _), (hM0.out.1).size⟩)
          rw [hVA]
          generalize (World.heap VM).size = SB at *
          clear hVA
          refine wpAnyH_ready (show Region.ready .any _ _ = [3] by kernel_rfl) (by simp) (AllReadyH.cons rfl (arm_call1 rfl 45 _ _ rfl (.slice ha h.length hc) rfl (cf_fn Try.func45 (by kernel_rfl) (by kernel_rfl) _ _) _ (cL _ hA0.out.1) ?_) AllReadyH.nil)
          rintro e1 VC ⟨rfl, hbc⟩
          have hZ0 : Hid (Below X1.heap.size X1 VC ∧ VC.heap[MB]? = some (.map #[] 0) ∧ VC.heap[SB]? = some (.cells z88 TS)) := ⟨bthen hA0.out.1 hbc, blk_on hA0.out.2.2.1 hbc, blk_on hA0.out.2.1 hbc⟩
          refine ⟨_, rfl, hZ0.out.1, fun _ => ?_⟩
          simp only [Act.put, List.getElem_toArray, List.getElem_cons_succ, List.getElem_cons_zero, List.setIfInBounds_toArray, List.set_cons_zero, List.set_cons_succ]
          refine reg_move (i := 5) rfl (by kernel_rfl) (by kernel_rfl) (by kernel_rfl) (fun _ _ _ _ h => h) rfl (.agg (srL k ha h.length hc (lastK h h.length) (fun _ => false) MB none 0 0).toArray) (fun wx => by unfold execOp; exact run_val2 (by simp only [List.map_toArray, List.map_cons, List.map_nil]; exact bld_S k ha h.length hc (lastK h h.length) MB wx)) hZ0.out.1 ?_
          simp only [Act.put, List.getElem_toArray, List.getElem_cons_succ, List.getElem_cons_zero, List.setIfInBounds_toArray, List.set_cons_zero, List.set_cons_succ]
          have hZ : Hid (Below X1.heap.size X1 VC ∧ (World.heap VC)[MB]? = some (.map #[] 0) ∧ (World.heap VC)[SB]? = some (.cells z88 TS)) := ⟨hZ0.out.1, hZ0.out.2.1, hZ0.out.2.2⟩
          have hSB : Hid (X1.heap.size ≤ SB) := hA0.out.2.2.2
          have hMB : Hid (X1.heap.size ≤ MB) := hM0.out.2.2
          refine reg_one (i := 7) (by kernel_rfl) rfl rfl (wpList_store_row rfl 106 _ _ rfl SB (srL k ha h.length hc (lastK h h.length) (fun _ => false) MB none 0 0).toArray rfl rfl _ _ hZ.out.2.2 (by rw [List.size_toArray, sr_len]; exact infoS) (by rw [List.size_toArray, List.size_toArray, sr_len]; rfl) (sr_one _ _ _ _ _ _ _ _ _ _) (wpList_nil (And.intro (below_setRow hZ.out.1 hSB.out _) fun _ => ?_)))
          simp only [Act.put, List.getElem_toArray, List.getElem_cons_succ, List.getElem_cons_zero, List.setIfInBounds_toArray, List.set_cons_zero, List.set_cons_succ]
          refine wpAnyH_done (by kernel_rfl) (NoPanic.normal ?_) _
          have hF : Hid (FdS w (World.setRow VC SB (srL k ha h.length hc (lastK h h.length) (fun _ => false) MB none 0 0).toArray) k h ha hc B9 SB MB (fun _ => false)) := fd_new hbX.out h9.out hZ.out.1 hZ.out.2.1 hZ.out.2.2 hSB.out hMB.out
          generalize World.setRow VC SB _ = Y at *
          go_wp2_with fail
          go_meet
          case rel => exact ⟨SB, MB, rfl, hF.out⟩
      · simp only [Act.put, List.getElem_toArray, List.getElem_cons_succ, List.getElem_cons_zero, List.setIfInBounds_toArray, List.set_cons_zero, List.set_cons_succ]
        obtain ⟨VA, hVA⟩ : ∃ VA, World.alloc X1.drew (.cells z88 106) = VA := ⟨_, rfl⟩
        have hA0 : Hid (Below X1.heap.size X1 VA ∧ VA.heap[(World.heap X1.drew).size]? = some (.cells z88 TS) ∧ X1.heap.size ≤ (World.heap X1.drew).size) := by (rw [← hVA]; exact ⟨bthen hS.out (boxed _ _), heap_alloc_new _ _, (hS.out).size⟩)
        rw [hVA]
        generalize (World.heap X1.drew).size = SB at *
        clear hVA
        refine wpAnyH_ready (show Region.ready .any _ _ = [3, 4] by kernel_rfl) (by simp) (AllReadyH.cons rfl (arm_call1 rfl 45 _ _ rfl (.slice ha h.length hc) rfl (cf_fn Try.func45 (by kernel_rfl) (by kernel_rfl) _ _) _ (cL _ hA0.out.1) ?_) (AllReadyH.cons rfl (arm_list rfl (wpList_mkmap rfl 103 rfl (wpList_nil (And.intro (bthen hA0.out.1 (boxed _ _)) fun _ => ?_)))) AllReadyH.nil))
        · rintro e1 VC ⟨rfl, hbc⟩
          have hZ0 : Hid (Below X1.heap.size X1 VC ∧ VC.heap[SB]? = some (.cells z88 TS)) := ⟨bthen hA0.out.1 hbc, blk_on hA0.out.2.1 hbc⟩
          refine ⟨_, rfl, hZ0.out.1, fun _ => ?_⟩
          simp only [Act.put, List.getElem_toArray, List.getElem_cons_succ, List.getElem_cons_zero, List.setIfInBounds_toArray, List.set_cons_zero, List.set_cons_succ]
          refine wpAnyH_ready (show Region.ready .any _ _ = [4] by kernel_rfl) (by simp) (AllReadyH.cons rfl (arm_list rfl (wpList_mkmap rfl 103 rfl (wpList_nil (And.intro (bthen hZ0.out.1 (boxed _ _)) fun _ => ?_)))) AllReadyH.nil)
          simp only [Act.put, List.getElem_toArray, List.getElem_cons_succ, List.getElem_cons_zero, List.setIfInBounds_toArray, List.set_cons_zero, List.set_cons_succ]
          obtain ⟨VM, hVM⟩ : ∃ VM, World.alloc VC (.map #[] 0) = VM := ⟨_, rfl⟩
          have hM0 : Hid (Below X1.heap.size X1 VM ∧ VM.heap[World.heap VC |>.size]? = some (.map #[] 0) ∧ VM.heap[SB]? = some (.cells z88 TS) ∧ X1.heap.size ≤ (World.heap VC).size) := by (rw [← hVM]; exact ⟨bthen hZ0.out.1 (boxed _ _), heap_alloc_new _ _, blk_on hZ0.out.2 (boxed _ _), (hZ0.out.1).size⟩)
          rw [hVM]
          generalize (World.heap VC).size = MB at *
          clear hVM
          refine reg_move (i := 5) rfl (by kernel_rfl) (by kernel_rfl) (by kernel_rfl) (fun _ _ _ _ h => h) rfl (.agg (srL k ha h.length hc (lastK h h.length) (fun _ => false) MB none 0 0).toArray) (fun wx => by unfold execOp; exact run_val2 (by simp only [List.map_toArray, List.map_cons, List.map_nil]; exact bld_S k ha h.length hc (lastK h h.length) MB wx)) hM0.out.1 ?_
          simp only [Act.put, List.getElem_toArray, List.getElem_cons_succ, List.getElem_cons_zero, List.setIfInBounds_toArray, List.set_cons_zero, List.set_cons_succ]
          have hZ : Hid (Below X1.heap.size X1 VM ∧ (World.heap VM)[MB]? = some (.map #[] 0) ∧ (World.heap VM)[SB]? = some (.cells z88 TS)) := ⟨hM0.out.1, hM0.out.2.1, hM0.out.2.2.1⟩
          have hSB : Hid (X1.heap.size ≤ SB) := hA0.out.2.2
          have hMB : Hid (X1.heap.size ≤ MB) := hM0.out.2.2.2
          refine reg_one (i := 7) (by kernel_rfl) rfl rfl (wpList_store_row rfl 106 _ _ rfl SB (srL k ha h.length hc (lastK h h.length) (fun _ => false) MB none 0 0).toArray rfl rfl _ _ hZ.out.2.2 (by rw [List.size_toArray, sr_len]; exact infoS) (by rw [List.size_toArray, List.size_toArray, sr_len]; rfl) (sr_one _ _ _ _ _ _ _ _ _ _) (wpList_nil (And.intro (below_setRow hZ.out.1 hSB.out _) fun _ => ?_)))
          simp only [Act.put, List.getElem_toArray, List.getElem_cons_succ, List.getElem_cons_zero, List.setIfInBounds_toArray, List.set_cons_zero, List.set_cons_succ]
          refine wpAnyH_done (by kernel_rfl) (NoPanic.normal ?_) _
          have hF : Hid (FdS w (World.setRow VM SB (srL k ha h.length hc (lastK h h.length) (fun _ => false) MB none 0 0).toArray) k h ha hc B9 SB MB (fun _ => false)) := fd_new hbX.out h9.out hZ.out.1 hZ.out.2.1 hZ.out.2.2 hSB.out hMB.out
          generalize World.setRow VM SB _ = Y at *
          go_wp2_with fail
          go_meet
          case rel => exact ⟨SB, MB, rfl, hF.out⟩
        · simp only [Act.put, List.getElem_toArray, List.getElem_cons_succ, List.getElem_cons_zero, List.setIfInBounds_toArray, List.set_cons_zero, List.set_cons_succ]
          obtain ⟨VM, hVM⟩ : ∃ VM, World.alloc VA (.map #[] 0) = VM := ⟨_, rfl⟩
          have hM0 : Hid (Below X1.heap.size X1 VM ∧ VM.heap[World.heap VA |>.size]? = some (.map #[] 0) ∧ VM.heap[SB]? = some (.cells z88 TS) ∧ X1.heap.size ≤ (World.heap VA).size) := by (rw [← hVM]; exact ⟨bthen hA0.out.1 (boxed _ _), heap_alloc_new _ _, blk_on hA0.out.2.1 (boxed _ _), (hA0.out.1).size⟩)
          rw [hVM]
          generalize (World.heap VA).size = MB at *
          clear hVM
          refine wpAnyH_ready (show Region.ready .any _ _ = [3] by kernel_rfl) (by simp) (AllReadyH.cons rfl (arm_call1 rfl 45 _ _ rfl (.slice ha h.length hc) rfl (cf_fn Try.func45 (by kernel_rfl) (by kernel_rfl) _ _) _ (cL _ hM0.out.1) ?_) AllReadyH.nil)
          rintro e1 VC ⟨rfl, hbc⟩
          have hZ0 : Hid (Below X1.heap.size X1 VC ∧ VC.heap[MB]? = some (.map #[] 0) ∧ VC.heap[SB]? = some (.cells z88 TS)) := ⟨bthen hM0.out.1 hbc, blk_on hM0.out.2.1 hbc, blk_on hM0.out.2.2.1 hbc⟩
          refine ⟨_, rfl, hZ0.out.1, fun _ => ?_⟩
          simp only [Act.put, List.getElem_toArray, List.getElem_cons_succ, List.getElem_cons_zero, List.setIfInBounds_toArray, List.set_cons_zero, List.set_cons_succ]
          refine reg_move (i := 5) rfl (by kernel_rfl) (by kernel_rfl) (by kernel_rfl) (fun _ _ _ _ h => h) rfl (.agg (srL k ha h.length hc (lastK h h.length) (fun _ => false) MB none 0 0).toArray) (fun wx => by unfold execOp; exact run_val2 (by simp only [List.map_toArray, List.map_cons, List.map_nil]; exact bld_S k ha h.length hc (lastK h h.length) MB wx)) hZ0.out.1 ?_
          simp only [Act.put, List.getElem_toArray, List.getElem_cons_succ, List.getElem_cons_zero, List.setIfInBounds_toArray, List.set_cons_zero, List.set_cons_succ]
          have hZ : Hid (Below X1.heap.size X1 VC ∧ (World.heap VC)[MB]? = some (.map #[] 0) ∧ (World.heap VC)[SB]? = some (.cells z88 TS)) := ⟨hZ0.out.1, hZ0.out.2.1, hZ0.out.2.2⟩
          have hSB : Hid (X1.heap.size ≤ SB) := hA0.out.2.2
          have hMB : Hid (X1.heap.size ≤ MB) := hM0.out.2.2.2
          refine reg_one (i := 7) (by kernel_rfl) rfl rfl (wpList_store_row rfl 106 _ _ rfl SB (srL k ha h.length hc (lastK h h.length) (fun _ => false) MB none 0 0).toArray rfl rfl _ _ hZ.out.2.2 (by rw [List.size_toArray, sr_len]; exact infoS) (by rw [List.size_toArray, List.size_toArray, sr_len]; rfl) (sr_one _ _ _ _ _ _ _ _ _ _) (wpList_nil (And.intro (below_setRow hZ.out.1 hSB.out _) fun _ => ?_)))
          simp only [Act.put, List.getElem_toArray, List.getElem_cons_succ, List.getElem_cons_zero, List.setIfInBounds_toArray, List.set_cons_zero, List.set_cons_succ]
          refine wpAnyH_done (by kernel_rfl) (NoPanic.normal ?_) _
          have hF : Hid (FdS w (World.setRow VC SB (srL k ha h.length hc (lastK h h.length) (fun _ => false) MB none 0 0).toArray) k h ha hc B9 SB MB (fun _ => false)) := fd_new hbX.out h9.out hZ.out.1 hZ.out.2.1 hZ.out.2.2 hSB.out hMB.out
          generalize World.setRow VC SB _ = Y at *
          go_wp2_with fail
          go_meet
          case rel => exact ⟨SB, MB, rfl, hF.out⟩
    case rest =>
      obtain ⟨S, mb, rfl, hF0⟩ := hcut
      rw [← ahP_zero rel h] at hF0
      clear h9 hbX
      generalize wc = X2 at *
      have hF0' : Hid (FdS w X2 k h ha hc B9 S mb (ahP rel h 0 0)) := hF0
      clear hF0
      go_wp2_with fail
      go_loopw [33] (fun u wr => ∃ i : Nat, i ≤ h.length ∧ u = .int .i64 (i : Int) ∧ Hid (FdS w wr k h ha hc B9 S mb (ahP rel h i 0))) (fun u _ => h.length - (intOf u).toNat)
      case atStart => exact ⟨0, Nat.zero_le _, rfl, hF0'⟩
      case round =>
        obtain ⟨i, hi, rfl, hF⟩ := hrel
        clear hF0'
        by_cases hlt : i < h.length
        · have hiI : (i : Int) < h.length := by omega
          have hi8 : i < 8 := by omega
          obtain ⟨b1, o1, x1, _, r1⟩ := cl_ix (hhH.out.later hF.out.b) hlt
          obtain ⟨x, hx⟩ : ∃ x, hf h i = x := ⟨_, rfl⟩
          have hxH : Hid (hf h i = x) := hx
          rw [hx] at r1
          have r1H : Hid (wr.rangeAt b1 o1 [.int .i64 x.go, .int .i64 x.d, .int .i64 x.inn, .int .i64 x.out, .bool x.em, .int .i64 x.bg, .int .i64 x.en]) := r1
          clear r1 hx
          go_upto_region 8 with ((with_reducible refine at_loadL 53 (.tmp 36) rfl ?_); refine stopL_out ?_; refine wpList_load_mid rfl 53 _ rfl b1 o1 rfl [.int .i64 x.go, .int .i64 x.d, .int .i64 x.inn, .int .i64 x.out, .bool x.em, .int .i64 x.bg, .int .i64 x.en] _ r1H.out huX.out rfl infoX ?_)
          have hF1 : Hid (FdS w (wr.alloc (oCl x)) k h ha hc B9 S mb (ahP rel h i 0) ∧ (wr.alloc (oCl x)).heap[wr.heap.size]? = some (oCl x)) := ⟨hF.out.later (boxed _ _), heap_alloc_new _ _⟩
          obtain ⟨X3, hX3⟩ : ∃ X3, wr.alloc (oCl x) = X3 := ⟨_, rfl⟩
          rw [hX3] at hF1 ⊢
          generalize wr.heap.size = CB at *
          clear hF r1H hX3 x1
          go_wp2_with fail
          go_loopw [40] (fun u wr => ∃ j : Nat, j ≤ h.length ∧ u = .int .i64 (j : Int) ∧ Hid (FdS w wr k h ha hc B9 S mb (ahP rel h i j) ∧ wr.heap[CB]? = some (oCl x))) (fun u _ => h.length - (intOf u).toNat)
          case atStart => exact ⟨0, Nat.zero_le _, rfl, hF1⟩
          case round =>
            obtain ⟨j, hj, rfl, hst⟩ := hrel
            have hF : Hid (FdS w wr k h ha hc B9 S mb (ahP rel h i j) ∧ wr.heap[CB]? = some (oCl x)) := hst.out
            clear hst hF1
            by_cases hlt2 : j < h.length
            · have hjI : (j : Int) < h.length := by omega
              have hj8 : j < 8 := by omega
              obtain ⟨b2, o2, x2, _, r2⟩ := cl_ix (hhH.out.later hF.out.1.b) hlt2
              obtain ⟨y, hy⟩ : ∃ y, hf h j = y := ⟨_, rfl⟩
              have hyH : Hid (hf h j = y) := hy
              rw [hy] at r2
              have r2H : Hid (wr.rangeAt b2 o2 [.int .i64 y.go, .int .i64 y.d, .int .i64 y.inn, .int .i64 y.out, .bool y.em, .int .i64 y.bg, .int .i64 y.en]) := r2
              clear r2 hy
              go_upto_region 11 with ((with_reducible refine at_loadL 53 (.tmp 43) rfl ?_); refine stopL_out ?_; refine wpList_load_mid rfl 53 _ rfl b2 o2 rfl [.int .i64 y.go, .int .i64 y.d, .int .i64 y.inn, .int .i64 y.out, .bool y.em, .int .i64 y.bg, .int .i64 y.en] _ r2H.out huX.out rfl infoX ?_)
              have hF2 : Hid (FdS w (wr.alloc (oCl y)) k h ha hc B9 S mb (ahP rel h i j) ∧ (wr.alloc (oCl y)).heap[CB]? = some (oCl x) ∧ (wr.alloc (oCl y)).heap[wr.heap.size]? = some (oCl y)) := ⟨hF.out.1.later (boxed _ _), blk_on hF.out.2 (boxed _ _), heap_alloc_new _ _⟩
              obtain ⟨Y, hY⟩ : ∃ Y, wr.alloc (oCl y) = Y := ⟨_, rfl⟩
              rw [hY] at hF2 ⊢
              generalize wr.heap.size = CY at *
              clear hF r2H hY x2
              have xa := ix64 S i hi8
              have xb := ixo8 S (22 + 8 * i) j hj8
              have hS : Hid (Below Y.heap.size Y Y.drew) := bey_drew Y
              have hRd : Hid (∀ w', Below Y.heap.size Y w' → w'.rangeAt CB 0 x.cells ∧ w'.rangeAt CY 0 y.cells) := fun w' q => ⟨rng_blk (blk_on hF2.out.2.1 q), rng_blk (blk_on hF2.out.2.2 q)⟩
              have hV : Hid (rel (hf h j) (hf h i) = rel y x) := by show _ = _; rw [hyH.out, hxH.out]
              have hNE : Hid (CB ≠ S ∧ CY ≠ S ∧ CB < Y.drew.heap.size ∧ CY < Y.drew.heap.size) := ⟨fun q => by
                  have h1 := hF2.out.2.1
                  rw [q, hF2.out.1.s] at h1
                  simp only [Option.some.injEq, Obj.cells.injEq] at h1
                  exact absurd h1.2.1 (by decide), fun q => by
                  have h1 := hF2.out.2.2
                  rw [q, hF2.out.1.s] at h1
                  simp only [Option.some.injEq, Obj.cells.injEq] at h1
                  exact absurd h1.2.1 (by decide), (Array.getElem?_eq_some_iff.mp hF2.out.2.1).1, (Array.getElem?_eq_some_iff.mp hF2.out.2.2).1⟩
              clear hRd
              have hRd : Hid (∀ w' : World, w'.heap[CB]? = some (oCl x) ∧ w'.heap[CY]? = some (oCl y) → w'.rangeAt CB 0 x.cells ∧ w'.rangeAt CY 0 y.cells) := fun w' q => ⟨rng_blk q.1, rng_blk q.2⟩
              have hSS : Hid (Y.drew.heap[CB]? = some (oCl x) ∧ Y.drew.heap[CY]? = some (oCl y)) := ⟨hF2.out.2.1, hF2.out.2.2⟩
              refine wp_region_noPanic ?_
              refine wp_region_held_drew (S := fun w' => w'.heap[CB]? = some (oCl x) ∧ w'.heap[CY]? = some (oCl y)) (by kernel_rfl) hSS.out (fun _ => ?_)
              refine reg_move (i := 0) rfl (by kernel_rfl) (by kernel_rfl) (by kernel_rfl) (fun _ _ _ _ h => h) rfl (.int .i64 (i : Int)) (fun _ => rfl) hSS.out ?_
              simp only [Act.put, List.getElem_toArray, List.getElem_cons_succ, List.getElem_cons_zero, List.setIfInBounds_toArray, List.set_cons_zero, List.set_cons_succ]
              refine reg_move (i := 1) rfl (by kernel_rfl) (by kernel_rfl) (by kernel_rfl) (fun _ _ _ _ h => h) rfl (.int .i64 (j : Int)) (fun _ => rfl) hSS.out ?_
              simp only [Act.put, List.getElem_toArray, List.getElem_cons_succ, List.getElem_cons_zero, List.setIfInBounds_toArray, List.set_cons_zero, List.set_cons_succ]
              refine reg_move (i := 2) rfl (by kernel_rfl) (by kernel_rfl) (by kernel_rfl) (fun _ _ _ _ h => h) rfl (.func (.func rf) #[] #[]) (fun _ => rfl) hSS.out ?_
              simp only [Act.put, List.getElem_toArray, List.getElem_cons_succ, List.getElem_cons_zero, List.setIfInBounds_toArray, List.set_cons_zero, List.set_cons_succ]
              refine reg_load (i := 3) rfl (by kernel_rfl) (by kernel_rfl) (by kernel_rfl) (fun _ _ _ _ h => h) rfl 53 _ rfl CY 0 rfl y.cells _ (fun w' q => (hRd.out w' q).2) Try.underlying53 rfl infoX hSS.out ?_
              simp only [Act.put, List.getElem_toArray, List.getElem_cons_succ, List.getElem_cons_zero, List.setIfInBounds_toArray, List.set_cons_zero, List.set_cons_succ]
              refine reg_load (i := 4) rfl (by kernel_rfl) (by kernel_rfl) (by kernel_rfl) (fun _ _ _ _ h => h) rfl 53 _ rfl CB 0 rfl x.cells _ (fun w' q => (hRd.out w' q).1) Try.underlying53 rfl infoX hSS.out ?_
              simp only [Act.put, List.getElem_toArray, List.getElem_cons_succ, List.getElem_cons_zero, List.setIfInBounds_toArray, List.set_cons_zero, List.set_cons_succ]
              refine reg_move (i := 6) rfl (by kernel_rfl) (by kernel_rfl) (by kernel_rfl) (fun _ _ _ _ h => h) rfl (.pointer (some ⟨S, 22, none⟩)) (fun _ => rfl) hSS.out ?_
              simp only [Act.put, List.getElem_toArray, List.getElem_cons_succ, List.getElem_cons_zero, List.setIfInBounds_toArray, List.set_cons_zero, List.set_cons_succ]
              refine reg_move (i := 7) rfl (by kernel_rfl) (by kernel_rfl) (by kernel_rfl) (fun _ _ _ _ h => h) rfl (.pointer (some ⟨S, 22 + 8 * i, none⟩)) (fun wx => by unfold execOp; exact run_value_of (xa wx)) hSS.out ?_
              simp only [Act.put, List.getElem_toArray, List.getElem_cons_succ, List.getElem_cons_zero, List.setIfInBounds_toArray, List.set_cons_zero, List.set_cons_succ]
              refine reg_callvL (i := 5) (by kernel_rfl) rfl rfl rf _ _ _ _ rfl rfl y.val x.val rfl rfl hrH.out.e _ (hrH.out.c y x _) ?_
              rintro e1 Y1 ⟨rfl, hb1⟩
              have hb2 : Hid (Below Y.heap.size Y Y1) := bthen hS.out hb1
              refine ⟨_, rfl, ⟨blk_on hF2.out.2.1 hb2.out, blk_on hF2.out.2.2 hb2.out⟩, fun _ => ?_⟩
              simp only [Act.put, List.getElem_toArray, List.getElem_cons_succ, List.getElem_cons_zero, List.setIfInBounds_toArray, List.set_cons_zero, List.set_cons_succ]
              have hS1 : Hid (Y1.heap[CB]? = some (oCl x) ∧ Y1.heap[CY]? = some (oCl y)) := ⟨blk_on hF2.out.2.1 hb2.out, blk_on hF2.out.2.2 hb2.out⟩
              refine reg_move (i := 8) rfl (by kernel_rfl) (by kernel_rfl) (by kernel_rfl) (fun _ _ _ _ h => h) rfl (.pointer (some ⟨S, 22 + 8 * i + j, none⟩)) (fun wx => by unfold execOp; exact run_value_of (xb wx)) hS1.out ?_
              simp only [Act.put, List.getElem_toArray, List.getElem_cons_succ, List.getElem_cons_zero, List.setIfInBounds_toArray, List.set_cons_zero, List.set_cons_succ]
              have hF3 : Hid (FdS w Y1 k h ha hc B9 S mb (ahP rel h i j) ∧ Y1.heap[CB]? = some (oCl x) ∧ Y1.heap[CY]? = some (oCl y)) := ⟨hF2.out.1.later hb2.out, blk_on hF2.out.2.1 hb2.out, blk_on hF2.out.2.2 hb2.out⟩
              have hjj : Hid (22 + 8 * i + j = 22 + (8 * i + j) ∧ 8 * i + j < 64) := ⟨by omega, by omega⟩
              refine reg_one (i := 9) (by kernel_rfl) rfl rfl (wpList_putb rfl 4 _ _ rfl ⟨S, 22 + 8 * i + j, none⟩ rfl (rel y x) rfl (by kernel_rfl) (.bool (ahP rel h i j (8 * i + j))) (by rw [hjj.out.1]; exact sr_cell hF3.out.1.s (sr_ahd hjj.out.2)) (frozen_of_row _ _ _ _ _ hF3.out.1.s) fun Y2 hY2 => wpList_nil (And.intro (by rw [hY2]; exact ⟨(heap_setCell_other _ ⟨S, _, none⟩ _ _ hNE.out.1).trans hF3.out.2.1, (heap_setCell_other _ ⟨S, _, none⟩ _ _ hNE.out.2.1).trans hF3.out.2.2⟩) fun _ => ?_))
              simp only [Act.put, List.getElem_toArray, List.getElem_cons_succ, List.getElem_cons_zero, List.setIfInBounds_toArray, List.set_cons_zero, List.set_cons_succ]
              refine wpAnyH_done (by kernel_rfl) (NoPanic.normal ?_) _
              have hF4 : Hid (FdS w Y2 k h ha hc B9 S mb (ahP rel h i (j + 1)) ∧ Y2.heap[CB]? = some (oCl x)) := by
                have e := ahP_put (rel := rel) hlt hlt2 hn8
                rw [hV.out] at e
                rw [hY2, hjj.out.1, ← e]
                exact ⟨hF3.out.1.put hjj.out.2 _, (heap_setCell_other _ ⟨S, _, none⟩ _ _ hNE.out.1).trans hF3.out.2.1⟩
              clear hF2 hF3 hY2 hNE hRd hSS hS1 hb1 hb2 hS hV hjj xa xb hyH
              go_wp2
              go_roundw
              case rel => exact ⟨j + 1, by omega, by go_num, hF4.out⟩
              case measure => simp [intOf]; omega
            · have hje : j = h.length := by omega
              have hjI : ¬ (j : Int) < h.length := by omega
              have hF5 : Hid (FdS w wr k h ha hc B9 S mb (ahP rel h (i + 1) 0)) := by (rw [← ahP_next, ← hje]; exact hF.out.1)
              clear hF
              go_wp2
              go_roundw
              case rel => exact ⟨i + 1, by omega, by go_num, hF5.out⟩
              case measure => simp [intOf]; omega
        · have hie : i = h.length := by omega
          have hiI : ¬ (i : Int) < h.length := by omega
          have hG : Hid (GS w wr k h ha hc rel S mb [] 0 [] none 0) := FdS.gs (by have := hF.out; rw [hie, ahP_all] at this; exact this)
          have h9 : Hid (wr.heap[B9]? = some (oT k)) := hF.out.t
          clear hF
          have cG := goOn_any hn8 hRH.out hIH.out hhH.out 8 (fun _ => false) (firstC k) wr [] 0 [] none 0 (by omega) (by rw [cnt_none8]; exact inv_first) hG.out (fun q hq => by simp at hq) (by decide) (by simp)
          have r9 : Hid (wr.rangeAt B9 0 (vC (firstC k)).toList) := by
            intro j v hj
            rw [vT_first] at hj
            have hl : j < 9 := by
              have := (List.getElem?_eq_some_iff.mp hj).1
              rw [List.length_take] at this
              omega
            rw [List.getElem?_take_of_lt hl] at hj
            exact rng_blk h9.out j v hj
          go_wp2_with (first
            | ((with_reducible refine at_buildL 101 _ rfl ?_); refine stopL_out ?_; refine wpList_bldL rfl 101 _ rfl #[] (by simp only [List.map_toArray, List.map_nil]) _ bld_P ?_)
            | ((with_reducible refine at_loadL 59 (.tmp 57) rfl ?_); refine stopL_out ?_; refine wpList_load_mid rfl 59 _ rfl B9 0 rfl (vC (firstC k)).toList _ r9.out huC.out rfl infoC9 ?_)
            | (go_at_call 46; (with_reducible refine cG.mono ?_); rintro e Z5 ⟨T2, N2, oa2, oc2, rfl, hg5, hf5, _, _⟩; (have h5 : Hid (GS w Z5 k h ha hc rel S mb T2 N2 ([] ++ ((fsB k rel h (fun _ => false) (firstC k)).getD []).map fun (j : Nat) => (j : Int)) oa2 oc2) := hg5); clear hg5 hf5 cG r9; (obtain ⟨R, hRR⟩ : ∃ R, fsB k rel h (fun _ => false) (firstC k) = R := ⟨_, rfl⟩); (have hRN : Hid (fsB k rel h (fun _ => false) (firstC k) = R) := hRR); rw [hRR] at h5 ⊢; clear hRR; refine stopR_in ?_))
          refine stopR_out ?_
          cases R with
          | none =>
            go_wp2
            go_ret3
            exact ⟨.inr ⟨hRH.out, .inl ⟨hRN.out, rfl⟩⟩, h5.out.b⟩
          | some r =>
            have c87 : Z5.cell? ⟨S, 87, none⟩ = some (.slice oa2 r.length oc2) := by
              have := sr_cell h5.out.s sr_ord
              simpa using this
            go_wp2
            go_ret3
            exact ⟨.inr ⟨hRH.out, .inr ⟨r, oa2, oc2, hRN.out, rfl, by
              have := own_rows h5.out.o (fun row hr => by obtain ⟨z, _, rfl⟩ := List.mem_map.mp hr; rfl)
              simpa using this, fun b hb => (blk_lt h5.out.o b hb).1⟩⟩, h5.out.b⟩
  · have hRH : Hid (¬ RightH k h) := hR
    clear hR
    have cK : ∀ wx, Below w.heap.size w wx → Calls Try.prog 28 #[.int .i64 k, .slice ha h.length hc] wx _ := fun wx q => look_no k h ha hc wx (hhH.out.later q) hRH.out
    go_enter Try.func29, Try.ntmps29
    go_wp2_with (first
      | (go_at_call 28; (with_reducible refine (cK _ hb0).mono ?_); rintro e w1 ⟨rfl, hb1⟩; (have hb1H : Hid (Below w.heap.size w w1) := hb1); clear hb1 hb0 cK)
      | ((with_reducible refine at_allocL 65 rfl ?_); refine stopL_out ?_; refine wpList_alloc_big rfl 65 rfl zeroT ?_)
      | ((with_reducible refine at_storeL 65 _ _ rfl ?_); refine stopL_out ?_; refine wpList_store_row rfl 65 _ _ rfl w1.heap.size zT rfl rfl _ _ (heap_alloc_new _ _) infoT rfl (by simp [Value.oneCell']) ?_))
    go_ret3
    exact ⟨.inl ⟨hRH.out, rfl⟩, bthen hb1H.out new_row.2⟩
end
end Go.Proofs.Ytklpifammbnldaa.pg
/- Whether an order keeps a relation; what is in a thing behind an order. -/
namespace Go.Proofs.Ytklpifammbnldaa.pg
open Go.ChangeShapes Go.WideShapes Go.ChangeAt Go.RowKit
set_option linter.unusedVariables false
set_option linter.unusedSimpArgs false
set_option maxRecDepth 100000
attribute [local go_sem ↓] Go.wp_at_zero Go.wp_at_succ
def rg (r : List Nat) (i : Nat) : Nat := r.getD i 0
theorem rg_at {r : List Nat} {i : Nat} (hi : i < r.length) : r[i]? = some (rg r i) := by
  unfold rg
  rw [List.getD_eq_getElem?_getD, List.getElem?_eq_getElem hi]; rfl
theorem rg_get {r : List Nat} {i : Nat} (hi : i < r.length) : r[i] = rg r i := by
  have e := rg_at hi
  rw [List.getElem?_eq_getElem hi] at e
  exact Option.some.inj e
abbrev asI (r : List Nat) : List Int := r.map fun (j : Nat) => (j : Int)
theorem rg_int {r : List Nat} {i : Nat} (hi : i < r.length) : (asI r)[i]? = some ((rg r i : Nat) : Int) := by
  rw [List.getElem?_map, rg_at hi]; rfl
/-- Does no place stand ahead of one that the relation puts ahead of it? -/
def keepsB (rel : Cl → Cl → Bool) (h : List Cl) (r : List Nat) : Bool := decide (r.Pairwise fun a b => rel (hf h b) (hf h a) = false)
def KP (rel : Cl → Cl → Bool) (h : List Cl) (r : List Nat) (i j : Nat) : Prop := ∀ a b, a < b → (b < i ∨ (b = i ∧ a < j)) → rel (hf h (rg r b)) (hf h (rg r a)) = false
theorem kp_all {rel : Cl → Cl → Bool} {h : List Cl} {r : List Nat} (q : KP rel h r r.length 0) : keepsB rel h r = true := by
  unfold keepsB
  rw [decide_eq_true_iff, List.pairwise_iff_getElem]
  intro a b ha hb hab
  have := q a b hab (.inl hb)
  rw [rg_get ha, rg_get hb]
  exact this
theorem kp_no {rel : Cl → Cl → Bool} {h : List Cl} {r : List Nat} {i j : Nat} (hi : i < r.length) (hj : j < i) (q : rel (hf h (rg r i)) (hf h (rg r j)) = true) : keepsB rel h r = false := by
  unfold keepsB
  rw [decide_eq_false_iff_not, List.pairwise_iff_getElem]
  intro p
  have := p j i (by omega) hi hj
  rw [rg_get hi, rg_get (show j < r.length by omega), q] at this
  cases this
theorem kp_step {rel : Cl → Cl → Bool} {h : List Cl} {r : List Nat} {i j : Nat} (q : KP rel h r i j) (e : rel (hf h (rg r i)) (hf h (rg r j)) = false) : KP rel h r i (j + 1) := fun a b hab hb => by
  by_cases g : b = i ∧ a = j
  · rw [g.1, g.2]; exact e
  · exact q a b hab (by omega)
theorem kp_next {rel : Cl → Cl → Bool} {h : List Cl} {r : List Nat} {i : Nat} (q : KP rel h r i i) : KP rel h r (i + 1) 0 := fun a b hab hb => q a b hab (by omega)
section
variable {w : World} {k : Int} {h : List Cl} {ha oa : Option Addr} {hc oc : Nat} {rel : Cl → Cl → Bool} {r : List Nat}
theorem ord_ix {wx : World} (ho : Rows wx 1 oa oc ((asI r).map chCells)) {i : Nat} (hi : i < r.length) : ∃ b off, (∀ wy, (Instr.indexAt 26 (.slice oa r.length oc) (.int .i64 (i : Int))).run Try.prog wy = .ok (.pointer (some ⟨b, off, none⟩)) wy) ∧ wx.cell? ⟨b, off, none⟩ = some (.int .i64 ((rg r i : Nat) : Int)) := by
  obtain ⟨b, off, x, _, c⟩ := ch_ix ho i _ (rg_int hi)
  rw [List.length_map] at x
  exact ⟨b, off, x, c⟩
theorem ord_ixp {wx : World} (ho : Rows wx 1 oa oc ((asI r).map chCells)) {i j : Nat} (hi : i ≤ r.length) (hj : j < i) : ∃ b off, (∀ wy, (Instr.indexAt 26 (.slice oa i oc) (.int .i64 (j : Int))).run Try.prog wy = .ok (.pointer (some ⟨b, off, none⟩)) wy) ∧ wx.cell? ⟨b, off, none⟩ = some (.int .i64 ((rg r j : Nat) : Int)) := by
  have h1 := rows_take ho i
  rw [← List.map_take] at h1
  obtain ⟨b, off, x, _, c⟩ := ch_ix h1 j ((rg r j : Nat) : Int) (by rw [List.getElem?_take_of_lt hj, rg_int (by omega)])
  rw [List.length_take, List.length_map, Nat.min_eq_left hi] at x
  exact ⟨b, off, x, c⟩
theorem cl_blk {wx : World} {b o : Nat} {x : Cl} (h : wx.rangeAt b o x.cells) : b < wx.heap.size := by
  have := h 0 (.int .i64 x.go) rfl
  unfold World.cell? at this
  cases e : wx.heap[b]? with
  | none => simp [e] at this
  | some _ => exact (Array.getElem?_eq_some_iff.mp e).1
theorem range_blk {wx wy : World} {b o : Nat} {cs : List Value} (h : wx.rangeAt b o cs) (e : wy.heap[b]? = wx.heap[b]?) : wy.rangeAt b o cs := fun j v hj => by
  have := h j v hj
  unfold World.cell? at this ⊢
  rw [e]
  exact this
set_option maxHeartbeats 8000000 in
theorem keeps_any (rf : Nat) (hrf : RelF rf rel) (hr : ∀ x ∈ r, x < h.length) (hh : Rows w 7 ha hc (h.map Cl.cells)) (ho : Rows w 1 oa oc ((asI r).map chCells)) : Calls Try.prog 34 #[.slice ha h.length hc, .slice oa r.length oc, .func (.func rf) #[] #[]] w fun e w' => e = .returned (.bool (keepsB rel h r)) ∧ Below w.heap.size w w' := by
  have hhH : Hid (Rows w 7 ha hc (h.map Cl.cells)) := hh
  have hoH : Hid (Rows w 1 oa oc ((asI r).map chCells)) := ho
  have hrH : Hid (RelF rf rel) := hrf
  have hrr : Hid (∀ i, i < r.length → rg r i < h.length) := fun i hi => hr _ (List.mem_of_getElem? (rg_at hi))
  have huX : Hid (Try.prog.underlying 53 = _) := Try.underlying53
  have hoc : Hid (r.length ≤ oc ∧ oc ≤ 9223372036854775807) := by
    have h1 := ho.1
    have h2 := ho.2.1
    rw [List.length_map, List.length_map] at h1
    exact ⟨h1, by omega⟩
  have hnI : (r.length : Int) ≤ 9223372036854775807 := by have := hoc.out; omega
  have s0 : Hid (Below w.heap.size w w ∧ KP rel h r 0 0) := ⟨Below.refl _ _, fun a b hab hb => by omega⟩
  clear hh ho hrf hr
  go_enter Try.func34, Try.ntmps34
  go_wp2_with fail
  obtain ⟨V, hV⟩ : ∃ V, w = V := ⟨_, rfl⟩
  go_loopw [13] (fun u wr => ∃ i : Nat, i ≤ r.length ∧ u = .int .i64 (i : Int) ∧ Hid (Below w.heap.size w wr ∧ KP rel h r i 0)) (fun u _ => r.length - (intOf u).toNat)
  case atStart => exact ⟨0, Nat.zero_le _, rfl, s0⟩
  case round =>
    obtain ⟨i, hi, rfl, hst⟩ := hrel
    clear s0 hV
    by_cases hlt : i < r.length
    · have hiI : (i : Int) < r.length := by omega
      obtain ⟨b1, o1, x1, c1⟩ := ord_ix (hoH.out.later hst.out.1) hlt
      have cu := cutI oa r.length oc i (by have := hoc.out; omega) hoc.out.2
      have hli : rg r i < h.length := hrr.out i hlt
      have hs1 : Hid (Below w.heap.size w wr ∧ KP rel h r i 0) := hst.out
      clear hst
      go_wp2_with fail
      clear x1 c1 cu
      go_loopw [22] (fun u wr => ∃ j : Nat, j ≤ i ∧ u = .int .i64 (j : Int) ∧ Hid (Below w.heap.size w wr ∧ KP rel h r i j)) (fun u _ => i - (intOf u).toNat)
      case atStart => exact ⟨0, Nat.zero_le _, rfl, hs1⟩
      case round =>
        obtain ⟨j, hj, rfl, hst⟩ := hrel
        clear hs1
        by_cases hlt2 : j < i
        · have hjI : (j : Int) < i := by omega
          obtain ⟨b2, o2, x2, c2⟩ := ord_ixp (hoH.out.later hst.out.1) hi hlt2
          have hlj : rg r j < h.length := hrr.out j (by omega)
          go_upto_region 7 with fail
          clear x2 c2
          obtain ⟨b3, o3, x3, _, r3⟩ := cl_ix (hhH.out.later hst.out.1) hli
          obtain ⟨b4, o4, x4, _, r4⟩ := cl_ix (hhH.out.later hst.out.1) hlj
          have hb3 := cl_blk r3
          have hb4 := cl_blk r4
          have hRd : Hid (∀ w', Below wr.heap.size wr w' → w'.rangeAt b3 o3 (hf h (rg r i)).cells ∧ w'.rangeAt b4 o4 (hf h (rg r j)).cells) := fun w' q => ⟨range_blk r3 (q.block _ hb3), range_blk r4 (q.block _ hb4)⟩
          have hst1 : Hid (Below w.heap.size w wr ∧ KP rel h r i j) := hst.out
          obtain ⟨p, hp⟩ : ∃ p, rel (hf h (rg r i)) (hf h (rg r j)) = p := ⟨_, rfl⟩
          have hpH : Hid (rel (hf h (rg r i)) (hf h (rg r j)) = p) := hp
          clear r3 r4 hb3 hb4 hst hp
          have hS : Hid (Below wr.heap.size wr wr.drew) := bey_drew wr
          refine wp_region_noPanic ?_
          refine wp_region_held_drew (S := fun w' => Below wr.heap.size wr w') (by kernel_rfl) hS.out (fun _ => ?_)
          refine reg_move (i := 0) rfl (by kernel_rfl) (by kernel_rfl) (by kernel_rfl) (fun _ _ _ _ h => h) rfl (.func (.func rf) #[] #[]) (fun _ => rfl) hS.out ?_
          simp only [Act.put, List.getElem_toArray, List.getElem_cons_succ, List.getElem_cons_zero, List.setIfInBounds_toArray, List.set_cons_zero, List.set_cons_succ]
          refine reg_move (i := 1) rfl (by kernel_rfl) (by kernel_rfl) (by kernel_rfl) (fun _ _ _ _ h => h) rfl (.slice ha h.length hc) (fun _ => rfl) hS.out ?_
          simp only [Act.put, List.getElem_toArray, List.getElem_cons_succ, List.getElem_cons_zero, List.setIfInBounds_toArray, List.set_cons_zero, List.set_cons_succ]
          refine reg_move (i := 2) rfl (by kernel_rfl) (by kernel_rfl) (by kernel_rfl) (fun _ _ _ _ h => h) rfl (.int .i64 ((rg r i : Nat) : Int)) (fun _ => rfl) hS.out ?_
          simp only [Act.put, List.getElem_toArray, List.getElem_cons_succ, List.getElem_cons_zero, List.setIfInBounds_toArray, List.set_cons_zero, List.set_cons_succ]
          refine reg_move (i := 3) rfl (by kernel_rfl) (by kernel_rfl) (by kernel_rfl) (fun _ _ _ _ h => h) rfl (.pointer (some ⟨b3, o3, none⟩)) (fun wx => by unfold execOp; exact run_value_of (x3 wx)) hS.out ?_
          simp only [Act.put, List.getElem_toArray, List.getElem_cons_succ, List.getElem_cons_zero, List.setIfInBounds_toArray, List.set_cons_zero, List.set_cons_succ]
          refine reg_load (i := 4) rfl (by kernel_rfl) (by kernel_rfl) (by kernel_rfl) (fun _ _ _ _ h => h) rfl 53 _ rfl b3 o3 rfl (hf h (rg r i)).cells _ (fun w' q => (hRd.out w' q).1) Try.underlying53 rfl infoX hS.out ?_
          simp only [Act.put, List.getElem_toArray, List.getElem_cons_succ, List.getElem_cons_zero, List.setIfInBounds_toArray, List.set_cons_zero, List.set_cons_succ]
          refine reg_move (i := 5) rfl (by kernel_rfl) (by kernel_rfl) (by kernel_rfl) (fun _ _ _ _ h => h) rfl (.slice ha h.length hc) (fun _ => rfl) hS.out ?_
          simp only [Act.put, List.getElem_toArray, List.getElem_cons_succ, List.getElem_cons_zero, List.setIfInBounds_toArray, List.set_cons_zero, List.set_cons_succ]
          refine reg_move (i := 6) rfl (by kernel_rfl) (by kernel_rfl) (by kernel_rfl) (fun _ _ _ _ h => h) rfl (.int .i64 ((rg r j : Nat) : Int)) (fun _ => rfl) hS.out ?_
          simp only [Act.put, List.getElem_toArray, List.getElem_cons_succ, List.getElem_cons_zero, List.setIfInBounds_toArray, List.set_cons_zero, List.set_cons_succ]
          refine reg_move (i := 7) rfl (by kernel_rfl) (by kernel_rfl) (by kernel_rfl) (fun _ _ _ _ h => h) rfl (.pointer (some ⟨b4, o4, none⟩)) (fun wx => by unfold execOp; exact run_value_of (x4 wx)) hS.out ?_
          simp only [Act.put, List.getElem_toArray, List.getElem_cons_succ, List.getElem_cons_zero, List.setIfInBounds_toArray, List.set_cons_zero, List.set_cons_succ]
          refine reg_load (i := 8) rfl (by kernel_rfl) (by kernel_rfl) (by kernel_rfl) (fun _ _ _ _ h => h) rfl 53 _ rfl b4 o4 rfl (hf h (rg r j)).cells _ (fun w' q => (hRd.out w' q).2) Try.underlying53 rfl infoX hS.out ?_
          simp only [Act.put, List.getElem_toArray, List.getElem_cons_succ, List.getElem_cons_zero, List.setIfInBounds_toArray, List.set_cons_zero, List.set_cons_succ]
          refine reg_callvL (i := 9) (by kernel_rfl) rfl rfl rf _ _ _ _ rfl rfl (hf h (rg r i)).val (hf h (rg r j)).val rfl rfl hrH.out.e _ (hrH.out.c _ _ _) ?_
          rintro e1 w5 ⟨rfl, hb5'⟩
          have hb5 : Hid (Below wr.heap.size wr w5) := bthen hS.out hb5'
          refine ⟨_, rfl, hb5.out, fun _ => ?_⟩
          simp only [Act.put, List.getElem_toArray, List.getElem_cons_succ, List.getElem_cons_zero, List.setIfInBounds_toArray, List.set_cons_zero, List.set_cons_succ]
          rw [hpH.out]
          refine wpAnyH_done (by kernel_rfl) (NoPanic.normal ?_) _
          clear hRd hS hb5' x3 x4
          cases p with
          | true =>
            have hE : Hid (keepsB rel h r = false) := kp_no hlt hlt2 hpH.out
            go_wp2
            go_ret
            exact ⟨by rw [hE.out]; rfl, bthen hst1.out.1 hb5.out⟩
          | false =>
            have hs2 : Hid (Below w.heap.size w w5 ∧ KP rel h r i (j + 1)) := ⟨bthen hst1.out.1 hb5.out, kp_step hst1.out.2 hpH.out⟩
            clear hst1 hb5 hpH
            go_wp2
            go_roundw
            case rel => exact ⟨j + 1, by omega, by go_num, hs2.out⟩
            case measure => simp [intOf]; omega
        · have hje : j = i := by omega
          have hjI : ¬ (j : Int) < i := by omega
          have hs2 : Hid (Below w.heap.size w wr ∧ KP rel h r (i + 1) 0) := ⟨hst.out.1, by have := hst.out.2; rw [hje] at this; exact kp_next this⟩
          clear hst
          go_wp2
          go_roundw
          case rel => exact ⟨i + 1, by omega, by go_num, hs2.out⟩
          case measure => simp [intOf]; omega
    · have hie : i = r.length := by omega
      have hiI : ¬ (i : Int) < r.length := by omega
      have hE : Hid (keepsB rel h r = true) := kp_all (by have := hst.out.2; rw [hie] at this; exact this)
      have hb : Hid (Below w.heap.size w wr) := hst.out.1
      clear hst
      go_wp2
      go_ret
      exact ⟨by rw [hE.out]; rfl, hb.out⟩
/-- What find answers, in its parts. -/
def FindV (k : Int) (h : List Cl) (rel : Cl → Cl → Bool) (lo : Nat) (a : Option Addr) (n c : Nat) (b : Bool) (x : Int) (w' : World) : Prop :=
  (¬ RightH k h ∧ a = none ∧ n = 0 ∧ c = 0 ∧ b = false ∧ x = 260) ∨
  (RightH k h ∧ x = 0 ∧ ((fsB k rel h (fun _ => false) (firstC k) = none ∧ a = none ∧ n = 0 ∧ c = 0 ∧ b = false) ∨
    ∃ r : List Nat, fsB k rel h (fun _ => false) (firstC k) = some r ∧ n = r.length ∧ b = true ∧ Rows w' 1 a c ((asI r).map chCells) ∧ ∀ g ∈ blk a, lo ≤ g))
theorem find_v (rf : Nat) (hrf : RelF rf rel) (hh : Rows w 7 ha hc (h.map Cl.cells)) (hI : ∀ x ∈ h, I64 x.inn) : Calls Try.prog 29 #[.int .i64 k, .slice ha h.length hc, .func (.func rf) #[] #[]] w fun e w' => ∃ a n c b x, e = .returned (.tuple #[.slice a n c, .bool b, .int .i64 x]) ∧ FindV k h rel w.heap.size a n c b x w' ∧ Below w.heap.size w w' := by
  refine (findH_any rf hrf hh hI).mono ?_
  rintro e w' ⟨hF, hb⟩
  rcases hF with ⟨hR, rfl⟩ | ⟨hR, ⟨hn, rfl⟩ | ⟨r, oa, oc, hr, rfl, ho, hl⟩⟩
  · exact ⟨_, _, _, _, _, rfl, .inl ⟨hR, rfl, rfl, rfl, rfl, rfl⟩, hb⟩
  · exact ⟨_, _, _, _, _, rfl, .inr ⟨hR, rfl, .inl ⟨hn, rfl, rfl, rfl, rfl⟩⟩, hb⟩
  · exact ⟨_, _, _, _, _, rfl, .inr ⟨hR, rfl, .inr ⟨r, hr, rfl, rfl, ho, hl⟩⟩, hb⟩
theorem linear_any (hh : Rows w 7 ha hc (h.map Cl.cells)) (hI : ∀ x ∈ h, I64 x.inn) : Calls Try.prog 11 #[.int .i64 k, .slice ha h.length hc] w fun e w' => ∃ a n c b x, e = .returned (.tuple #[.slice a n c, .bool b, .int .i64 x]) ∧ FindV k h endB w.heap.size a n c b x w' ∧ Below w.heap.size w w' := by
  have cF := find_v (k := k) 30 relF_end hh hI
  clear hh hI
  go_enter Try.func11, Try.ntmps11
  go_wp2_with (go_at_call 29; (with_reducible refine cF.mono ?_); rintro e w1 ⟨a, n, c, b, x, rfl, hF, hb1⟩)
  go_ret3
  exact ⟨a, n, c, b, x, rfl, hF, hb1⟩
theorem turns_any (hh : Rows w 7 ha hc (h.map Cl.cells)) (hI : ∀ x ∈ h, I64 x.inn) : Calls Try.prog 12 #[.int .i64 k, .slice ha h.length hc] w fun e w' => ∃ a n c b x, e = .returned (.tuple #[.slice a n c, .bool b, .int .i64 x]) ∧ FindV k h turnB w.heap.size a n c b x w' ∧ Below w.heap.size w w' := by
  have cF := find_v (k := k) 31 relF_turn hh hI
  clear hh hI
  go_enter Try.func12, Try.ntmps12
  go_wp2_with (go_at_call 29; (with_reducible refine cF.mono ?_); rintro e w1 ⟨a, n, c, b, x, rfl, hF, hb1⟩)
  go_ret3
  exact ⟨a, n, c, b, x, rfl, hF, hb1⟩
theorem check_yes (hh : Rows w 7 ha hc (h.map Cl.cells)) (hR : RightH k h) : Calls Try.prog 10 #[.int .i64 k, .slice ha h.length hc] w fun e w' => e = .returned (.int .i64 0) ∧ Below w.heap.size w w' := by
  have cL := look_yes k h ha hc w hh hR
  clear hh hR
  go_enter Try.func10, Try.ntmps10
  go_wp2_with (first
    | (go_at_call 28; (with_reducible refine cL.mono ?_); rintro e w1 ⟨rfl, hb1⟩; (have hbH : Hid (Below w.heap.size w w1) := hb1); clear hb1 cL)
    | ((with_reducible refine at_allocL 65 rfl ?_); refine stopL_out ?_; refine wpList_alloc_big rfl 65 rfl zeroT ?_)
    | ((with_reducible refine at_storeL 65 _ _ rfl ?_); refine stopL_out ?_; refine wpList_store_row rfl 65 _ _ rfl w1.heap.size (vT k) rfl rfl _ _ (heap_alloc_new _ _) infoT rfl (by simp [vT, fv, Value.oneCell']) ?_))
  go_ret
  exact ⟨rfl, bthen hbH.out new_row.2⟩
theorem check_no (hh : Rows w 7 ha hc (h.map Cl.cells)) (hR : ¬ RightH k h) : Calls Try.prog 10 #[.int .i64 k, .slice ha h.length hc] w fun e w' => e = .returned (.int .i64 260) ∧ Below w.heap.size w w' := by
  have cL := look_no k h ha hc w hh hR
  clear hh hR
  go_enter Try.func10, Try.ntmps10
  go_wp2_with (first
    | (go_at_call 28; (with_reducible refine cL.mono ?_); rintro e w1 ⟨rfl, hb1⟩; (have hbH : Hid (Below w.heap.size w w1) := hb1); clear hb1 cL)
    | ((with_reducible refine at_allocL 65 rfl ?_); refine stopL_out ?_; refine wpList_alloc_big rfl 65 rfl zeroT ?_)
    | ((with_reducible refine at_storeL 65 _ _ rfl ?_); refine stopL_out ?_; refine wpList_store_row rfl 65 _ _ rfl w1.heap.size zT rfl rfl _ _ (heap_alloc_new _ _) infoT rfl (by simp [Value.oneCell']) ?_))
  go_ret
  exact ⟨rfl, bthen hbH.out new_row.2⟩
end
end Go.Proofs.Ytklpifammbnldaa.pg
