/- What a thing's operation of a number does. -/
import Derived.Test.YtklpifammbnldaaM8
import Derived.Test.YtklpifammbnldaaM6
namespace Go.Proofs.Ytklpifammbnldaa.pg
open Go.ChangeShapes Go.WideShapes Go.ChangeAt Go.RowKit
set_option linter.unusedVariables false
set_option linter.unusedSimpArgs false
set_option maxRecDepth 100000
attribute [local go_sem ↓] Go.wp_at_zero Go.wp_at_succ
abbrev oT (k : Int) : Obj := .cells (vT k) TT
abbrev oD (d : Int) (v : Value) : Obj := .cells #[.int .i64 d, v] TD
theorem vT_mid (k : Int) {w : World} {B : Nat} (h : w.heap[B]? = some (oT k)) : w.rangeAt B 9 [.int .i64 (dA k), fv (fnD k (dA k)), .int .i64 (dB k), fv (fnD k (dB k))] := by
  intro j v hj
  have h1 : j < 4 := by have := (List.getElem?_eq_some_iff.mp hj).1; simpa using this
  have h2 : j = 0 ∨ j = 1 ∨ j = 2 ∨ j = 3 := by omega
  rcases h2 with rfl | rfl | rfl | rfl <;> exact cell_lc h (by simpa [vT] using hj)
theorem infoDD : (Try.prog.info? 63).map (·.size) = some 4 := by kernel_rfl
/-- How deed stands. -/
structure DdS (w W : World) (k : Int) : Prop where
  t : W.heap[w.heap.size]? = some (oT k)
  r : W.heap[w.heap.size + 1]? = some (oD 0 .nilFunc)
  b : Below w.heap.size w W
theorem DdS.later {w W W' : World} {k : Int} (h : DdS w W k) (hb : Below W.heap.size W W') : DdS w W' k := ⟨blk_on h.t hb, blk_on h.r hb, bthen h.b hb⟩
theorem deed_new {w W : World} {k d : Int} {v : Value} (h : DdS w W k) : DdS w ((W.alloc (oD 0 .nilFunc)).setRow W.heap.size #[.int .i64 d, v]) k ∧ ((W.alloc (oD 0 .nilFunc)).setRow W.heap.size #[.int .i64 d, v]).heap[W.heap.size]? = some (oD d v) := by
  have h1 := (Array.getElem?_eq_some_iff.mp h.t).1
  have h2 := (Array.getElem?_eq_some_iff.mp h.r).1
  exact ⟨⟨(setRow_other _ _ _ _ (by omega)).trans (blk_on h.t (boxed _ _)), (setRow_other _ _ _ _ (by omega)).trans (blk_on h.r (boxed _ _)), below_setRow (bthen h.b (boxed _ _)) (by omega) _⟩, setRow_heap _ _ _ _ _ _ (heap_alloc_new _ _)⟩
set_option maxHeartbeats 2000000 in
theorem deed0 (k d : Int) (b0 b1 : Bool) (h0 : (dA k == d) = b0) (h1 : (dB k == d) = b1) (w : World) : Calls Try.prog 42 #[.agg (vT k), .int .i64 d] w fun e w' => e = .returned (.tuple #[.agg (if b0 then #[.int .i64 (dA k), fv (fnD k (dA k))] else if b1 then #[.int .i64 (dB k), fv (fnD k (dB k))] else #[.int .i64 0, .nilFunc]), .bool (b0 || b1)]) ∧ Below w.heap.size w w' := by
  have huD : Hid (Try.prog.underlying 62 = _) := Try.underlying62
  have huE : Hid (Try.prog.underlying 63 = _) := Try.underlying63
  have s0 : Hid (DdS w ((w.alloc (oT k)).alloc (oD 0 .nilFunc)) k) := ⟨blk_on (heap_alloc_new _ _) (boxed _ _), by (have := heap_alloc_new (w.alloc (oT k)) (oD 0 .nilFunc); rwa [World.size_alloc] at this), bthen (boxed _ _) (boxed _ _)⟩
  have r0 : Hid (((w.alloc (oT k)).alloc (oD 0 .nilFunc)).rangeAt w.heap.size 9 [.int .i64 (dA k), fv (fnD k (dA k)), .int .i64 (dB k), fv (fnD k (dB k))]) := vT_mid k s0.out.t
  generalize fnD k (dA k) = f0 at *
  generalize fnD k (dB k) = f1 at *
  generalize dA k = d0 at *
  generalize dB k = d1 at *
  go_enter Try.func42, Try.ntmps42
  go_upto_region 1 with fail
  generalize (w.alloc (oT k)).alloc (oD 0 .nilFunc) = W at *
  go_wp2_with (refine wpList_load_mid rfl 63 _ rfl w.heap.size 9 rfl _ _ r0.out huE.out rfl infoDD ?_)
  clear r0
  go_loopw [10] (fun u wr => ∃ i : Int, u = .int .i64 i ∧ Hid (DdS w wr k) ∧ (i = 0 ∨ i = 1 ∧ b0 = false ∨ i = 2 ∧ b0 = false ∧ b1 = false)) (fun u _ => 2 - (intOf u).toNat)
  case atStart => exact ⟨0, rfl, s0, .inl rfl⟩
  case round =>
    obtain ⟨i, rfl, hs, hi⟩ := hrel
    clear s0
    have x0 : ∀ wx, (Instr.index 63 (.agg #[.int .i64 d0, fv f0, .int .i64 d1, fv f1]) (.int .i64 0)).run Try.prog wx = .ok (.agg #[.int .i64 d0, fv f0]) wx := fun wx => by kernel_rfl
    have x1 : ∀ wx, (Instr.index 63 (.agg #[.int .i64 d0, fv f0, .int .i64 d1, fv f1]) (.int .i64 1)).run Try.prog wx = .ok (.agg #[.int .i64 d1, fv f1]) wx := fun wx => by kernel_rfl
    rcases hi with rfl | ⟨rfl, rfl⟩ | ⟨rfl, rfl, rfl⟩
    · cases b0 with
      | true =>
        go_wp2_with (first
          | (refine wpList_store_row rfl 62 _ _ rfl wr.heap.size #[.int .i64 d0, fv f0] rfl rfl _ _ (heap_alloc_new _ _) infoD rfl (by simp [Value.oneCell']) ?_; (have h2 : Hid (DdS w ((wr.alloc (oD 0 .nilFunc)).setRow wr.heap.size #[.int .i64 d0, fv f0]) k ∧ ((wr.alloc (oD 0 .nilFunc)).setRow wr.heap.size #[.int .i64 d0, fv f0]).heap[wr.heap.size]? = some (oD d0 (fv f0))) := deed_new hs.out); generalize World.setRow _ _ _ = V at *; (have c0 := cell_lc (k := 0) h2.out.2 rfl); (have c1 := cell_lc (k := 1) h2.out.2 rfl))
          | (refine wpList_store_row rfl 62 _ _ rfl (w.heap.size + 1) #[.int .i64 d0, fv f0] rfl rfl _ _ h2.out.1.r infoD rfl (by simp [Value.oneCell']) ?_))
        exact bodyPost_ret (res_cs Try.results42 _ _ (run_loadVar_row _ _ _ 62 _ _ _ (setRow_heap _ _ _ #[.int .i64 d0, fv f0] _ _ h2.out.1.r) huD.out rfl infoD) rfl rfl) rfl ⟨rfl, below_setRow h2.out.1.b (by omega) _⟩
      | false =>
        go_wp2_with (refine wpList_store_row rfl 62 _ _ rfl wr.heap.size #[.int .i64 d0, fv f0] rfl rfl _ _ (heap_alloc_new _ _) infoD rfl (by simp [Value.oneCell']) ?_; (have h2 : Hid (DdS w ((wr.alloc (oD 0 .nilFunc)).setRow wr.heap.size #[.int .i64 d0, fv f0]) k ∧ ((wr.alloc (oD 0 .nilFunc)).setRow wr.heap.size #[.int .i64 d0, fv f0]).heap[wr.heap.size]? = some (oD d0 (fv f0))) := deed_new hs.out); generalize World.setRow _ _ _ = V at *; (have c0 := cell_lc (k := 0) h2.out.2 rfl); (have c1 := cell_lc (k := 1) h2.out.2 rfl))
        go_roundw
        case rel => exact ⟨1, by go_num, h2.out.1, by simp⟩
        case measure => simp [intOf]
    · cases b1 with
      | true =>
        go_wp2_with (first
          | (refine wpList_store_row rfl 62 _ _ rfl wr.heap.size #[.int .i64 d1, fv f1] rfl rfl _ _ (heap_alloc_new _ _) infoD rfl (by simp [Value.oneCell']) ?_; (have h2 : Hid (DdS w ((wr.alloc (oD 0 .nilFunc)).setRow wr.heap.size #[.int .i64 d1, fv f1]) k ∧ ((wr.alloc (oD 0 .nilFunc)).setRow wr.heap.size #[.int .i64 d1, fv f1]).heap[wr.heap.size]? = some (oD d1 (fv f1))) := deed_new hs.out); generalize World.setRow _ _ _ = V at *; (have c0 := cell_lc (k := 0) h2.out.2 rfl); (have c1 := cell_lc (k := 1) h2.out.2 rfl))
          | (refine wpList_store_row rfl 62 _ _ rfl (w.heap.size + 1) #[.int .i64 d1, fv f1] rfl rfl _ _ h2.out.1.r infoD rfl (by simp [Value.oneCell']) ?_))
        exact bodyPost_ret (res_cs Try.results42 _ _ (run_loadVar_row _ _ _ 62 _ _ _ (setRow_heap _ _ _ #[.int .i64 d1, fv f1] _ _ h2.out.1.r) huD.out rfl infoD) rfl rfl) rfl ⟨rfl, below_setRow h2.out.1.b (by omega) _⟩
      | false =>
        go_wp2_with (refine wpList_store_row rfl 62 _ _ rfl wr.heap.size #[.int .i64 d1, fv f1] rfl rfl _ _ (heap_alloc_new _ _) infoD rfl (by simp [Value.oneCell']) ?_; (have h2 : Hid (DdS w ((wr.alloc (oD 0 .nilFunc)).setRow wr.heap.size #[.int .i64 d1, fv f1]) k ∧ ((wr.alloc (oD 0 .nilFunc)).setRow wr.heap.size #[.int .i64 d1, fv f1]).heap[wr.heap.size]? = some (oD d1 (fv f1))) := deed_new hs.out); generalize World.setRow _ _ _ = V at *; (have c0 := cell_lc (k := 0) h2.out.2 rfl); (have c1 := cell_lc (k := 1) h2.out.2 rfl))
        go_roundw
        case rel => exact ⟨2, by go_num, h2.out.1, by simp⟩
        case measure => simp [intOf]
    · go_wp2_with (refine wpList_store_row rfl 62 _ _ rfl (w.heap.size + 1) #[.int .i64 0, .nilFunc] rfl rfl _ _ hs.out.r infoD rfl (by simp [Value.oneCell']) ?_)
      exact bodyPost_ret (res_cs Try.results42 _ _ (run_loadVar_row _ _ _ 62 _ _ _ (setRow_heap _ _ _ #[.int .i64 0, .nilFunc] _ _ hs.out.r) huD.out rfl infoD) rfl rfl) rfl ⟨rfl, below_setRow hs.out.b (by omega) _⟩
end Go.Proofs.Ytklpifammbnldaa.pg
/- What is in a thing behind an operation, and whether that tells what it told. -/
namespace Go.Proofs.Ytklpifammbnldaa.pg
open Go.ChangeShapes Go.WideShapes Go.ChangeAt Go.RowKit
set_option linter.unusedVariables false
set_option linter.unusedSimpArgs false
set_option maxRecDepth 100000
attribute [local go_sem ↓] Go.wp_at_zero Go.wp_at_succ
theorem reg_skipL {P : Program} {ops : Array Oper} {Q : Exit → Act → World → Prop} {S : World → Prop} {fuel : Nat} {listed : Array Bool} {a : Act} {w : World} {i : Nat} {o : Oper} (ho : ops[i]? = some o) (hs : Region.noSelect ops = true) (hf : Region.free .any ops listed i = true) (hr : (Region.ready .any ops listed).contains i = true)
    (hQ : ∀ c v a w, Q (.panic c) (a.put o.dst v) w → Q (.panic c) a w) (hw : Region.wanted o (yielded ops a.tmps) = false) (hSw : S w)
    (h : wpAnyH P .any ops Q S fuel (listed.setIfInBounds i true) (a.put o.dst undef) w) : wpAnyH P .any ops Q S (fuel + 1) listed a w :=
  wpAnyH_take ho hs hf hr (fun c a w => hQ c _ a w) (.inr ⟨hw, rfl⟩) hSw h
/-- A call of a function's value. -/
theorem wpList_callv {P : Program} {ops : Array Oper} {Q : Exit → Act → World → Prop} {rest : List Oper} {o : Oper} {a : Act} {w : World} (hgd : o.guard = none) (f : FuncId) (x y z : Operand) (ts : Array TypeId) (v v2 : Value)
    (hc0 : o.op = .call { callee := .value x, args := #[y, z], argTypes := ts }) (hx : a.eval x = .func (.func f) #[] #[]) (hv : a.eval y = v) (hv2 : a.eval z = v2) (hcf : ∀ args w, (callFunc f args).run P w = .ok (.enter f args) w) (R : Ending → World → Prop) (hc : Calls P f #[v, v2] w R)
    (hK : ∀ e w', R e w' → ∃ v, e = .returned v ∧ wpList P ops Q rest (a.put o.dst v) w') : wpList P ops Q (o :: rest) a w := by
  refine wpList_plain hgd fun K hK2 => ?_
  have hrun : (execOp a.eval o).run P w = .ok (.enter f #[v, v2]) w := by
    simp [execOp, hc0, resolve, invoke, hx, Deferred.ofValue, hcf, hv, hv2]
  unfold Oper.wp
  rw [hrun, Oper.upon_enter]
  refine hc.mono fun e w' h => ?_
  obtain ⟨v, rfl, hk⟩ := hK e w' h
  exact hK2 _ _ hk
/-- What a thing may hold, ahead of an operation. -/
structure OkC (k d : Int) (c : List Int) : Prop where
  one : k = 1 ∨ k = 2 → c.length = 1
  le : c.length ≤ 8
  put : d = 4 → c.length < 8
theorem does_cases {k d : Int} (h : doesB k d = true) : (k = 1 ∧ d = 1) ∨ (k = 1 ∧ d = 2) ∨ (k = 2 ∧ d = 1) ∨ (k = 2 ∧ d = 3) ∨ (k = 3 ∧ d = 4) ∨ (k = 3 ∧ d = 5) ∨ (k = 4 ∧ d = 4) ∨ (k = 4 ∧ d = 5) := by
  simp only [doesB, Bool.or_eq_true, Bool.and_eq_true, beq_iff_eq] at h
  omega
theorem does_deed {k d : Int} (h : doesB k d = true) (w : World) : Calls Try.prog 42 #[.agg (vT k), .int .i64 d] w fun e w' => e = .returned (.tuple #[.agg #[.int .i64 d, fv (fnD k d)], .bool true]) ∧ Below w.heap.size w w' := by
  rcases does_cases h with ⟨rfl, rfl⟩ | ⟨rfl, rfl⟩ | ⟨rfl, rfl⟩ | ⟨rfl, rfl⟩ | ⟨rfl, rfl⟩ | ⟨rfl, rfl⟩ | ⟨rfl, rfl⟩ | ⟨rfl, rfl⟩
  · exact deed0 1 1 true false rfl rfl w
  · exact deed0 1 2 false true rfl rfl w
  · exact deed0 2 1 true false rfl rfl w
  · exact deed0 2 3 false true rfl rfl w
  · exact deed0 3 4 true false rfl rfl w
  · exact deed0 3 5 false true rfl rfl w
  · exact deed0 4 4 true false rfl rfl w
  · exact deed0 4 5 false true rfl rfl w
theorem doesnt {k d : Int} (hk : 1 ≤ k ∧ k ≤ 4) (h : doesB k d = false) : (dA k == d) = false ∧ (dB k == d) = false := by
  have h2 : ¬ doesB k d = true := by rw [h]; simp
  simp only [doesB, Bool.or_eq_true, Bool.and_eq_true, beq_iff_eq] at h2
  rw [beq_eq_false_iff_ne, beq_eq_false_iff_ne]
  rcases kinds4 k with (rfl | rfl | rfl | rfl) | q
  · exact ⟨fun e => h2 (by have : d = 1 := e.symm; omega), fun e => h2 (by have : d = 2 := e.symm; omega)⟩
  · exact ⟨fun e => h2 (by have : d = 1 := e.symm; omega), fun e => h2 (by have : d = 3 := e.symm; omega)⟩
  · exact ⟨fun e => h2 (by have : d = 4 := e.symm; omega), fun e => h2 (by have : d = 5 := e.symm; omega)⟩
  · exact ⟨fun e => h2 (by have : d = 4 := e.symm; omega), fun e => h2 (by have : d = 5 := e.symm; omega)⟩
  · exact absurd hk q.2.2.2.2
theorem doesnt_deed {k d : Int} (hk : 1 ≤ k ∧ k ≤ 4) (h : doesB k d = false) (w : World) : Calls Try.prog 42 #[.agg (vT k), .int .i64 d] w fun e w' => e = .returned (.tuple #[.agg #[.int .i64 0, .nilFunc], .bool false]) ∧ Below w.heap.size w w' :=
  deed0 k d false false (doesnt hk h).1 (doesnt hk h).2 w
theorem len1 {c : List Int} (h : c.length = 1) : ∃ a, c = [a] := by
  match c, h with
  | [a], _ => exact ⟨a, rfl⟩
theorem act_any {k d : Int} {c : List Int} (h : doesB k d = true) (ok : OkC k d c) (inn : Int) : DeedR (fnD k d) c inn (actC k d c inn) := by
  rcases does_cases h with ⟨rfl, rfl⟩ | ⟨rfl, rfl⟩ | ⟨rfl, rfl⟩ | ⟨rfl, rfl⟩ | ⟨rfl, rfl⟩ | ⟨rfl, rfl⟩ | ⟨rfl, rfl⟩ | ⟨rfl, rfl⟩
  · obtain ⟨a, rfl⟩ := len1 (ok.one (.inl rfl)); exact read_d a inn
  · obtain ⟨a, rfl⟩ := len1 (ok.one (.inl rfl)); exact write_d a inn
  · obtain ⟨a, rfl⟩ := len1 (ok.one (.inr rfl)); exact read_d a inn
  · obtain ⟨a, rfl⟩ := len1 (ok.one (.inr rfl)); exact add_d a inn
  · exact put_d c (ok.put rfl) inn
  · exact takef_d c ok.le inn
  · exact put_d c (ok.put rfl) inn
  · exact takel_d c ok.le inn
theorem fnD_enters {k d : Int} (h : doesB k d = true) : ∀ args w, (callFunc (fnD k d) args).run Try.prog w = .ok (.enter (fnD k d) args) w := by
  rcases does_cases h with ⟨rfl, rfl⟩ | ⟨rfl, rfl⟩ | ⟨rfl, rfl⟩ | ⟨rfl, rfl⟩ | ⟨rfl, rfl⟩ | ⟨rfl, rfl⟩ | ⟨rfl, rfl⟩ | ⟨rfl, rfl⟩
  · exact cf_fn Try.func58 (by kernel_rfl) (by kernel_rfl)
  · exact cf_fn Try.func59 (by kernel_rfl) (by kernel_rfl)
  · exact cf_fn Try.func58 (by kernel_rfl) (by kernel_rfl)
  · exact cf_fn Try.func60 (by kernel_rfl) (by kernel_rfl)
  · exact cf_fn Try.func61 (by kernel_rfl) (by kernel_rfl)
  · exact cf_fn Try.func62 (by kernel_rfl) (by kernel_rfl)
  · exact cf_fn Try.func61 (by kernel_rfl) (by kernel_rfl)
  · exact cf_fn Try.func63 (by kernel_rfl) (by kernel_rfl)
theorem run_valueL {P : Program} {m : Sem Value} {v : Value} {w w' : World} (h : m.run P w = .ok v w') : (m.bind fun x => pure (.value x) : Sem Next).run P w = .ok (.value v) w' := by
  show (m >>= fun x => pure (Next.value x)).run P w = _
  rw [Sem.run_bind, h]
  rfl
/-- How done stands. -/
structure DnS (w W : World) (k : Int) (c : List Int) (x : Cl) (r : Array Value) : Prop where
  t : W.heap[w.heap.size]? = some (oT k)
  c : W.heap[w.heap.size + 1]? = some (.cells (vC c) TC)
  x : W.heap[w.heap.size + 1 + 1]? = some (oCl x)
  r : W.heap[w.heap.size + 1 + 1 + 1]? = some (.cells r TC)
  b : Below w.heap.size w W
theorem DnS.later {w W W' : World} {k : Int} {c : List Int} {x : Cl} {r : Array Value} (h : DnS w W k c x r) (hb : Below W.heap.size W W') : DnS w W' k c x r := ⟨blk_on h.t hb, blk_on h.c hb, blk_on h.x hb, blk_on h.r hb, bthen h.b hb⟩
theorem DnS.lt {w W : World} {k : Int} {c : List Int} {x : Cl} {r : Array Value} (h : DnS w W k c x r) : w.heap.size + 1 + 1 + 1 < W.heap.size := (Array.getElem?_eq_some_iff.mp h.r).1
theorem DnS.put {w W : World} {k : Int} {c c' : List Int} {x : Cl} {r : Array Value} (h : DnS w W k c x r) : DnS w (W.setRow (w.heap.size + 1) (vC c')) k c' x r :=
  ⟨(setRow_other _ _ _ _ (by omega)).trans h.t, setRow_heap _ _ _ _ _ _ h.c, (setRow_other _ _ _ _ (by omega)).trans h.x, (setRow_other _ _ _ _ (by omega)).trans h.r, below_setRow h.b (by omega) _⟩
theorem DnS.out {w W : World} {k : Int} {c : List Int} {x : Cl} {r : Array Value} (h : DnS w W k c x r) (r' : Array Value) : DnS w (W.setRow (w.heap.size + 1 + 1 + 1) r') k c x r' :=
  ⟨(setRow_other _ _ _ _ (by omega)).trans h.t, (setRow_other _ _ _ _ (by omega)).trans h.c, (setRow_other _ _ _ _ (by omega)).trans h.x, setRow_heap _ _ _ _ _ _ h.r, below_setRow h.b (by omega) _⟩
theorem dn_start (w : World) (k : Int) (c : List Int) (x : Cl) : DnS w ((((w.alloc (oT k)).alloc (.cells (vC c) TC)).alloc (oCl x)).alloc (.cells z9 TC)) k c x z9 := by
  have n2 := heap_alloc_new (w.alloc (oT k)) (.cells (vC c) TC)
  have n3 := heap_alloc_new ((w.alloc (oT k)).alloc (.cells (vC c) TC)) (oCl x)
  have n4 := heap_alloc_new (((w.alloc (oT k)).alloc (.cells (vC c) TC)).alloc (oCl x)) (.cells z9 TC)
  rw [World.size_alloc] at n2
  rw [World.size_alloc, World.size_alloc] at n3
  rw [World.size_alloc, World.size_alloc, World.size_alloc] at n4
  exact ⟨blk_on (blk_on (blk_on (heap_alloc_new _ _) (boxed _ _)) (boxed _ _)) (boxed _ _), blk_on (blk_on n2 (boxed _ _)) (boxed _ _), blk_on n3 (boxed _ _), n4, bthen (bthen (bthen (boxed _ _) (boxed _ _)) (boxed _ _)) (boxed _ _)⟩
theorem dn_far {w W : World} {k : Int} {c : List Int} {x : Cl} {r : Array Value} {B : Nat} {cs : Array Value} (h : DnS w W k c x r) (hB : w.heap.size + 1 + 1 + 1 < B) : DnS w (W.setRow B cs) k c x r :=
  ⟨(setRow_other _ _ _ _ (by omega)).trans h.t, (setRow_other _ _ _ _ (by omega)).trans h.c, (setRow_other _ _ _ _ (by omega)).trans h.x, (setRow_other _ _ _ _ (by omega)).trans h.r, below_setRow h.b (by omega) _⟩
theorem dn_new {w W : World} {k : Int} {c : List Int} {x : Cl} {r : Array Value} {o : Obj} {cs : Array Value} (h : DnS w W k c x r) : DnS w ((W.alloc o).setRow W.heap.size cs) k c x r := dn_far (h.later (boxed _ _)) h.lt
theorem eq_ans (o o' : Int) (e e' : Bool) : ∀ wx, (binOp .eql 127 (.agg (aV o e)) (.agg (aV o' e'))).run Try.prog wx = .ok (.bool (o == o' && (e == e'))) wx := fun wx => by
  have u0 := Try.underlying4
  have a0 := Try.isAgg4
  have z0 := Try.sizeOf4
  have u1 := Try.underlying2
  have a1 := Try.isAgg2
  have z1 := Try.sizeOf2
  have hS : Try.prog.underlying 127 = some (.struct (Try.prog.fieldsOf 127)) := by kernel_rfl
  have hp : Try.prog.stoodInHeld 127 = false := by kernel_rfl
  rw [run_eql_struct, show (10000 : Nat) = 9999 + 1 from rfl, run_equalIn_agg wx 9999 127 _ _ hS hp]
  simp only [Program.fieldsOf, Try.underlying127]
  go_simp
  by_cases h0 : o = o' <;> by_cases h1 : e = e' <;> simp [h0, h1]
theorem eq_ansG (p q : Operand) (o o' : Int) (e e' : Bool) (wx : World) : (do
    eqGuard .eql 127 p q (.agg (aV o e)) (.agg (aV o' e'))
    binOp .eql 127 (.agg (aV o e)) (.agg (aV o' e'))).run Try.prog wx = .ok (.bool (o == o' && (e == e'))) wx := by
  have hm : Try.prog.eqGuardType Try.prog.depth 127 = false := by kernel_rfl
  simp only [Sem.run_bind, run_eqGuard_agg (P := Try.prog) wx .eql 127 p q _ _ hm, Result.andThen_ok]
  exact eq_ans o o' e e' wx
set_option maxHeartbeats 4000000 in
theorem done_any (k : Int) (c : List Int) (x : Cl) (hd : doesB k x.d = true) (ok : OkC k x.d c) (w : World) : Calls Try.prog 52 #[.agg (vT k), .agg (vC c), x.val] w fun e w' => e = .returned (.tuple #[.agg (vC (nxtC k c x)), .bool (fitC k c x)]) ∧ Below w.heap.size w w' := by
  have cD : ∀ wx, Calls Try.prog 42 #[.agg (vT k), .int .i64 x.d] wx _ := fun wx => does_deed hd wx
  have cA : Hid (DeedR (fnD k x.d) c x.inn (actC k x.d c x.inn)) := act_any hd ok x.inn
  have cF : Hid (∀ args w, (callFunc (fnD k x.d) args).run Try.prog w = .ok (.enter (fnD k x.d) args) w) := fnD_enters hd
  have cP : ∀ wx, Calls Try.prog 47 #[x.val] wx _ := fun wx => pend_any x wx
  have hN : Hid (nxtC k c x = (actC k x.d c x.inn).1) := rfl
  have hT : Hid (fitC k c x = (x.pend || ((actC k x.d c x.inn).2.1 == x.out && ((actC k x.d c x.inn).2.2 == x.em)))) := rfl
  have huC : Hid (Try.prog.underlying 59 = _) := Try.underlying59
  have huT : Hid (Try.prog.underlying 65 = _) := Try.underlying65
  have huD : Hid (Try.prog.underlying 62 = _) := Try.underlying62
  have huA : Hid (Try.prog.underlying 127 = _) := Try.underlying127
  have huX : Hid (Try.prog.underlying 53 = _) := Try.underlying53
  have s0 : Hid (DnS w _ k c x z9) := dn_start w k c x
  clear hd ok
  generalize fnD k x.d = f at *
  generalize actC k x.d c x.inn = r at *
  obtain ⟨c', o, e⟩ := r
  dsimp only at hN hT
  rw [hN.out, hT.out]
  clear hN hT
  go_enter Try.func52, Try.ntmps52
  go_upto_region 1 with fail
  generalize (((w.alloc (oT k)).alloc (.cells (vC c) TC)).alloc (oCl x)).alloc (.cells z9 TC) = W at *
  have kd : W.cell? ⟨w.heap.size + 1 + 1, 1, none⟩ = some (.int .i64 x.d) := cell_lc (k := 1) s0.out.x rfl
  go_wp2_with (first
    | (refine wpList_load_row rfl 65 _ rfl w.heap.size rfl _ _ _ _ s0.out.t huT.out rfl infoT ?_)
    | (go_at_call 42; (with_reducible refine (cD _).mono ?_); rintro e1 w1 ⟨rfl, hb1⟩; (have s1 : Hid (DnS w w1 k c x z9) := s0.out.later hb1); clear hb1 kd s0)
    | (refine wpList_store_row rfl 62 _ _ rfl w1.heap.size #[.int .i64 x.d, fv f] rfl rfl _ _ (heap_alloc_new _ _) infoD rfl (by simp [Value.oneCell']) ?_; (obtain ⟨V2, hV2⟩ : ∃ V2, V2 = (w1.alloc (oD 0 .nilFunc)).setRow w1.heap.size #[.int .i64 x.d, fv f] := ⟨_, rfl⟩); rw [← hV2]; (have s2 : Hid (DnS w V2 k c x z9 ∧ V2.heap[w1.heap.size]? = some (oD x.d (fv f)) ∧ w.heap.size + 1 + 1 + 1 < w1.heap.size) := by (rw [hV2]; exact ⟨dn_new s1.out, setRow_heap _ _ _ _ _ _ (heap_alloc_new _ _), s1.out.lt⟩)); clear hV2 s1; (have kf : V2.cell? ⟨w1.heap.size, 1, none⟩ = some (fv f) := cell_lc (k := 1) s2.out.2.1 rfl); (have ki : V2.cell? ⟨w.heap.size + 1 + 1, 2, none⟩ = some (.int .i64 x.inn) := cell_lc (k := 2) s2.out.1.x rfl))
    | (refine wpList_load_row rfl 59 _ rfl (w.heap.size + 1) rfl _ _ _ _ s2.out.1.c huC.out rfl infoC9 ?_)
    | (refine wpList_callv rfl f (.tmp 20) _ _ _ (.agg (vC c)) (.int .i64 x.inn) rfl rfl rfl rfl cF.out _ (cA.out _) ?_; rintro e1 w3 ⟨rfl, hb3⟩; refine ⟨_, rfl, ?_⟩; (have s3 : Hid (DnS w w3 k c x z9) := s2.out.1.later hb3); clear hb3 kf ki s2)
    | (refine wpList_store_row rfl 59 _ _ rfl (w.heap.size + 1) (vC c') rfl rfl _ _ (blk_on s3.out.c (boxed _ _)) infoC9 rfl (vC_one _) ?_; (obtain ⟨V4, hV4⟩ : ∃ V4, V4 = (w3.alloc (.cells (aV 0 false) TA)).setRow (w.heap.size + 1) (vC c') := ⟨_, rfl⟩); rw [← hV4]; (have s4 : Hid (DnS w V4 k c' x z9 ∧ V4.heap[w3.heap.size]? = some (.cells (aV 0 false) TA) ∧ w.heap.size + 1 + 1 + 1 < w3.heap.size) := by (rw [hV4]; exact ⟨(s3.out.later (boxed _ _)).put, (setRow_other _ _ _ _ (by have := s3.out.lt; omega)).trans (heap_alloc_new _ _), s3.out.lt⟩)); clear hV4 s3)
    | (refine wpList_store_row rfl 127 _ _ rfl w3.heap.size (aV o e) rfl rfl _ _ s4.out.2.1 infoAn rfl (by simp [Value.oneCell']) ?_; (obtain ⟨V5, hV5⟩ : ∃ V5, V5 = V4.setRow w3.heap.size (aV o e) := ⟨_, rfl⟩); rw [← hV5]; (have s5 : Hid (DnS w V5 k c' x z9 ∧ V5.heap[w3.heap.size]? = some (.cells (aV o e) TA) ∧ w.heap.size + 1 + 1 + 1 < w3.heap.size) := by (rw [hV5]; exact ⟨dn_far s4.out.1 s4.out.2.2, setRow_heap _ _ _ _ _ _ s4.out.2.1, s4.out.2.2⟩)); clear hV5 s4))
  generalize w3.heap.size = B at *
  refine wp_region_held_drew (S := fun w' => (∃ r, DnS w w' k c' x r) ∧ w'.heap[B]? = some (.cells (aV o e) TA)) (by kernel_rfl) ⟨⟨_, s5.out.1.later (bey_drew V5)⟩, blk_on s5.out.2.1 (bey_drew V5)⟩ (fun hH => ?_)
  have s6 : Hid (DnS w V5.drew k c' x z9) := s5.out.1.later (bey_drew V5)
  have hBl : Hid (w.heap.size + 1 + 1 + 1 < B) := s5.out.2.2
  generalize V5.drew = V at *
  clear s5
  refine reg_load (i := 0) rfl (by kernel_rfl) (by kernel_rfl) (by kernel_rfl) (fun _ _ _ _ h => h) rfl 59 _ rfl (w.heap.size + 1) 0 rfl (vC c').toList _ (fun w' h' j v hj => by rw [Nat.zero_add]; exact cell_lc h'.1.choose_spec.c (by simpa using hj)) huC.out rfl infoC9 hH ?_
  simp only [Act.put, List.getElem_toArray, List.getElem_cons_succ, List.getElem_cons_zero, List.setIfInBounds_toArray, List.set_cons_zero, List.set_cons_succ]
  refine reg_load (i := 1) rfl (by kernel_rfl) (by kernel_rfl) (by kernel_rfl) (fun _ _ _ _ h => h) rfl 53 _ rfl (w.heap.size + 1 + 1) 0 rfl x.cells _ (fun w' h' j v hj => by rw [Nat.zero_add]; exact cell_lc h'.1.choose_spec.x (by simpa [Cl.cells] using hj)) huX.out rfl (by kernel_rfl) hH ?_
  simp only [Act.put, List.getElem_toArray, List.getElem_cons_succ, List.getElem_cons_zero, List.setIfInBounds_toArray, List.set_cons_zero, List.set_cons_succ]
  refine reg_call1 (i := 2) (by kernel_rfl) rfl rfl 47 _ _ rfl x.val rfl (cf_fn Try.func47 (by kernel_rfl) (by kernel_rfl) _ _) _ (cP _) ?_
  rintro e1 V1 ⟨rfl, hb1⟩
  have s7 : Hid (DnS w V1 k c' x z9) := s6.out.later hb1
  refine ⟨_, rfl, ⟨⟨_, s7.out⟩, blk_on hH.2 hb1⟩, fun hH => ?_⟩
  clear s6 hb1
  simp only [Act.put, List.getElem_toArray, List.getElem_cons_succ, List.getElem_cons_zero, List.setIfInBounds_toArray, List.set_cons_zero, List.set_cons_succ]
  obtain ⟨p, hp⟩ : ∃ p, x.pend = p := ⟨_, rfl⟩
  rw [hp]
  have hpH : Hid (x.pend = p) := hp
  clear hp
  cases p with
  | true =>
    refine reg_move (i := 3) rfl (by kernel_rfl) (by kernel_rfl) (by kernel_rfl) (fun _ _ _ _ h => h) rfl (.bool true) (fun _ => by first | rfl | kernel_rfl) hH ?_
    simp only [Act.put, List.getElem_toArray, List.getElem_cons_succ, List.getElem_cons_zero, List.setIfInBounds_toArray, List.set_cons_zero, List.set_cons_succ]
    refine reg_skipL (i := 4) rfl (by kernel_rfl) (by kernel_rfl) (by kernel_rfl) (fun _ _ _ _ h => h) rfl hH ?_
    simp only [Act.put, List.getElem_toArray, List.getElem_cons_succ, List.getElem_cons_zero, List.setIfInBounds_toArray, List.set_cons_zero, List.set_cons_succ]
    refine reg_skipL (i := 5) rfl (by kernel_rfl) (by kernel_rfl) (by kernel_rfl) (fun _ _ _ _ h => h) rfl hH ?_
    simp only [Act.put, List.getElem_toArray, List.getElem_cons_succ, List.getElem_cons_zero, List.setIfInBounds_toArray, List.set_cons_zero, List.set_cons_succ]
    refine reg_skipL (i := 6) rfl (by kernel_rfl) (by kernel_rfl) (by kernel_rfl) (fun _ _ _ _ h => h) rfl hH ?_
    simp only [Act.put, List.getElem_toArray, List.getElem_cons_succ, List.getElem_cons_zero, List.setIfInBounds_toArray, List.set_cons_zero, List.set_cons_succ]
    refine reg_skipL (i := 7) rfl (by kernel_rfl) (by kernel_rfl) (by kernel_rfl) (fun _ _ _ _ h => h) rfl hH ?_
    simp only [Act.put, List.getElem_toArray, List.getElem_cons_succ, List.getElem_cons_zero, List.setIfInBounds_toArray, List.set_cons_zero, List.set_cons_succ]
    refine reg_skipL (i := 8) rfl (by kernel_rfl) (by kernel_rfl) (by kernel_rfl) (fun _ _ _ _ h => h) rfl hH ?_
    simp only [Act.put, List.getElem_toArray, List.getElem_cons_succ, List.getElem_cons_zero, List.setIfInBounds_toArray, List.set_cons_zero, List.set_cons_succ]
    refine reg_skipL (i := 9) rfl (by kernel_rfl) (by kernel_rfl) (by kernel_rfl) (fun _ _ _ _ h => h) rfl hH ?_
    simp only [Act.put, List.getElem_toArray, List.getElem_cons_succ, List.getElem_cons_zero, List.setIfInBounds_toArray, List.set_cons_zero, List.set_cons_succ]
    refine reg_skipL (i := 10) rfl (by kernel_rfl) (by kernel_rfl) (by kernel_rfl) (fun _ _ _ _ h => h) rfl hH ?_
    simp only [Act.put, List.getElem_toArray, List.getElem_cons_succ, List.getElem_cons_zero, List.setIfInBounds_toArray, List.set_cons_zero, List.set_cons_succ]
    refine reg_move (i := 11) rfl (by kernel_rfl) (by kernel_rfl) (by kernel_rfl) (fun _ _ _ _ h => h) rfl (.bool true) (fun _ => by first | rfl | kernel_rfl) hH ?_
    simp only [Act.put, List.getElem_toArray, List.getElem_cons_succ, List.getElem_cons_zero, List.setIfInBounds_toArray, List.set_cons_zero, List.set_cons_succ]
    refine reg_one (i := 12) (by kernel_rfl) rfl rfl ?_
    refine wpList_store_row rfl 59 _ _ rfl (w.heap.size + 1 + 1 + 1) (vC c') rfl rfl _ _ s7.out.r infoC9 rfl (vC_one _) ?_
    have s8 : Hid (DnS w _ k c' x (vC c')) := s7.out.out (vC c')
    have hB8 : (V1.setRow (w.heap.size + 1 + 1 + 1) (vC c')).heap[B]? = some (.cells (aV o e) TA) := (setRow_other _ _ _ _ (by have := hBl.out; omega)).trans hH.2
    generalize World.setRow _ _ _ = V8 at *
    refine wpList_nil ⟨⟨⟨_, s8.out⟩, hB8⟩, fun hH => ?_⟩
    simp only [Act.put, List.getElem_toArray, List.getElem_cons_succ, List.getElem_cons_zero, List.setIfInBounds_toArray, List.set_cons_zero, List.set_cons_succ]
    refine reg_move (i := 13) rfl (by kernel_rfl) (by kernel_rfl) (by kernel_rfl) (fun _ _ _ _ h => h) rfl (.bool true) (fun _ => by first | rfl | kernel_rfl) hH ?_
    simp only [Act.put, List.getElem_toArray, List.getElem_cons_succ, List.getElem_cons_zero, List.setIfInBounds_toArray, List.set_cons_zero, List.set_cons_succ]
    refine wpAnyH_done (by kernel_rfl) ?_ _
    go_wp2
    exact bodyPost_ret (res_cs Try.results52 _ _ (run_loadVar_row _ _ _ 59 _ _ _ s8.out.r huC.out rfl infoC9) rfl rfl) rfl ⟨by rw [hpH.out]; rfl, s8.out.b⟩
  | false =>
    refine reg_move (i := 3) rfl (by kernel_rfl) (by kernel_rfl) (by kernel_rfl) (fun _ _ _ _ h => h) rfl (.bool false) (fun _ => by first | rfl | kernel_rfl) hH ?_
    simp only [Act.put, List.getElem_toArray, List.getElem_cons_succ, List.getElem_cons_zero, List.setIfInBounds_toArray, List.set_cons_zero, List.set_cons_succ]
    refine reg_load (i := 4) rfl (by kernel_rfl) (by kernel_rfl) (by kernel_rfl) (fun _ _ _ _ h => h) rfl 127 _ rfl B 0 rfl [.int .i64 o, .bool e] _ (fun w' h' j v hj => by rw [Nat.zero_add]; exact cell_lc h'.2 (by simpa using hj)) huA.out rfl infoAn hH ?_
    simp only [Act.put, List.getElem_toArray, List.getElem_cons_succ, List.getElem_cons_zero, List.setIfInBounds_toArray, List.set_cons_zero, List.set_cons_succ]
    refine reg_move (i := 5) rfl (by kernel_rfl) (by kernel_rfl) (by kernel_rfl) (fun _ _ _ _ h => h) rfl (.pointer (some ⟨w.heap.size + 1 + 1, 3, none⟩)) (fun _ => by first | rfl | kernel_rfl) hH ?_
    simp only [Act.put, List.getElem_toArray, List.getElem_cons_succ, List.getElem_cons_zero, List.setIfInBounds_toArray, List.set_cons_zero, List.set_cons_succ]
    refine reg_load1 (i := 6) rfl (by kernel_rfl) (by kernel_rfl) (by kernel_rfl) (fun _ _ _ _ h => h) rfl 2 _ rfl ⟨w.heap.size + 1 + 1, 3, none⟩ rfl _ Try.underlying2 rfl (.int .i64 x.out) (fun w' h' => cell_lc (k := 3) h'.1.choose_spec.x rfl) hH ?_
    simp only [Act.put, List.getElem_toArray, List.getElem_cons_succ, List.getElem_cons_zero, List.setIfInBounds_toArray, List.set_cons_zero, List.set_cons_succ]
    refine reg_move (i := 7) rfl (by kernel_rfl) (by kernel_rfl) (by kernel_rfl) (fun _ _ _ _ h => h) rfl (.pointer (some ⟨w.heap.size + 1 + 1, 4, none⟩)) (fun _ => by first | rfl | kernel_rfl) hH ?_
    simp only [Act.put, List.getElem_toArray, List.getElem_cons_succ, List.getElem_cons_zero, List.setIfInBounds_toArray, List.set_cons_zero, List.set_cons_succ]
    refine reg_load1 (i := 8) rfl (by kernel_rfl) (by kernel_rfl) (by kernel_rfl) (fun _ _ _ _ h => h) rfl 4 _ rfl ⟨w.heap.size + 1 + 1, 4, none⟩ rfl _ Try.underlying4 rfl (.bool x.em) (fun w' h' => cell_lc (k := 4) h'.1.choose_spec.x rfl) hH ?_
    simp only [Act.put, List.getElem_toArray, List.getElem_cons_succ, List.getElem_cons_zero, List.setIfInBounds_toArray, List.set_cons_zero, List.set_cons_succ]
    refine reg_move (i := 9) rfl (by kernel_rfl) (by kernel_rfl) (by kernel_rfl) (fun _ _ _ _ h => h) rfl (.agg (aV x.out x.em)) (fun _ => by first | rfl | kernel_rfl) hH ?_
    simp only [Act.put, List.getElem_toArray, List.getElem_cons_succ, List.getElem_cons_zero, List.setIfInBounds_toArray, List.set_cons_zero, List.set_cons_succ]
    refine reg_move (i := 10) rfl (by kernel_rfl) (by kernel_rfl) (by kernel_rfl) (fun _ _ _ _ h => h) rfl (.bool (o == x.out && (e == x.em))) (fun wx => by unfold execOp; exact run_valueL (eq_ansG _ _ o x.out e x.em wx)) hH ?_
    simp only [Act.put, List.getElem_toArray, List.getElem_cons_succ, List.getElem_cons_zero, List.setIfInBounds_toArray, List.set_cons_zero, List.set_cons_succ]
    refine reg_move (i := 11) rfl (by kernel_rfl) (by kernel_rfl) (by kernel_rfl) (fun _ _ _ _ h => h) rfl (.bool (o == x.out && (e == x.em))) (fun _ => by first | rfl | kernel_rfl) hH ?_
    simp only [Act.put, List.getElem_toArray, List.getElem_cons_succ, List.getElem_cons_zero, List.setIfInBounds_toArray, List.set_cons_zero, List.set_cons_succ]
    refine reg_one (i := 12) (by kernel_rfl) rfl rfl ?_
    refine wpList_store_row rfl 59 _ _ rfl (w.heap.size + 1 + 1 + 1) (vC c') rfl rfl _ _ s7.out.r infoC9 rfl (vC_one _) ?_
    have s8 : Hid (DnS w _ k c' x (vC c')) := s7.out.out (vC c')
    have hB8 : (V1.setRow (w.heap.size + 1 + 1 + 1) (vC c')).heap[B]? = some (.cells (aV o e) TA) := (setRow_other _ _ _ _ (by have := hBl.out; omega)).trans hH.2
    generalize World.setRow _ _ _ = V8 at *
    refine wpList_nil ⟨⟨⟨_, s8.out⟩, hB8⟩, fun hH => ?_⟩
    simp only [Act.put, List.getElem_toArray, List.getElem_cons_succ, List.getElem_cons_zero, List.setIfInBounds_toArray, List.set_cons_zero, List.set_cons_succ]
    refine reg_move (i := 13) rfl (by kernel_rfl) (by kernel_rfl) (by kernel_rfl) (fun _ _ _ _ h => h) rfl (.bool (o == x.out && (e == x.em))) (fun _ => by first | rfl | kernel_rfl) hH ?_
    simp only [Act.put, List.getElem_toArray, List.getElem_cons_succ, List.getElem_cons_zero, List.setIfInBounds_toArray, List.set_cons_zero, List.set_cons_succ]
    refine wpAnyH_done (by kernel_rfl) ?_ _
    go_wp2
    exact bodyPost_ret (res_cs Try.results52 _ _ (run_loadVar_row _ _ _ 59 _ _ _ s8.out.r huC.out rfl infoC9) rfl rfl) rfl ⟨by rw [hpH.out]; rfl, s8.out.b⟩
end Go.Proofs.Ytklpifammbnldaa.pg
/- Whether a history is right: package linear's look and Check. -/
namespace Go.Proofs.Ytklpifammbnldaa.pg
open Go.ChangeShapes Go.WideShapes Go.ChangeAt Go.RowKit
set_option linter.unusedVariables false
set_option linter.unusedSimpArgs false
set_option maxRecDepth 100000
attribute [local go_sem ↓] Go.wp_at_zero Go.wp_at_succ
theorem cl_ix {w : World} {a : Option Addr} {cap : Nat} {h : List Cl} (hR : Rows w 7 a cap (h.map Cl.cells)) {i : Nat} (hi : i < h.length) :
    ∃ b o, (∀ wx, (Instr.indexAt 22 (.slice a h.length cap) (.int .i64 (i : Int))).run Try.prog wx = .ok (.pointer (some ⟨b, o, none⟩)) wx) ∧ b < w.heap.size ∧ w.rangeAt b o (hf h i).cells := by
  obtain ⟨b, o, hr, hlt, hc⟩ := hR.ix 22 53 Try.underlying22 (by kernel_rfl) (fun wx => Try.sizeOf53 wx) i (row := (hf h i).cells) (by rw [List.getElem?_map, hf_at hi]; rfl)
  rw [List.length_map] at hr
  exact ⟨b, o, hr, hlt, hc⟩
theorem cl_ixp {w : World} {a : Option Addr} {cap : Nat} {h : List Cl} (hR : Rows w 7 a cap (h.map Cl.cells)) {i n : Nat} (hi : i < n) (hn : n ≤ h.length) :
    ∃ b o, (∀ wx, (Instr.indexAt 22 (.slice a n cap) (.int .i64 (i : Int))).run Try.prog wx = .ok (.pointer (some ⟨b, o, none⟩)) wx) ∧ b < w.heap.size ∧ w.rangeAt b o (hf h i).cells := by
  have hR2 : Rows w 7 a cap ((h.take n).map Cl.cells) := by
    obtain ⟨h1, h2, h3, h4⟩ := hR
    refine ⟨by rw [List.length_map, List.length_take]; rw [List.length_map] at h1; omega, h2, fun e => ⟨?_, (h3 e).2⟩, ?_⟩
    · have := (h3 e).1
      have : h = [] := by simpa using this
      rw [this]; simp
    · rcases h4 with h4 | ⟨b, off, ha, hlt, hc⟩
      · left
        have : h = [] := by simpa using h4
        rw [this]; simp
      · right
        refine ⟨b, off, ha, hlt, fun i row hi => hc i row ?_⟩
        rw [List.getElem?_map, List.getElem?_take] at hi
        rw [List.getElem?_map]
        split at hi
        · exact hi
        · cases hi
  have hl : (h.take n).length = n := by rw [List.length_take]; omega
  obtain ⟨b, o, hr, hlt, hc⟩ := cl_ix hR2 (i := i) (by omega)
  rw [hl] at hr
  have : hf (h.take n) i = hf h i := by
    unfold hf
    rw [List.getD_eq_getElem?_getD, List.getD_eq_getElem?_getD, List.getElem?_take, if_pos hi]
  rw [this] at hc
  exact ⟨b, o, hr, hlt, hc⟩
theorem sub_call (a : Option Addr) (n cap j : Nat) (hj : j ≤ cap) (hc : cap ≤ 9223372036854775807) : ∀ wx, (Instr.sliceAt 22 (.slice a n cap) none (some (.int .i64 (j : Int))) none).run Try.prog wx = .ok (.slice a j cap) wx := by
  intro wx
  have u := Try.underlying22
  have z := Try.sizeOf53
  have h1 : (j : Int) ≤ cap := by omega
  have h2 : ¬ (cap : Int) < j := by omega
  have h3 : ¬ (j : Int) < 0 := by omega
  cases a <;> simp [Instr.sliceAt, run_underlying u, asIntOf, go_sem, z, h1, h2, h3, hj]
theorem infoX : (Try.prog.info? 53).map (·.size) = some 7 := by kernel_rfl
/-- All operations ahead of a place are right. -/
def goodTo (k : Int) (h : List Cl) (i : Nat) : Prop := ∀ a, a < i → doesB k (hf h a).d = true ∧ rcB (hf h a) = true ∧ ∀ b, b < a → pairB (hf h a) (hf h b) = false
theorem good_right {k : Int} {h : List Cl} (hk : 1 ≤ k ∧ k ≤ 4) (hn : h.length ≤ 8) (hg : goodTo k h h.length) : RightH k h := by
  refine ⟨hk, hn, fun x hx => ?_, ?_⟩
  · obtain ⟨i, hi⟩ := List.mem_iff_getElem?.mp hx
    have hlt := (List.getElem?_eq_some_iff.mp hi).1
    have := hf_at hlt
    rw [hi] at this
    rw [Option.some.inj this]
    exact ⟨(hg i hlt).1, (hg i hlt).2.1⟩
  · rw [List.pairwise_iff_getElem]
    intro i j hi hj hij
    have e1 : h[i] = hf h i := by have := hf_at hi; rw [List.getElem?_eq_getElem hi] at this; exact Option.some.inj this
    have e2 : h[j] = hf h j := by have := hf_at hj; rw [List.getElem?_eq_getElem hj] at this; exact Option.some.inj this
    rw [e1, e2]
    exact (hg j hj).2.2 i hij
theorem wpList_skipL {P : Program} {ops : Array Oper} {Q : Exit → Act → World → Prop} {rest : List Oper} {o : Oper} {a : Act} {w : World} (hw : Region.wanted o (yielded ops a.tmps) = false) (h : wpList P ops Q rest (a.put o.dst undef) w) : wpList P ops Q (o :: rest) a w := by
  unfold wpList
  rw [if_neg (by rw [hw]; simp)]
  exact h
def StopL (p : Prop) : Prop := p
theorem stopL_in {p : Prop} (h : StopL p) : p := h
theorem stopL_out {p : Prop} (h : p) : StopL p := h
theorem at_storeL {P : Program} {ops : Array Oper} {rest : List Oper} {op : Oper} {a : Act} {w : World} {Q : Exit → Act → World → Prop} (ty : TypeId) (x y : Operand) (ho : op.op = .store ty x y) (h : StopL (wpList P ops Q (op :: rest) a w)) : wpList P ops Q (op :: rest) a w := h
theorem at_loadL {P : Program} {ops : Array Oper} {rest : List Oper} {op : Oper} {a : Act} {w : World} {Q : Exit → Act → World → Prop} (ty : TypeId) (x : Operand) (ho : op.op = .load ty x) (h : StopL (wpList P ops Q (op :: rest) a w)) : wpList P ops Q (op :: rest) a w := h
theorem wpList_valL {P : Program} {ops : Array Oper} {Q : Exit → Act → World → Prop} {rest : List Oper} {o : Oper} {a : Act} {w : World} (hgd : o.guard = none) (v : Value) (hr : (execOp a.eval o).run P w = .ok (.value v) w) (h : wpList P ops Q rest (a.put o.dst v) w) : wpList P ops Q (o :: rest) a w := wpList_plain hgd fun K hK => by
  unfold Oper.wp
  rw [hr]
  exact hK _ _ h
/-- How look stands. -/
structure LkS (w W : World) (k : Int) (B : Nat) : Prop where
  r : W.heap[w.heap.size]? = some (.cells zT TT)
  t : W.heap[B]? = some (oT k)
  b : Below w.heap.size w W
theorem LkS.later {w W W' : World} {k : Int} {B : Nat} (h : LkS w W k B) (hb : Below W.heap.size W W') : LkS w W' k B := ⟨blk_on h.r hb, blk_on h.t hb, bthen h.b hb⟩
theorem LkS.set {w W : World} {k : Int} {B C : Nat} {cs : Array Value} (h : LkS w W k B) (h1 : w.heap.size < C) (h2 : B ≠ C) : LkS w (W.setRow C cs) k B := ⟨(setRow_other _ _ _ _ (by omega)).trans h.r, (setRow_other _ _ _ _ h2).trans h.t, below_setRow h.b (by omega) _⟩
theorem LkS.lt {w W : World} {k : Int} {B : Nat} (h : LkS w W k B) : w.heap.size < W.heap.size ∧ B < W.heap.size := ⟨(Array.getElem?_eq_some_iff.mp h.r).1, (Array.getElem?_eq_some_iff.mp h.t).1⟩
def LookP (k : Int) (h : List Cl) (e : Ending) : Prop := (RightH k h ∧ e = .returned (.tuple #[.agg (vT k), .int .i64 0])) ∨ (¬ RightH k h ∧ e = .returned (.tuple #[.agg zT, .int .i64 260]))
theorem look_res {tmps : Array Value} {w W : World} {v : Value} {r : Array Value} (hr : W.heap[w.heap.size]? = some (.cells r TT)) (hz : r.size = 13) (hp : tmps[4]?.getD undef = .pointer (some ⟨w.heap.size, 0, none⟩)) (hq : tmps[5]?.getD undef = v) : (results Try.f28 tmps).run Try.prog W = .ok (.tuple #[.agg r, v]) W :=
  res_cs Try.results28 _ _ (run_loadVar_row _ _ _ 65 _ _ _ hr Try.underlying65 rfl (by rw [hz]; exact infoT)) hp hq
theorem look_new {w W : World} {v : Array Value} (h : W.heap[w.heap.size]? = some (.cells zT TT)) (hb : Below w.heap.size w W) : ((W.alloc (.cells zT TT)).setRow W.heap.size v).heap[w.heap.size]? = some (.cells zT TT) ∧ ((W.alloc (.cells zT TT)).setRow W.heap.size v).heap[W.heap.size]? = some (.cells v TT) ∧ Below w.heap.size w ((W.alloc (.cells zT TT)).setRow W.heap.size v) := by
  have := (Array.getElem?_eq_some_iff.mp h).1
  exact ⟨(setRow_other _ _ _ _ (by omega)).trans (blk_on h (boxed _ _)), setRow_heap _ _ _ _ _ _ (heap_alloc_new _ _), below_setRow (bthen hb (boxed _ _)) hb.size _⟩
end Go.Proofs.Ytklpifammbnldaa.pg
