/- One element appended to a list of the call's own. -/
import Derived.Test.YtdfnmlcpimiboaaM2
import Derived.Laws.StructEq
import Derived.Deep.QuietTactic
import Derived.BigQuiet
import Derived.Deep.MidRow
namespace Go.Proofs.Ytdfnmlcpimiboaa.pg
open Go.ChangeShapes Go.WideShapes Go.ChangeAt Go.RowKit
set_option linter.unusedVariables false
set_option linter.unusedSimpArgs false
set_option maxRecDepth 100000
theorem info_q {P : Program} {e : TypeId} {z : Value} {k b : Nat} (h : (P.info? e).map (fun i => (i.zero, i.size, i.bytes)) = some (some z, k, b)) : ∃ i, P.info? e = some i ∧ i.zero = some z ∧ i.size = k ∧ i.bytes = b := by
  obtain ⟨i, hi, h2⟩ := Option.map_eq_some_iff.mp h
  simp only [Prod.mk.injEq] at h2
  exact ⟨i, hi, h2.1, h2.2.1, h2.2.2⟩
theorem own_nil_q (w : World) (lo e k : Nat) : OwnL w lo e k none 0 [] := ⟨by simp, .inl ⟨rfl, rfl⟩⟩
theorem heap_new_q (w : World) (o : Obj) : (w.alloc o).heap[w.heap.size]? = some o := (MapKept.heap_alloc w o).1
theorem rows_one_q {w : World} {b k : Nat} {cs : List Value} {t : TypeId} (h : w.heap[b]? = some (.cells cs.toArray t (0, 0))) (hk : cs.length = k) : Rows w k (some ⟨b, 0, none⟩) 1 [cs] := by
  refine ⟨by simp, by omega, by simp, .inr ⟨b, 0, rfl, (Array.getElem?_eq_some_iff.mp h).1, fun i row hi => ?_⟩⟩
  cases i with
  | zero =>
    simp at hi
    subst hi
    refine ⟨hk, fun j u hj => ?_⟩
    have := whole_cell h j u (by simpa using hj)
    simpa using this
  | succ i => simp at hi
theorem below_min {B : Nat} {a w w' : World} (h : Below B a w) (hB : B ≤ w.heap.size) (k : Below (min B w.heap.size) w w') : Below B a w' := h.trans (k.mono (by omega))
theorem own_mono_q {w : World} {lo lo2 e k : Nat} {a : Option Addr} {cap : Nat} {L : List (List Value)} (h : OwnL w lo e k a cap L) (hl : lo2 ≤ lo) : OwnL w lo2 e k a cap L := by
  refine ⟨h.1, h.2.imp_right fun ⟨g, cap', cur, h1, hb, hr⟩ => ⟨g, cap', cur, h1, by omega, hr⟩⟩
/-- What an append of one element leaves: the list with it, all else as it was. -/
structure Grown (wr : World) (base e k : Nat) (va : Option Addr) (L : List (List Value)) (cs : List Value) (va' : Option Addr) (vc' : Nat) (w' : World) : Prop where
  ow : OwnL w' base e k va' vc' (L ++ [cs])
  be : Below (min base wr.heap.size) wr w'
  kp : ∀ b, b < wr.heap.size → b ∉ blk va → w'.heap[b]? = wr.heap[b]?
  bk : ∀ b ∈ blk va', b ∈ blk va ∨ wr.heap.size ≤ b
theorem wpList_app1 {P : Program} {wr : World} {ops : Array Oper} {rest : List Oper} {o : Oper} {a : Act} {Q : Exit → Act → World → Prop} (hgd : o.guard = none) (s x : Operand) (t : TypeId)
    (ho : o.op = .call { callee := .builtin .append, args := #[s, x], argTypes := #[t, t] })
    (base : Nat) (e : TypeId) (i : TypeInfo) (z : Value) (k bytes : Nat) (ht : P.underlying t = some (.slice e)) (hi : P.info? e = some i) (hz : i.zero = some z)
    (hsize : i.size = k) (hby : i.bytes = bytes) (hzs : z.cells.size = k) (hsz : 0 < k)
    (va : Option Addr) (vc : Nat) (L : List (List Value)) (hs : a.eval s = .slice va L.length vc) (hown : OwnL wr base e k va vc L) (cs : List Value)
    (hx : a.eval x = .slice (some ⟨wr.heap.size, 0, none⟩) 1 1) (hk : cs.length = k) (h1 : ∀ u ∈ cs, u.oneCell' = true)
    (h63 : L.length + 1 ≤ maxLen) (hbytes : (L.length + 1) * bytes ≤ 140737488355328) (hbase : base ≤ wr.heap.size)
    (h : ∀ va' vc' w', Grown wr base e k va L cs va' vc' w' → wpList P ops Q rest (a.put o.dst (.slice va' (L.length + 1) vc')) w') :
    wpList P ops Q (o :: rest) a (wr.alloc (.cells cs.toArray e)) := by
  have hbx := boxed wr (.cells cs.toArray e)
  have hB : base ≤ (wr.alloc (.cells cs.toArray e)).heap.size := by have := hbx.size; omega
  refine wpList_app hgd s x t ho base e i z k bytes ht hi hz hsize hby hzs hsz va vc L hs (own_keep hown fun b hb => hbx.block b (blk_lt hown b hb).2) (some ⟨wr.heap.size, 0, none⟩) 1 [cs] hx (rows_one_q (heap_new_q wr _) hk) (by intro row hr; rw [List.mem_singleton] at hr; rw [hr]; exact hk) (by intro row hr; rw [List.mem_singleton] at hr; rw [hr]; exact h1) h63 hbytes hB ?_
  intro va' vc' w' ho2 hk2 hB2 hbl
  have := h va' vc' w' ⟨ho2, ?_, ?_, ?_⟩
  · rwa [List.length_append, List.length_singleton]
  · exact (hbx.mono (by omega)).trans (hB2.mono (by have := hbx.size; omega))
  · intro b hb hm
    rw [hk2 b (by have := hbx.size; omega) hm]
    exact hbx.block b hb
  · intro b hb
    rcases hbl with q | q
    · rw [q] at hb; exact .inl hb
    · rw [q, List.mem_singleton] at hb; right; rw [hb]; exact hbx.size
end Go.Proofs.Ytdfnmlcpimiboaa.pg
/- Accesses as plain data, where lists of them lie, and when two lists clash. -/
namespace Go.Proofs.Ytdfnmlcpimiboaa.pg
open Go.ChangeShapes Go.WideShapes Go.ChangeAt Go.RowKit
set_option linter.unusedVariables false
set_option linter.unusedSimpArgs false
set_option maxRecDepth 100000
/-- An access. -/
structure Acc where
  kind : Int
  num : Int
  wr : Bool
def Acc.cells (x : Acc) : List Value := [.int .i64 x.kind, .int .i64 x.num, .bool x.wr]
abbrev Acc.val (x : Acc) : Value := .agg #[.int .i64 x.kind, .int .i64 x.num, .bool x.wr]
def Acc.wf (x : Acc) : Prop := I64 x.kind ∧ I64 x.num
abbrev objA (x : Acc) : Obj := .cells #[.int .i64 x.kind, .int .i64 x.num, .bool x.wr] 52
def BoxA (w : World) (B : Nat) (x : Acc) : Prop := w.cell? ⟨B, 0, none⟩ = some (.int .i64 x.kind) ∧ w.cell? ⟨B, 1, none⟩ = some (.int .i64 x.num) ∧ w.cell? ⟨B, 2, none⟩ = some (.bool x.wr)
theorem BoxA.later {w w' : World} {B : Nat} {x : Acc} (h : BoxA w B x) (hb : Below w.heap.size w w') : BoxA w' B x := ⟨cell_later hb h.1, cell_later hb h.2.1, cell_later hb h.2.2⟩
theorem boxA_new (w : World) (x : Acc) : BoxA (w.alloc (objA x)) w.heap.size x := by
  refine ⟨?_, ?_, ?_⟩ <;> exact World.cell?_alloc_at _ _ _ _ rfl
theorem list3 {α : Type} {cs : List α} (h : cs.length = 3) {a b c : α} (h0 : cs[0]? = some a) (h1 : cs[1]? = some b) (h2 : cs[2]? = some c) : cs = [a, b, c] := by
  match cs, h with
  | [_, _, _], _ => simp_all
theorem len3a (l : List Acc) : ∀ row ∈ l.map Acc.cells, row.length = 3 := by intro r hr; obtain ⟨x, _, rfl⟩ := List.mem_map.mp hr; rfl
theorem one3a (l : List Acc) : ∀ row ∈ l.map Acc.cells, ∀ u ∈ row, u.oneCell' = true := by
  intro r hr
  obtain ⟨x, _, rfl⟩ := List.mem_map.mp hr
  intro u hu
  simp only [Acc.cells, List.mem_cons, List.not_mem_nil, or_false] at hu
  rcases hu with rfl | rfl | rfl <;> rfl
section
variable {H : Type} {enc : TypeId × Value → H} {w : World} {base : Nat} {spare : Nat → Bool} {held : Bool}
theorem acc_in {n : Nat} {cs : List Value} {y : DataW H × List MemPlace} (hl : cs.length = 3) (h : DataW.trod enc Try.prog w base spare held n 52 cs = some y) : ∃ x : Acc, cs = x.cells ∧ x.wf := by
  obtain ⟨v0, _, _, e0, t0⟩ := field_in Try.underlying52 h 0 _ rfl rfl (by kernel_rfl) (by omega)
  obtain ⟨v1, _, _, e1, t1⟩ := field_in Try.underlying52 h 1 _ rfl rfl (by kernel_rfl) (by omega)
  obtain ⟨v2, _, _, e2, t2⟩ := field_in Try.underlying52 h 2 _ rfl rfl (by kernel_rfl) (by omega)
  obtain ⟨z0, rfl, b0⟩ := int_in Try.underlying3 t0
  obtain ⟨z1, rfl, b1⟩ := int_in Try.underlying3 t1
  obtain ⟨z2, rfl⟩ := bool_in Try.underlying4 t2
  exact ⟨⟨z0, z1, z2⟩, list3 hl e0 e1 e2, b0, b1⟩
/-- A list of accesses, opened. -/
theorem accs_in {n : Nat} {a : Option Addr} {len cap : Nat} {y : DataW H × List MemPlace} (h : DataW.trod enc Try.prog w base spare held n 86 [.slice a len cap] = some y) : ∃ l : List Acc, l.length = len ∧ Rows w 3 a cap (l.map Acc.cells) ∧ ∀ x ∈ l, x.wf :=
  rows_in (k := 3) ⟨0, 0, false⟩ Acc.cells Acc.wf Try.underlying86 (by kernel_rfl) (by omega) (fun n cs y hl h => acc_in hl h) h
end
theorem acc_ix {w : World} {a : Option Addr} {cap : Nat} {l : List Acc} (h : Rows w 3 a cap (l.map Acc.cells)) (i : Nat) (x : Acc) (hi : l[i]? = some x) :
    ∃ b o, (∀ wx, (Instr.indexAt 86 (.slice a l.length cap) (.int .i64 (i : Int))).run Try.prog wx = .ok (.pointer (some ⟨b, o, none⟩)) wx) ∧ b < w.heap.size ∧ w.cell? ⟨b, o, none⟩ = some (.int .i64 x.kind) ∧ w.cell? ⟨b, o + 1, none⟩ = some (.int .i64 x.num) ∧ w.cell? ⟨b, o + 2, none⟩ = some (.bool x.wr) := by
  obtain ⟨b, o, hr, hlt, hc⟩ := h.ix 86 52 Try.underlying86 (by kernel_rfl) (fun wx => Try.sizeOf52 wx) i (row := x.cells) (by simp [hi])
  rw [List.length_map] at hr
  exact ⟨b, o, hr, hlt, hc 0 _ rfl, hc 1 _ rfl, hc 2 _ rfl⟩
theorem take_one {α : Type} (l : List α) (j : Nat) (x : α) (h : l[j]? = some x) : l.take (j + 1) = l.take j ++ [x] := by
  rw [List.take_add_one, h]; rfl
/-- Two accesses of one object, one of which writes it. -/
def meets (x y : Acc) : Bool := (x.kind == y.kind && x.num == y.num) && (x.wr || y.wr)
/-- Two lists clash. -/
def clash (a b : List Acc) : Bool := a.any fun x => b.any (meets x)
theorem clash_true {a b : List Acc} {x y : Acc} (hx : x ∈ a) (hy : y ∈ b) (h : meets x y = true) : clash a b = true := List.any_eq_true.mpr ⟨x, hx, List.any_eq_true.mpr ⟨y, hy, h⟩⟩
theorem clash_false {a b : List Acc} (h : ∀ x ∈ a, ∀ y ∈ b, meets x y = false) : clash a b = false := by
  rw [Bool.eq_false_iff]
  intro q
  obtain ⟨x, hx, q⟩ := List.any_eq_true.mp q
  obtain ⟨y, hy, q⟩ := List.any_eq_true.mp q
  rw [h x hx y hy] at q
  cases q
theorem beq_swap (a b : Int) : (a == b) = (b == a) := Bool.eq_iff_iff.mpr ⟨fun h => by rw [beq_iff_eq] at h ⊢; exact h.symm, fun h => by rw [beq_iff_eq] at h ⊢; exact h.symm⟩
theorem meets_comm (x y : Acc) : meets x y = meets y x := by
  unfold meets
  rw [Bool.or_comm x.wr y.wr, beq_swap x.kind y.kind, beq_swap x.num y.num]
theorem clash_comm (a b : List Acc) : clash a b = clash b a := by
  rw [Bool.eq_iff_iff]
  constructor
  all_goals
    intro q
    obtain ⟨x, hx, q⟩ := List.any_eq_true.mp q
    obtain ⟨y, hy, q⟩ := List.any_eq_true.mp q
    exact clash_true hy hx (by rw [meets_comm]; exact q)
def eqA (x y : Acc) : Bool := x.kind == y.kind && x.num == y.num && x.wr == y.wr
theorem eqA_iff (x y : Acc) : eqA x y = true ↔ x = y := by
  cases x; cases y; simp [eqA, Bool.and_eq_true, beq_iff_eq, and_assoc]
theorem run_eqA (x y : Acc) (w : World) : (binOp .eql 52 x.val y.val).run Try.prog w = .ok (.bool (eqA x y)) w := by
  have u0 := Try.underlying4
  have a0 := Try.isAgg4
  have z0 := Try.sizeOf4
  have u1 := Try.underlying3
  have a1 := Try.isAgg3
  have z1 := Try.sizeOf3
  have hS : Try.prog.underlying 52 = some (.struct (Try.prog.fieldsOf 52)) := by kernel_rfl
  have hp : Try.prog.stoodInHeld 52 = false := by kernel_rfl
  rw [run_eql_struct, show (10000 : Nat) = 9999 + 1 from rfl, run_equalIn_agg w 9999 52 _ _ hS hp]
  simp only [Program.fieldsOf, Try.underlying52]
  go_simp
  by_cases h0 : x.kind = y.kind <;> by_cases h1 : x.num = y.num <;> by_cases h2 : x.wr = y.wr <;> simp [eqA, h0, h1, h2]
theorem run_neA (x y : Acc) (w : World) : (binOp .neq 52 x.val y.val).run Try.prog w = .ok (.bool (!eqA x y)) w := by
  have u0 := Try.underlying4
  have a0 := Try.isAgg4
  have z0 := Try.sizeOf4
  have u1 := Try.underlying3
  have a1 := Try.isAgg3
  have z1 := Try.sizeOf3
  have hS : Try.prog.underlying 52 = some (.struct (Try.prog.fieldsOf 52)) := by kernel_rfl
  have hp : Try.prog.stoodInHeld 52 = false := by kernel_rfl
  rw [run_neq_struct, show (10000 : Nat) = 9999 + 1 from rfl, run_equalIn_agg w 9999 52 _ _ hS hp]
  simp only [Program.fieldsOf, Try.underlying52]
  go_simp
  by_cases h0 : x.kind = y.kind <;> by_cases h1 : x.num = y.num <;> by_cases h2 : x.wr = y.wr <;> simp [eqA, h0, h1, h2]
/-- An access but for whether it writes. -/
abbrev Acc.obj (x : Acc) : Acc := ⟨x.kind, x.num, false⟩
theorem object_any (x : Acc) (w : World) : Calls Try.prog 57 #[x.val] w fun e w' => e = .returned (x.obj.val) ∧ Below w.heap.size w w' := by
  go_enter Try.func57, Try.ntmps57
  go_wp2
  exact bodyPost_ret (v := x.obj.val) (by simp [results, Try.results57, go_sem]) rfl ⟨rfl, boxed2 _ _ _⟩
end Go.Proofs.Ytdfnmlcpimiboaa.pg
/- A region that draws its order, walked once in the order of its text, in every world of a class: reads, and calls that leave a world of the class. -/
namespace Go.Proofs.Ytdfnmlcpimiboaa.pg
open Go.ChangeShapes Go.WideShapes Go.ChangeAt Go.RowKit
set_option linter.unusedVariables false
/-- A world of a class. -/
structure Cls (S : World → Prop) where
  w : World
  h : S w
theorem wp_region_cls {P : Program} (S : World → Prop) {id : Nat} {Q : Exit → Act → World → Prop} {a : Act} {w : World} {l : List Oper} (hm : P.follows .mixedOrders = true) (hB : Region.lexB .any l.toArray = true) (hS : S w.drew)
    (h : wpQuiet P l.toArray (fun w' => ∃ s : Cls S, w' = s.w) (fun a' => ∀ w', (∃ s : Cls S, w' = s.w) → Q .normal a' w') l a) : (Code.region id l.toArray true).wp P Q a w :=
  wp_region_quiet (C := fun w' => ∃ s : Cls S, w' = s.w) hm hB ⟨⟨_, hS⟩, rfl⟩ (by simpa using h)
/-- A load of many cells at once, in every world of the class. -/
theorem quiet_load_mid {P : Program} {S : World → Prop} {K : Act → Prop} {o : Oper} {a : Act} (ty : TypeId) (x : Operand) (ho : o.op = .load ty x) (b off : Nat) (hx : a.eval x = .pointer (some ⟨b, off, none⟩)) (cs : List Value) (d : TypeDesc) (hS : ∀ s : Cls S, s.w.rangeAt b off cs)
    (hu : P.underlying ty = some d) (hd : d.isRow = true) (hi : (P.info? ty).map (·.size) = some cs.length) (hk : K (a.put o.dst (.agg cs.toArray))) : o.quiet P a (fun w' => ∃ s : Cls S, w' = s.w) K :=
  ⟨_, fun w hw => by
    obtain ⟨s, rfl⟩ := hw
    unfold Oper.quietAt execOp
    simp only [ho, hx, Instr.loadAt, Instr.sureAddr, Sem.run_bind, Sem.run_pure, Result.andThen_ok, run_loadVar_mid s.w b off ty cs d (hS s) hu hd hi]
    exact ⟨rfl, rfl⟩, hk⟩
/-- A callee's contract in the class of all worlds that lie beyond one. -/
theorem calls_cls {P : Program} {f : FuncId} {args : Array Value} {S : World → Prop} {s : Cls S} {v : Value} {R : World → Prop} (h : Calls P f args s.w fun e w' => e = .returned v ∧ R w') (hR : ∀ w', R w' → S w') :
    Calls P f args s.w fun e w'' => e = .returned v ∧ ∃ t : Cls S, w'' = t.w :=
  h.mono fun _ w' ⟨he, hr⟩ => ⟨he, ⟨w', hR w' hr⟩, rfl⟩
/-- All worlds beyond one. -/
abbrev Bey (W : World) : World → Prop := fun w' => Below W.heap.size W w'
theorem bey_some (W : World) : Nonempty (Cls (Bey W)) := ⟨⟨W, Below.refl _ _⟩⟩
theorem bey_drew (W : World) : Bey W W.drew := (Below.refl _ _).drew
theorem calls_bey {P : Program} {f : FuncId} {args : Array Value} {W : World} {s : Cls (Bey W)} {v : Value} (h : Calls P f args s.w fun e w' => e = .returned v ∧ Below s.w.heap.size s.w w') :
    Calls P f args s.w fun e w'' => e = .returned v ∧ ∃ t : Cls (Bey W), w'' = t.w :=
  calls_cls h fun w' hb => bthen s.h hb
theorem bey_cell {W : World} {a : Addr} {v : Value} (h : W.cell? a = some v) (s : Cls (Bey W)) : s.w.cell? a = some v := cell_later s.h h
end Go.Proofs.Ytdfnmlcpimiboaa.pg
