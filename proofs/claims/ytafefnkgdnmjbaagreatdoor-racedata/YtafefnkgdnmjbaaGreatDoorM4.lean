/- One element appended to a list of the call's own. -/
import Derived.Test.YtafefnkgdnmjbaaGreatDoorM3
import Derived.Test.YtafefnkgdnmjbaaGreatDoorM2
import Derived.Laws.StructEq
import Derived.Lib.MinMax
namespace Go.Proofs.YtafefnkgdnmjbaaGreatDoor.pg
open Go.ChangeShapes Go.WideShapes Go.ChangeAt Go.RowKit
set_option linter.unusedVariables false
set_option linter.unusedSimpArgs false
set_option maxRecDepth 100000
theorem info_q {P : Program} {e : TypeId} {z : Value} {k b : Nat} (h : (P.info? e).map (fun i => (i.zero, i.size, i.bytes)) = some (some z, k, b)) : ∃ i, P.info? e = some i ∧ i.zero = some z ∧ i.size = k ∧ i.bytes = b := by
  obtain ⟨i, hi, h2⟩ := Option.map_eq_some_iff.mp h
  simp only [Prod.mk.injEq] at h2
  exact ⟨i, hi, h2.1, h2.2.1, h2.2.2⟩
theorem own_nil_q (w : World) (lo e k : Nat) : OwnL w lo e k none 0 [] := ⟨by simp, .inl ⟨rfl, rfl⟩⟩
theorem heap_new_q (w : World) (o : Obj) : (w.alloc o).heap[w.heap.size]? = some o := (MapKept.heap_alloc w o).1
theorem rows_one_q {w : World} {b k : Nat} {cs : List Value} {t : TypeId} (h : w.heap[b]? = some (.cells cs.toArray t (0, 0))) (hk : cs.length = k) : Rows w k (some ⟨b, 0, none⟩) 1 [cs] := by
  refine ⟨by simp, by omega, by simp, .inr ⟨b, 0, rfl, (Array.getElem?_eq_some_iff.mp h).1, fun i row hi => ?_⟩⟩
  cases i with
  | zero =>
    simp at hi
    subst hi
    refine ⟨hk, fun j u hj => ?_⟩
    have := whole_cell h j u (by simpa using hj)
    simpa using this
  | succ i => simp at hi
theorem below_min {B : Nat} {a w w' : World} (h : Below B a w) (hB : B ≤ w.heap.size) (k : Below (min B w.heap.size) w w') : Below B a w' := h.trans (k.mono (by omega))
theorem own_mono_q {w : World} {lo lo2 e k : Nat} {a : Option Addr} {cap : Nat} {L : List (List Value)} (h : OwnL w lo e k a cap L) (hl : lo2 ≤ lo) : OwnL w lo2 e k a cap L := by
  refine ⟨h.1, h.2.imp_right fun ⟨g, cap', cur, h1, hb, hr⟩ => ⟨g, cap', cur, h1, by omega, hr⟩⟩
/-- What an append of one element leaves: the list with it, all else as it was. -/
structure Grown (wr : World) (base e k : Nat) (va : Option Addr) (L : List (List Value)) (cs : List Value) (va' : Option Addr) (vc' : Nat) (w' : World) : Prop where
  ow : OwnL w' base e k va' vc' (L ++ [cs])
  be : Below (min base wr.heap.size) wr w'
  kp : ∀ b, b < wr.heap.size → b ∉ blk va → w'.heap[b]? = wr.heap[b]?
  bk : ∀ b ∈ blk va', b ∈ blk va ∨ wr.heap.size ≤ b
theorem wpList_app1 {P : Program} {wr : World} {ops : Array Oper} {rest : List Oper} {o : Oper} {a : Act} {Q : Exit → Act → World → Prop} (hgd : o.guard = none) (s x : Operand) (t : TypeId)
    (ho : o.op = .call { callee := .builtin .append, args := #[s, x], argTypes := #[t, t] })
    (base : Nat) (e : TypeId) (i : TypeInfo) (z : Value) (k bytes : Nat) (ht : P.underlying t = some (.slice e)) (hi : P.info? e = some i) (hz : i.zero = some z)
    (hsize : i.size = k) (hby : i.bytes = bytes) (hzs : z.cells.size = k) (hsz : 0 < k)
    (va : Option Addr) (vc : Nat) (L : List (List Value)) (hs : a.eval s = .slice va L.length vc) (hown : OwnL wr base e k va vc L) (cs : List Value)
    (hx : a.eval x = .slice (some ⟨wr.heap.size, 0, none⟩) 1 1) (hk : cs.length = k) (h1 : ∀ u ∈ cs, u.oneCell' = true)
    (h63 : L.length + 1 ≤ maxLen) (hbytes : (L.length + 1) * bytes ≤ 140737488355328) (hbase : base ≤ wr.heap.size)
    (h : ∀ va' vc' w', Grown wr base e k va L cs va' vc' w' → wpList P ops Q rest (a.put o.dst (.slice va' (L.length + 1) vc')) w') :
    wpList P ops Q (o :: rest) a (wr.alloc (.cells cs.toArray e)) := by
  have hbx := boxed wr (.cells cs.toArray e)
  have hB : base ≤ (wr.alloc (.cells cs.toArray e)).heap.size := by have := hbx.size; omega
  refine wpList_app hgd s x t ho base e i z k bytes ht hi hz hsize hby hzs hsz va vc L hs (own_keep hown fun b hb => hbx.block b (blk_lt hown b hb).2) (some ⟨wr.heap.size, 0, none⟩) 1 [cs] hx (rows_one_q (heap_new_q wr _) hk) (by intro row hr; rw [List.mem_singleton] at hr; rw [hr]; exact hk) (by intro row hr; rw [List.mem_singleton] at hr; rw [hr]; exact h1) h63 hbytes hB ?_
  intro va' vc' w' ho2 hk2 hB2 hbl
  have := h va' vc' w' ⟨ho2, ?_, ?_, ?_⟩
  · rwa [List.length_append, List.length_singleton]
  · exact (hbx.mono (by omega)).trans (hB2.mono (by have := hbx.size; omega))
  · intro b hb hm
    rw [hk2 b (by have := hbx.size; omega) hm]
    exact hbx.block b hb
  · intro b hb
    rcases hbl with q | q
    · rw [q] at hb; exact .inl hb
    · rw [q, List.mem_singleton] at hb; right; rw [hb]; exact hbx.size
end Go.Proofs.YtafefnkgdnmjbaaGreatDoor.pg
/- Accesses as plain data, where lists of them lie, and when two lists clash. -/
namespace Go.Proofs.YtafefnkgdnmjbaaGreatDoor.pg
open Go.ChangeShapes Go.WideShapes Go.ChangeAt Go.RowKit
set_option linter.unusedVariables false
set_option linter.unusedSimpArgs false
set_option maxRecDepth 100000
/-- An access. -/
structure Acc where
  kind : Int
  num : Int
  wr : Bool
def Acc.cells (x : Acc) : List Value := [.int .i64 x.kind, .int .i64 x.num, .bool x.wr]
abbrev Acc.val (x : Acc) : Value := .agg #[.int .i64 x.kind, .int .i64 x.num, .bool x.wr]
def Acc.wf (x : Acc) : Prop := I64 x.kind ∧ I64 x.num
abbrev objA (x : Acc) : Obj := .cells #[.int .i64 x.kind, .int .i64 x.num, .bool x.wr] 66
def BoxA (w : World) (B : Nat) (x : Acc) : Prop := w.cell? ⟨B, 0, none⟩ = some (.int .i64 x.kind) ∧ w.cell? ⟨B, 1, none⟩ = some (.int .i64 x.num) ∧ w.cell? ⟨B, 2, none⟩ = some (.bool x.wr)
theorem BoxA.later {w w' : World} {B : Nat} {x : Acc} (h : BoxA w B x) (hb : Below w.heap.size w w') : BoxA w' B x := ⟨cell_later hb h.1, cell_later hb h.2.1, cell_later hb h.2.2⟩
theorem boxA_new (w : World) (x : Acc) : BoxA (w.alloc (objA x)) w.heap.size x := by
  refine ⟨?_, ?_, ?_⟩ <;> exact World.cell?_alloc_at _ _ _ _ rfl
theorem list3 {α : Type} {cs : List α} (h : cs.length = 3) {a b c : α} (h0 : cs[0]? = some a) (h1 : cs[1]? = some b) (h2 : cs[2]? = some c) : cs = [a, b, c] := by
  match cs, h with
  | [_, _, _], _ => simp_all
theorem len3a (l : List Acc) : ∀ row ∈ l.map Acc.cells, row.length = 3 := by intro r hr; obtain ⟨x, _, rfl⟩ := List.mem_map.mp hr; rfl
theorem one3a (l : List Acc) : ∀ row ∈ l.map Acc.cells, ∀ u ∈ row, u.oneCell' = true := by
  intro r hr
  obtain ⟨x, _, rfl⟩ := List.mem_map.mp hr
  intro u hu
  simp only [Acc.cells, List.mem_cons, List.not_mem_nil, or_false] at hu
  rcases hu with rfl | rfl | rfl <;> rfl
section
variable {H : Type} {enc : TypeId × Value → H} {w : World} {base : Nat} {spare : Nat → Bool} {held : Bool}
theorem acc_in {n : Nat} {cs : List Value} {y : DataW H × List MemPlace} (hl : cs.length = 3) (h : DataW.trod enc Tryz.prog w base spare held n 66 cs = some y) : ∃ x : Acc, cs = x.cells ∧ x.wf := by
  obtain ⟨v0, _, _, e0, t0⟩ := field_in Tryz.underlying66 h 0 _ rfl rfl (by kernel_rfl) (by omega)
  obtain ⟨v1, _, _, e1, t1⟩ := field_in Tryz.underlying66 h 1 _ rfl rfl (by kernel_rfl) (by omega)
  obtain ⟨v2, _, _, e2, t2⟩ := field_in Tryz.underlying66 h 2 _ rfl rfl (by kernel_rfl) (by omega)
  obtain ⟨z0, rfl, b0⟩ := int_in Tryz.underlying3 t0
  obtain ⟨z1, rfl, b1⟩ := int_in Tryz.underlying3 t1
  obtain ⟨z2, rfl⟩ := bool_in Tryz.underlying4 t2
  exact ⟨⟨z0, z1, z2⟩, list3 hl e0 e1 e2, b0, b1⟩
/-- A list of accesses, opened. -/
theorem accs_in {n : Nat} {a : Option Addr} {len cap : Nat} {y : DataW H × List MemPlace} (h : DataW.trod enc Tryz.prog w base spare held n 135 [.slice a len cap] = some y) : ∃ l : List Acc, l.length = len ∧ Rows w 3 a cap (l.map Acc.cells) ∧ ∀ x ∈ l, x.wf :=
  rows_in (k := 3) ⟨0, 0, false⟩ Acc.cells Acc.wf Tryz.underlying135 (by kernel_rfl) (by omega) (fun n cs y hl h => acc_in hl h) h
end
theorem acc_ix {w : World} {a : Option Addr} {cap : Nat} {l : List Acc} (h : Rows w 3 a cap (l.map Acc.cells)) (i : Nat) (x : Acc) (hi : l[i]? = some x) :
    ∃ b o, (∀ wx, (Instr.indexAt 135 (.slice a l.length cap) (.int .i64 (i : Int))).run Tryz.prog wx = .ok (.pointer (some ⟨b, o, none⟩)) wx) ∧ b < w.heap.size ∧ w.cell? ⟨b, o, none⟩ = some (.int .i64 x.kind) ∧ w.cell? ⟨b, o + 1, none⟩ = some (.int .i64 x.num) ∧ w.cell? ⟨b, o + 2, none⟩ = some (.bool x.wr) := by
  obtain ⟨b, o, hr, hlt, hc⟩ := h.ix 135 66 Tryz.underlying135 (by kernel_rfl) (fun wx => Tryz.sizeOf66 wx) i (row := x.cells) (by simp [hi])
  rw [List.length_map] at hr
  exact ⟨b, o, hr, hlt, hc 0 _ rfl, hc 1 _ rfl, hc 2 _ rfl⟩
theorem take_one {α : Type} (l : List α) (j : Nat) (x : α) (h : l[j]? = some x) : l.take (j + 1) = l.take j ++ [x] := by
  rw [List.take_add_one, h]; rfl
/-- Two accesses of one object, one of which writes it. -/
def meets (x y : Acc) : Bool := (x.kind == y.kind && x.num == y.num) && (x.wr || y.wr)
/-- Two lists clash. -/
def clash (a b : List Acc) : Bool := a.any fun x => b.any (meets x)
theorem clash_true {a b : List Acc} {x y : Acc} (hx : x ∈ a) (hy : y ∈ b) (h : meets x y = true) : clash a b = true := List.any_eq_true.mpr ⟨x, hx, List.any_eq_true.mpr ⟨y, hy, h⟩⟩
theorem clash_false {a b : List Acc} (h : ∀ x ∈ a, ∀ y ∈ b, meets x y = false) : clash a b = false := by
  rw [Bool.eq_false_iff]
  intro q
  obtain ⟨x, hx, q⟩ := List.any_eq_true.mp q
  obtain ⟨y, hy, q⟩ := List.any_eq_true.mp q
  rw [h x hx y hy] at q
  cases q
theorem beq_swap (a b : Int) : (a == b) = (b == a) := Bool.eq_iff_iff.mpr ⟨fun h => by rw [beq_iff_eq] at h ⊢; exact h.symm, fun h => by rw [beq_iff_eq] at h ⊢; exact h.symm⟩
theorem meets_comm (x y : Acc) : meets x y = meets y x := by
  unfold meets
  rw [Bool.or_comm x.wr y.wr, beq_swap x.kind y.kind, beq_swap x.num y.num]
theorem clash_comm (a b : List Acc) : clash a b = clash b a := by
  rw [Bool.eq_iff_iff]
  constructor
  all_goals
    intro q
    obtain ⟨x, hx, q⟩ := List.any_eq_true.mp q
    obtain ⟨y, hy, q⟩ := List.any_eq_true.mp q
    exact clash_true hy hx (by rw [meets_comm]; exact q)
def eqA (x y : Acc) : Bool := x.kind == y.kind && x.num == y.num && x.wr == y.wr
theorem eqA_iff (x y : Acc) : eqA x y = true ↔ x = y := by
  cases x; cases y; simp [eqA, Bool.and_eq_true, beq_iff_eq, and_assoc]
theorem run_eqA (x y : Acc) (w : World) : (binOp .eql 66 x.val y.val).run Tryz.prog w = .ok (.bool (eqA x y)) w := by
  have u0 := Tryz.underlying4
  have a0 := Tryz.isAgg4
  have z0 := Tryz.sizeOf4
  have u1 := Tryz.underlying3
  have a1 := Tryz.isAgg3
  have z1 := Tryz.sizeOf3
  have hS : Tryz.prog.underlying 66 = some (.struct (Tryz.prog.fieldsOf 66)) := by kernel_rfl
  have hp : Tryz.prog.stoodInHeld 66 = false := by kernel_rfl
  rw [run_eql_struct, show (10000 : Nat) = 9999 + 1 from rfl, run_equalIn_agg w 9999 66 _ _ hS hp]
  simp only [Program.fieldsOf, Tryz.underlying66]
  go_simp
  by_cases h0 : x.kind = y.kind <;> by_cases h1 : x.num = y.num <;> by_cases h2 : x.wr = y.wr <;> simp [eqA, h0, h1, h2]
theorem run_neA (x y : Acc) (w : World) : (binOp .neq 66 x.val y.val).run Tryz.prog w = .ok (.bool (!eqA x y)) w := by
  have u0 := Tryz.underlying4
  have a0 := Tryz.isAgg4
  have z0 := Tryz.sizeOf4
  have u1 := Tryz.underlying3
  have a1 := Tryz.isAgg3
  have z1 := Tryz.sizeOf3
  have hS : Tryz.prog.underlying 66 = some (.struct (Tryz.prog.fieldsOf 66)) := by kernel_rfl
  have hp : Tryz.prog.stoodInHeld 66 = false := by kernel_rfl
  rw [run_neq_struct, show (10000 : Nat) = 9999 + 1 from rfl, run_equalIn_agg w 9999 66 _ _ hS hp]
  simp only [Program.fieldsOf, Tryz.underlying66]
  go_simp
  by_cases h0 : x.kind = y.kind <;> by_cases h1 : x.num = y.num <;> by_cases h2 : x.wr = y.wr <;> simp [eqA, h0, h1, h2]
/-- An access but for whether it writes. -/
abbrev Acc.obj (x : Acc) : Acc := ⟨x.kind, x.num, false⟩
theorem object_any (x : Acc) (w : World) : Calls Tryz.prog 127 #[x.val] w fun e w' => e = .returned (x.obj.val) ∧ Below w.heap.size w w' := by
  go_enter Tryz.func127, Tryz.ntmps127
  go_wp2
  exact bodyPost_ret (v := x.obj.val) (by simp [results, Tryz.results127, go_sem]) rfl ⟨rfl, boxed2 _ _ _⟩
end Go.Proofs.YtafefnkgdnmjbaaGreatDoor.pg
/- Clash of package depend, of lists of which one is short; the document's own Clash. -/
namespace Go.Proofs.YtafefnkgdnmjbaaGreatDoor.pg
open Go.ChangeShapes Go.WideShapes Go.ChangeAt Go.RowKit
set_option linter.unusedVariables false
set_option linter.unusedSimpArgs false
set_option maxRecDepth 100000
attribute [local go_sem ↓] Go.wp_at_zero Go.wp_at_succ
theorem keepAA {W w' : World} {A B : Nat} {x y : Acc} (h1 : BoxA W A x) (h2 : BoxA W B y) (hb : Below W.heap.size W w') : w'.cell? ⟨A, 0, none⟩ = some (.int .i64 x.kind) ∧ w'.cell? ⟨A, 1, none⟩ = some (.int .i64 x.num) ∧ w'.cell? ⟨A, 2, none⟩ = some (.bool x.wr) ∧ w'.cell? ⟨B, 0, none⟩ = some (.int .i64 y.kind) ∧ w'.cell? ⟨B, 1, none⟩ = some (.int .i64 y.num) ∧ w'.cell? ⟨B, 2, none⟩ = some (.bool y.wr) ∧ Below W.heap.size W w' :=
  have p := h1.later hb
  have q := h2.later hb
  ⟨p.1, p.2.1, p.2.2, q.1, q.2.1, q.2.2, hb⟩
theorem keep6 {A0 A1 A2 A3 A4 A5 Q : Prop} (h : A0 ∧ A1 ∧ A2 ∧ A3 ∧ A4 ∧ A5 ∧ Q) : Q := h.2.2.2.2.2.2
theorem eqA_obj (x y : Acc) : eqA x.obj y.obj = (x.kind == y.kind && x.num == y.num) := by simp [eqA]
theorem none_more {a b : List Acc} {j : Nat} {x : Acc} (hx : a[j]? = some x) (h : ∀ x ∈ a.take j, ∀ y ∈ b, meets x y = false) (h2 : ∀ y ∈ b, meets x y = false) : ∀ x ∈ a.take (j + 1), ∀ y ∈ b, meets x y = false := by
  intro z hz
  rw [take_one a j x hx, List.mem_append, List.mem_singleton] at hz
  rcases hz with hz | rfl
  · exact h z hz
  · exact h2
theorem none_one {b : List Acc} {k : Nat} {x y : Acc} (hy : b[k]? = some y) (h : ∀ y ∈ b.take k, meets x y = false) (h2 : meets x y = false) : ∀ y ∈ b.take (k + 1), meets x y = false := by
  intro z hz
  rw [take_one b k y hy, List.mem_append, List.mem_singleton] at hz
  rcases hz with hz | rfl
  · exact h z hz
  · exact h2
set_option maxHeartbeats 2000000 in
theorem clash_short (a b : List Acc) (aa ba : Option Addr) (ac bc : Nat) (w : World) (ha : Rows w 3 aa ac (a.map Acc.cells)) (hb : Rows w 3 ba bc (b.map Acc.cells)) (hs : a.length ≤ 24 ∨ b.length ≤ 24) (R : Bool) (hR : Hid (R = clash a b)) :
    Calls Tryz.prog 97 #[.slice aa a.length ac, .slice ba b.length bc] w fun e w' => e = .returned (.bool R) ∧ Below w.heap.size w w' := by
  have la := rows_len ha
  have lb := rows_len hb
  have haH : Hid (Rows w 3 aa ac (a.map Acc.cells)) := ha
  have hbH : Hid (Rows w 3 ba bc (b.map Acc.cells)) := hb
  clear ha hb
  have hmin : ¬ (24 : Int) < min (a.length : Int) (b.length : Int) := by rw [Int.lt_min]; omega
  clear hs
  go_enter Tryz.func97, Tryz.ntmps97
  go_wp2
  go_step3
  go_wp2
  go_step3
  go_wp2
  go_loopw [5, 21] (fun s u wr => ∃ j : Nat, j ≤ a.length ∧ s = .bool false ∧ u = .int .i64 j ∧ Below w.heap.size w wr ∧ Hid (∀ x ∈ a.take j, ∀ y ∈ b, meets x y = false)) (fun _ u _ => a.length - (intOf u).toNat)
  case atStart => exact ⟨0, Nat.zero_le _, rfl, rfl, Below.refl _ _, fun s hs => by simp at hs⟩
  case round =>
    obtain ⟨j, hj, rfl, rfl, hb2, hno⟩ := hrel
    by_cases hlt : j < a.length
    · obtain ⟨x, hx, hxm⟩ := get_lt a j hlt
      obtain ⟨b0, o0, hix, hbl, k0, k1, k2⟩ := acc_ix (haH.out.later hb2) j x hx
      have hjI : (j : Int) < a.length := by omega
      go_wp2
      generalize hW0 : wr.alloc (objA x) = W0 at *
      have hBW : Below w.heap.size w W0 := by rw [← hW0]; exact bthen hb2 (boxed _ _)
      have bxH : Hid (BoxA W0 wr.heap.size x) := by rw [← hW0]; exact boxA_new wr x
      have hB0 : Hid (Below wr.heap.size wr W0) := by rw [← hW0]; exact boxed _ _
      clear hW0 k0 k1 k2 hix hbl
      clear hB0
      generalize wr.heap.size = A0 at *
      go_loopw [5, 27] (fun s u wq => ∃ k : Nat, k ≤ b.length ∧ s = .bool false ∧ u = .int .i64 k ∧ Below W0.heap.size W0 wq ∧ Hid (∀ y ∈ b.take k, meets x y = false)) (fun _ u _ => b.length - (intOf u).toNat)
      case atStart => exact ⟨0, Nat.zero_le _, rfl, rfl, Below.refl _ _, fun s hs => by simp at hs⟩
      case round =>
        obtain ⟨k, hk, rfl, rfl, hb3, hno2⟩ := hrel
        by_cases hlt2 : k < b.length
        · obtain ⟨y, hy, hym⟩ := get_lt b k hlt2
          obtain ⟨b1, o1, hix1, hbl1, k0, k1, k2⟩ := acc_ix (hbH.out.later (bthen hBW hb3)) k y hy
          have hkI : (k : Int) < b.length := by omega
          have b3H : Hid (Below W0.heap.size W0 wr) := hb3
          clear hb3
          have hfalse : x.wr = false → y.wr = false → Hid (meets x y = false) := fun h1 h2 => by show _ = _; simp [meets, h1, h2]
          have hor : (x.wr || y.wr) = true → Hid (meets x y = (x.kind == y.kind && x.num == y.num)) := fun h => by show _ = _; unfold meets; rw [h, Bool.and_true]
          have heq : ∀ wx, (binOp .eql 66 (.agg #[.int .i64 x.kind, .int .i64 x.num, .bool false]) (.agg #[.int .i64 y.kind, .int .i64 y.num, .bool false])).run Tryz.prog wx = .ok (.bool (x.kind == y.kind && x.num == y.num)) wx := fun wx => by rw [← eqA_obj]; exact run_eqA x.obj y.obj wx
          have cO : ∀ (k n : Int) (r : Bool) wx, Calls Tryz.prog 127 #[.agg #[.int .i64 k, .int .i64 n, .bool r]] wx _ := fun k n r wx => object_any ⟨k, n, r⟩ wx
          by_cases hw : (x.wr || y.wr) = true
          · have hxy : x.wr = true ∨ x.wr = false ∧ y.wr = true := by revert hw; cases x.wr <;> cases y.wr <;> simp
            clear hfalse
            by_cases hq : (x.kind == y.kind && x.num == y.num) = true
            · have hm : Hid (R = true) := hR.out.trans (clash_true hxm hym ((hor hw).out.trans hq))
              clear hor hw
              rw [hq] at heq
              rcases hxy with hx1 | ⟨hx1, hy1⟩
              · have hx1H : Hid (x.wr = _) := hx1
                clear hx1
                go_wp2_with fail
                generalize hWW : wr.alloc (objA y) = W at *
                have hWb : Hid (Below W0.heap.size W0 W) := by rw [← hWW]; exact bthen b3H.out (boxed _ _)
                have bA : BoxA W A0 x := by rw [← hWW]; exact (bxH.out.later b3H.out).later (boxed _ _)
                have bB : BoxA W wr.heap.size y := by rw [← hWW]; exact boxA_new wr y
                clear hWW k0 k1 k2
                generalize wr.heap.size = B0 at *
                have d0 := bey_cell bA.1
                have d1 := bey_cell bA.2.1
                have d2 := bey_cell bA.2.2
                have d3 := bey_cell bB.1
                have d4 := bey_cell bB.2.1
                have d5 := bey_cell bB.2.2
                rw [hx1H.out] at d2
                clear bA bB
                have hne := bey_some W
                refine wp_region_cls (Bey W) (by kernel_rfl) (by kernel_rfl) (bey_drew W) ?_
                repeat (go_big_quiet_step ((go_at_call 127; exact calls_bey (cO _ _ _ _))))
                refine wpQuiet_nil ?_
                intro _ hw'
                obtain ⟨sq, hw''⟩ := hw'
                subst hw''
                have hBq : Hid (Below W0.heap.size W0 sq.w) := bthen hWb.out sq.h
                go_wp2
                rw [Exit.noGoto_ret]
                go_ret
                exact ⟨by rw [hm.out]; rfl, bthen hBW hBq.out⟩
              · have hx1H : Hid (x.wr = _) := hx1
                have hy1H : Hid (y.wr = _) := hy1
                clear hx1 hy1
                go_wp2_with fail
                generalize hWW : wr.alloc (objA y) = W at *
                have hWb : Hid (Below W0.heap.size W0 W) := by rw [← hWW]; exact bthen b3H.out (boxed _ _)
                have bA : BoxA W A0 x := by rw [← hWW]; exact (bxH.out.later b3H.out).later (boxed _ _)
                have bB : BoxA W wr.heap.size y := by rw [← hWW]; exact boxA_new wr y
                clear hWW k0 k1 k2
                generalize wr.heap.size = B0 at *
                have d0 := bey_cell bA.1
                have d1 := bey_cell bA.2.1
                have d2 := bey_cell bA.2.2
                have d3 := bey_cell bB.1
                have d4 := bey_cell bB.2.1
                have d5 := bey_cell bB.2.2
                rw [hx1H.out] at d2
                rw [hy1H.out] at d5
                clear bA bB
                have hne := bey_some W
                refine wp_region_cls (Bey W) (by kernel_rfl) (by kernel_rfl) (bey_drew W) ?_
                repeat (go_big_quiet_step ((go_at_call 127; exact calls_bey (cO _ _ _ _))))
                refine wpQuiet_nil ?_
                intro _ hw'
                obtain ⟨sq, hw''⟩ := hw'
                subst hw''
                have hBq : Hid (Below W0.heap.size W0 sq.w) := bthen hWb.out sq.h
                go_wp2
                rw [Exit.noGoto_ret]
                go_ret
                exact ⟨by rw [hm.out]; rfl, bthen hBW hBq.out⟩
            · have hm : Hid (meets x y = false) := (hor hw).out.trans (by simpa using hq)
              rw [Bool.eq_false_iff.mpr hq] at heq
              clear hor hw
              rcases hxy with hx1 | ⟨hx1, hy1⟩
              · have hx1H : Hid (x.wr = _) := hx1
                clear hx1
                go_wp2_with fail
                generalize hWW : wr.alloc (objA y) = W at *
                have hWb : Hid (Below W0.heap.size W0 W) := by rw [← hWW]; exact bthen b3H.out (boxed _ _)
                have bA : BoxA W A0 x := by rw [← hWW]; exact (bxH.out.later b3H.out).later (boxed _ _)
                have bB : BoxA W wr.heap.size y := by rw [← hWW]; exact boxA_new wr y
                clear hWW k0 k1 k2
                generalize wr.heap.size = B0 at *
                have d0 := bey_cell bA.1
                have d1 := bey_cell bA.2.1
                have d2 := bey_cell bA.2.2
                have d3 := bey_cell bB.1
                have d4 := bey_cell bB.2.1
                have d5 := bey_cell bB.2.2
                rw [hx1H.out] at d2
                clear bA bB
                have hne := bey_some W
                refine wp_region_cls (Bey W) (by kernel_rfl) (by kernel_rfl) (bey_drew W) ?_
                repeat (go_big_quiet_step ((go_at_call 127; exact calls_bey (cO _ _ _ _))))
                refine wpQuiet_nil ?_
                intro _ hw'
                obtain ⟨sq, hw''⟩ := hw'
                subst hw''
                have hBq : Hid (Below W0.heap.size W0 sq.w) := bthen hWb.out sq.h
                go_wp2
                go_roundw
                case rel => exact ⟨k + 1, by omega, rfl, by go_num, hBq.out, none_one hy hno2.out hm.out⟩
                case measure => simp [intOf]; omega
              · have hx1H : Hid (x.wr = _) := hx1
                have hy1H : Hid (y.wr = _) := hy1
                clear hx1 hy1
                go_wp2_with fail
                generalize hWW : wr.alloc (objA y) = W at *
                have hWb : Hid (Below W0.heap.size W0 W) := by rw [← hWW]; exact bthen b3H.out (boxed _ _)
                have bA : BoxA W A0 x := by rw [← hWW]; exact (bxH.out.later b3H.out).later (boxed _ _)
                have bB : BoxA W wr.heap.size y := by rw [← hWW]; exact boxA_new wr y
                clear hWW k0 k1 k2
                generalize wr.heap.size = B0 at *
                have d0 := bey_cell bA.1
                have d1 := bey_cell bA.2.1
                have d2 := bey_cell bA.2.2
                have d3 := bey_cell bB.1
                have d4 := bey_cell bB.2.1
                have d5 := bey_cell bB.2.2
                rw [hx1H.out] at d2
                rw [hy1H.out] at d5
                clear bA bB
                have hne := bey_some W
                refine wp_region_cls (Bey W) (by kernel_rfl) (by kernel_rfl) (bey_drew W) ?_
                repeat (go_big_quiet_step ((go_at_call 127; exact calls_bey (cO _ _ _ _))))
                refine wpQuiet_nil ?_
                intro _ hw'
                obtain ⟨sq, hw''⟩ := hw'
                subst hw''
                have hBq : Hid (Below W0.heap.size W0 sq.w) := bthen hWb.out sq.h
                go_wp2
                go_roundw
                case rel => exact ⟨k + 1, by omega, rfl, by go_num, hBq.out, none_one hy hno2.out hm.out⟩
                case measure => simp [intOf]; omega
          · have hxy : x.wr = false ∧ y.wr = false := by revert hw; cases x.wr <;> cases y.wr <;> simp
            obtain ⟨hx1, hy1⟩ := hxy
            have hm := hfalse hx1 hy1
            clear hfalse hor hw
            have hx1H : Hid (x.wr = _) := hx1
            have hy1H : Hid (y.wr = _) := hy1
            clear hx1 hy1
            go_wp2_with fail
            generalize hWW : wr.alloc (objA y) = W at *
            have hWb : Hid (Below W0.heap.size W0 W) := by rw [← hWW]; exact bthen b3H.out (boxed _ _)
            have bA : BoxA W A0 x := by rw [← hWW]; exact (bxH.out.later b3H.out).later (boxed _ _)
            have bB : BoxA W wr.heap.size y := by rw [← hWW]; exact boxA_new wr y
            clear hWW k0 k1 k2
            generalize wr.heap.size = B0 at *
            have d0 := bey_cell bA.1
            have d1 := bey_cell bA.2.1
            have d2 := bey_cell bA.2.2
            have d3 := bey_cell bB.1
            have d4 := bey_cell bB.2.1
            have d5 := bey_cell bB.2.2
            rw [hx1H.out] at d2
            rw [hy1H.out] at d5
            clear bA bB
            have hne := bey_some W
            refine wp_region_cls (Bey W) (by kernel_rfl) (by kernel_rfl) (bey_drew W) ?_
            repeat (go_big_quiet_step ((go_at_call 127; exact calls_bey (cO _ _ _ _))))
            refine wpQuiet_nil ?_
            intro _ hw'
            obtain ⟨sq, hw''⟩ := hw'
            subst hw''
            have hBq : Hid (Below W0.heap.size W0 sq.w) := bthen hWb.out sq.h
            go_wp2
            go_roundw
            case rel => exact ⟨k + 1, by omega, rfl, by go_num, hBq.out, none_one hy hno2.out hm.out⟩
            case measure => simp [intOf]; omega
        · have hk2 : k = b.length := by omega
          subst hk2
          rw [List.take_length] at hno2
          go_wp2
          go_roundw
          case rel => exact ⟨j + 1, by omega, rfl, by go_num, bthen hBW hb3, none_more hx hno.out hno2.out⟩
          case measure => simp [intOf]; omega
    · have hj2 : j = a.length := by omega
      subst hj2
      rw [List.take_length] at hno
      go_wp2
      rw [Exit.noGoto_ret]
      go_ret
      exact ⟨by rw [hR.out, clash_false hno.out]; rfl, hb2⟩
end Go.Proofs.YtafefnkgdnmjbaaGreatDoor.pg
