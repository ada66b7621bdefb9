/- One element appended to a list of the call's own. -/
import Derived.Test.YtklpifammbnldaaM4
import Derived.Laws.OwnMore
import Derived.Laws.MakeOwn
import Derived.OwnWalk
import Derived.Test.YtklpifammbnldaaM1
namespace Go.Proofs.Ytklpifammbnldaa.pg
open Go.ChangeShapes Go.WideShapes Go.ChangeAt Go.RowKit
set_option linter.unusedVariables false
set_option linter.unusedSimpArgs false
set_option maxRecDepth 100000
theorem info_q {P : Program} {e : TypeId} {z : Value} {k b : Nat} (h : (P.info? e).map (fun i => (i.zero, i.size, i.bytes)) = some (some z, k, b)) : ∃ i, P.info? e = some i ∧ i.zero = some z ∧ i.size = k ∧ i.bytes = b := by
  obtain ⟨i, hi, h2⟩ := Option.map_eq_some_iff.mp h
  simp only [Prod.mk.injEq] at h2
  exact ⟨i, hi, h2.1, h2.2.1, h2.2.2⟩
theorem own_nil_q (w : World) (lo e k : Nat) : OwnL w lo e k none 0 [] := ⟨by simp, .inl ⟨rfl, rfl⟩⟩
theorem heap_new_q (w : World) (o : Obj) : (w.alloc o).heap[w.heap.size]? = some o := (MapKept.heap_alloc w o).1
theorem rows_one_q {w : World} {b k : Nat} {cs : List Value} {t : TypeId} (h : w.heap[b]? = some (.cells cs.toArray t (0, 0))) (hk : cs.length = k) : Rows w k (some ⟨b, 0, none⟩) 1 [cs] := by
  refine ⟨by simp, by omega, by simp, .inr ⟨b, 0, rfl, (Array.getElem?_eq_some_iff.mp h).1, fun i row hi => ?_⟩⟩
  cases i with
  | zero =>
    simp at hi
    subst hi
    refine ⟨hk, fun j u hj => ?_⟩
    have := whole_cell h j u (by simpa using hj)
    simpa using this
  | succ i => simp at hi
theorem below_min {B : Nat} {a w w' : World} (h : Below B a w) (hB : B ≤ w.heap.size) (k : Below (min B w.heap.size) w w') : Below B a w' := h.trans (k.mono (by omega))
theorem own_mono_q {w : World} {lo lo2 e k : Nat} {a : Option Addr} {cap : Nat} {L : List (List Value)} (h : OwnL w lo e k a cap L) (hl : lo2 ≤ lo) : OwnL w lo2 e k a cap L := by
  refine ⟨h.1, h.2.imp_right fun ⟨g, cap', cur, h1, hb, hr⟩ => ⟨g, cap', cur, h1, by omega, hr⟩⟩
/-- What an append of one element leaves: the list with it, all else as it was. -/
structure Grown (wr : World) (base e k : Nat) (va : Option Addr) (L : List (List Value)) (cs : List Value) (va' : Option Addr) (vc' : Nat) (w' : World) : Prop where
  ow : OwnL w' base e k va' vc' (L ++ [cs])
  be : Below (min base wr.heap.size) wr w'
  kp : ∀ b, b < wr.heap.size → b ∉ blk va → w'.heap[b]? = wr.heap[b]?
  bk : ∀ b ∈ blk va', b ∈ blk va ∨ wr.heap.size ≤ b
theorem wpList_app1 {P : Program} {wr : World} {ops : Array Oper} {rest : List Oper} {o : Oper} {a : Act} {Q : Exit → Act → World → Prop} (hgd : o.guard = none) (s x : Operand) (t : TypeId)
    (ho : o.op = .call { callee := .builtin .append, args := #[s, x], argTypes := #[t, t] })
    (base : Nat) (e : TypeId) (i : TypeInfo) (z : Value) (k bytes : Nat) (ht : P.underlying t = some (.slice e)) (hi : P.info? e = some i) (hz : i.zero = some z)
    (hsize : i.size = k) (hby : i.bytes = bytes) (hzs : z.cells.size = k) (hsz : 0 < k)
    (va : Option Addr) (vc : Nat) (L : List (List Value)) (hs : a.eval s = .slice va L.length vc) (hown : OwnL wr base e k va vc L) (cs : List Value)
    (hx : a.eval x = .slice (some ⟨wr.heap.size, 0, none⟩) 1 1) (hk : cs.length = k) (h1 : ∀ u ∈ cs, u.oneCell' = true)
    (h63 : L.length + 1 ≤ maxLen) (hbytes : (L.length + 1) * bytes ≤ 140737488355328) (hbase : base ≤ wr.heap.size)
    (h : ∀ va' vc' w', Grown wr base e k va L cs va' vc' w' → wpList P ops Q rest (a.put o.dst (.slice va' (L.length + 1) vc')) w') :
    wpList P ops Q (o :: rest) a (wr.alloc (.cells cs.toArray e)) := by
  have hbx := boxed wr (.cells cs.toArray e)
  have hB : base ≤ (wr.alloc (.cells cs.toArray e)).heap.size := by have := hbx.size; omega
  refine wpList_app hgd s x t ho base e i z k bytes ht hi hz hsize hby hzs hsz va vc L hs (own_keep hown fun b hb => hbx.block b (blk_lt hown b hb).2) (some ⟨wr.heap.size, 0, none⟩) 1 [cs] hx (rows_one_q (heap_new_q wr _) hk) (by intro row hr; rw [List.mem_singleton] at hr; rw [hr]; exact hk) (by intro row hr; rw [List.mem_singleton] at hr; rw [hr]; exact h1) h63 hbytes hB ?_
  intro va' vc' w' ho2 hk2 hB2 hbl
  have := h va' vc' w' ⟨ho2, ?_, ?_, ?_⟩
  · rwa [List.length_append, List.length_singleton]
  · exact (hbx.mono (by omega)).trans (hB2.mono (by have := hbx.size; omega))
  · intro b hb hm
    rw [hk2 b (by have := hbx.size; omega) hm]
    exact hbx.block b hb
  · intro b hb
    rcases hbl with q | q
    · rw [q] at hb; exact .inl hb
    · rw [q, List.mem_singleton] at hb; right; rw [hb]; exact hbx.size
end Go.Proofs.Ytklpifammbnldaa.pg
/- A new list of a given length, its elements of one cell each. -/
namespace Go.Proofs.Ytklpifammbnldaa.pg
open Go.ChangeShapes Go.WideShapes Go.ChangeAt Go.RowKit
set_option linter.unusedVariables false
theorem wpList_mk {P : Program} (w : World) {ops : Array Oper} {rest : List Oper} {o : Oper} {a : Act} {Q : Exit → Act → World → Prop}
    (hg : o.guard = none) (l c : Operand) (t : TypeId) (hop : o.op = Op.makeSlice t l c)
    (e : TypeId) (i : TypeInfo) (z : Value) (h1 : P.underlying t = some (.slice e)) (h2 : P.info? e = some i) (h3 : i.zero = some z) (hz : z.cells = #[z]) (h4 : i.size = 1)
    (n : Nat) (hl : a.eval l = .int .i64 (n : Int)) (hc : a.eval c = .int .i64 (n : Int)) (b2 : i.bytes * n ≤ 281474976710656) (b3 : n ≤ 9223372036854775807)
    (hK : ∀ w', w'.heap[w.heap.size]? = some (.cells (List.replicate n z).toArray e (0, 0)) → Below w.heap.size w w' → w'.heap.size = w.heap.size + 1 → wpList P ops Q rest (a.put o.dst (.slice (some ⟨w.heap.size, 0, none⟩) n n)) w') :
    wpList P ops Q (o :: rest) a w := by
  refine wpList_plain hg fun K hK' => ?_
  have b2' : (i.bytes : Int) * (n : Int) ≤ 281474976710656 := by
    have h : ((i.bytes * n : Nat) : Int) ≤ 281474976710656 := by omega
    rwa [Int.natCast_mul] at h
  have hrun := run_make (P := P) w t e i z h1 h2 h3 .i64 .i64 (n : Int) (n : Int) (by omega) (by omega) b2' (by omega)
  rw [hz, h4, Nat.mul_one, Int.toNat_natCast] at hrun
  unfold Oper.wp
  simp [execOp, hop, hl, hc, hrun, Result.andThen]
  refine hK' _ _ (hK _ ?_ ((Below.refl _ w).alloc (Nat.le_refl _) _) (by simp))
  rw [heap_new_q]
  congr 2
  apply Array.ext'
  rw [toList_madeCells_one]
end Go.Proofs.Ytklpifammbnldaa.pg
/- Operations in memory; what package linear asks of one, and of two. -/
namespace Go.Proofs.Ytklpifammbnldaa.pg
open Go.ChangeShapes Go.WideShapes Go.ChangeAt Go.RowKit
set_option linter.unusedVariables false
set_option linter.unusedSimpArgs false
set_option maxRecDepth 100000
attribute [local go_sem ↓] Go.wp_at_zero Go.wp_at_succ
def Cl.cells (x : Cl) : List Value := [.int .i64 x.go, .int .i64 x.d, .int .i64 x.inn, .int .i64 x.out, .bool x.em, .int .i64 x.bg, .int .i64 x.en]
abbrev Cl.val (x : Cl) : Value := .agg #[.int .i64 x.go, .int .i64 x.d, .int .i64 x.inn, .int .i64 x.out, .bool x.em, .int .i64 x.bg, .int .i64 x.en]
abbrev oCl (x : Cl) : Obj := .cells #[.int .i64 x.go, .int .i64 x.d, .int .i64 x.inn, .int .i64 x.out, .bool x.em, .int .i64 x.bg, .int .i64 x.en] 53
theorem pend_any (x : Cl) (w : World) : Calls Try.prog 47 #[x.val] w fun e w' => e = .returned (.bool x.pend) ∧ Below w.heap.size w w' := by
  go_enter Try.func47, Try.ntmps47
  go_wp2
  go_ret
  exact ⟨rfl, boxed _ _⟩
theorem takes_any (d : Int) (w : World) : Calls Try.prog 72 #[.int .i64 d] w fun e w' => e = .returned (.bool (takesB d)) ∧ w' = w := by
  obtain ⟨b1, h1⟩ : ∃ b, (d == 2) = b := ⟨_, rfl⟩
  obtain ⟨b2, h2⟩ : ∃ b, (d == 3) = b := ⟨_, rfl⟩
  obtain ⟨b3, h3⟩ : ∃ b, (d == 4) = b := ⟨_, rfl⟩
  have hR : Hid (takesB d = (b1 || b2 || b3)) := by show _ = _; unfold takesB; rw [h1, h2, h3]
  cases b1 <;> cases b2 <;> cases b3
  all_goals
    go_enter Try.func72, Try.ntmps72
    go_wp2
    go_ret
    exact ⟨by rw [hR.out]; rfl, rfl⟩
theorem tells_any (d : Int) (w : World) : Calls Try.prog 73 #[.int .i64 d] w fun e w' => e = .returned (.bool (tellsB d)) ∧ w' = w := by
  obtain ⟨b1, h1⟩ : ∃ b, (d == 1) = b := ⟨_, rfl⟩
  obtain ⟨b2, h2⟩ : ∃ b, (d == 5) = b := ⟨_, rfl⟩
  have hR : Hid (tellsB d = (b1 || b2)) := by show _ = _; unfold tellsB; rw [h1, h2]
  cases b1 <;> cases b2
  all_goals
    go_enter Try.func73, Try.ntmps73
    go_wp2
    go_ret
    exact ⟨by rw [hR.out]; rfl, rfl⟩
theorem cell_lc {w : World} {B k : Nat} {cs : Array Value} {t : TypeId} {v : Value} {fr : Nat × Nat} (h : w.heap[B]? = some (.cells cs t fr)) (hk : cs[k]? = some v) : w.cell? ⟨B, k, none⟩ = some v := by simp [World.cell?, h, hk]
abbrev Cl.vale (x : Cl) (e : Bool) : Value := .agg #[.int .i64 x.go, .int .i64 x.d, .int .i64 x.inn, .int .i64 x.out, .bool e, .int .i64 x.bg, .int .i64 x.en]
abbrev oCle (x : Cl) (e : Bool) : Obj := .cells #[.int .i64 x.go, .int .i64 x.d, .int .i64 x.inn, .int .i64 x.out, .bool e, .int .i64 x.bg, .int .i64 x.en] 53
theorem cl7e {w : World} {B : Nat} {x : Cl} {e : Bool} (h : w.heap[B]? = some (oCle x e)) : w.cell? ⟨B, 0, none⟩ = some (.int .i64 x.go) ∧ w.cell? ⟨B, 1, none⟩ = some (.int .i64 x.d) ∧ w.cell? ⟨B, 2, none⟩ = some (.int .i64 x.inn) ∧ w.cell? ⟨B, 3, none⟩ = some (.int .i64 x.out) ∧ w.cell? ⟨B, 4, none⟩ = some (.bool e) ∧ w.cell? ⟨B, 5, none⟩ = some (.int .i64 x.bg) ∧ w.cell? ⟨B, 6, none⟩ = some (.int .i64 x.en) :=
  ⟨cell_lc (k := 0) h rfl, cell_lc (k := 1) h rfl, cell_lc (k := 2) h rfl, cell_lc (k := 3) h rfl, cell_lc (k := 4) h rfl, cell_lc (k := 5) h rfl, cell_lc (k := 6) h rfl⟩
theorem cl7 {w : World} {B : Nat} {x : Cl} (h : w.heap[B]? = some (oCl x)) : w.cell? ⟨B, 0, none⟩ = some (.int .i64 x.go) ∧ w.cell? ⟨B, 1, none⟩ = some (.int .i64 x.d) ∧ w.cell? ⟨B, 2, none⟩ = some (.int .i64 x.inn) ∧ w.cell? ⟨B, 3, none⟩ = some (.int .i64 x.out) ∧ w.cell? ⟨B, 4, none⟩ = some (.bool x.em) ∧ w.cell? ⟨B, 5, none⟩ = some (.int .i64 x.bg) ∧ w.cell? ⟨B, 6, none⟩ = some (.int .i64 x.en) :=
  ⟨cell_lc (k := 0) h rfl, cell_lc (k := 1) h rfl, cell_lc (k := 2) h rfl, cell_lc (k := 3) h rfl, cell_lc (k := 4) h rfl, cell_lc (k := 5) h rfl, cell_lc (k := 6) h rfl⟩
theorem blk_on {w w' : World} {B : Nat} {o : Obj} (h : w.heap[B]? = some o) (hb : Below w.heap.size w w') : w'.heap[B]? = some o := (hb.block B (Array.getElem?_eq_some_iff.mp h).1).trans h
set_option maxHeartbeats 1000000 in
theorem rtime_any (x : Cl) (w : World) : Calls Try.prog 64 #[x.val] w fun e w' => e = .returned (.bool (rtB x)) ∧ Below w.heap.size w w' := by
  have cP : ∀ wx, Calls Try.prog 47 #[x.val] wx _ := fun wx => pend_any x wx
  have hX : Hid ((w.alloc (oCl x)).heap[w.heap.size]? = some (oCl x) ∧ Below w.heap.size w (w.alloc (oCl x))) := ⟨heap_alloc_new _ _, boxed _ _⟩
  obtain ⟨b1, h1⟩ : ∃ b, decide (x.bg < 0) = b := ⟨_, rfl⟩
  obtain ⟨b2, h2⟩ : ∃ b, decide (1000000 < x.bg) = b := ⟨_, rfl⟩
  obtain ⟨b3, h3⟩ : ∃ b, x.pend = b := ⟨_, rfl⟩
  obtain ⟨b4, h4⟩ : ∃ b, decide (x.bg < x.en) = b := ⟨_, rfl⟩
  obtain ⟨b5, h5⟩ : ∃ b, decide (x.en ≤ 1000000) = b := ⟨_, rfl⟩
  have hR : Hid (rtB x = (!b1 && !b2 && (b3 || b4 && b5))) := by
    show _ = _
    have e1 : decide (0 ≤ x.bg) = !decide (x.bg < 0) := by rw [← decide_not]; congr 1; simp
    have e2 : decide (x.bg ≤ 1000000) = !decide (1000000 < x.bg) := by rw [← decide_not]; congr 1; simp
    unfold rtB
    rw [e1, e2, h1, h2, h3, h4, h5]
  rw [h3] at cP
  replace h3 := True.intro
  cases b1 with
  | true =>
    clear h2 h3 h4 h5
    go_enter Try.func64, Try.ntmps64
    go_wp2_with ((go_at_call 47; (with_reducible refine (cP _).mono ?_); rintro e w1 ⟨rfl, hb1⟩; (replace hX : Hid (w1.heap[w.heap.size]? = some (oCl x) ∧ Below w.heap.size w w1) := ⟨blk_on hX.out.1 hb1, bthen hX.out.2 hb1⟩); clear hb1; (try clear k0 k1 k2 k3 k4 k5 k6); (obtain ⟨k0, k1, k2, k3, k4, k5, k6⟩ := cl7 hX.out.1)))
    go_ret
    first
      | exact ⟨by rw [hR.out]; rfl, hX.out.2⟩
  | false =>
    cases b2 with
    | true =>
      clear h3 h4 h5
      go_enter Try.func64, Try.ntmps64
      go_wp2_with ((go_at_call 47; (with_reducible refine (cP _).mono ?_); rintro e w1 ⟨rfl, hb1⟩; (replace hX : Hid (w1.heap[w.heap.size]? = some (oCl x) ∧ Below w.heap.size w w1) := ⟨blk_on hX.out.1 hb1, bthen hX.out.2 hb1⟩); clear hb1; (try clear k0 k1 k2 k3 k4 k5 k6); (obtain ⟨k0, k1, k2, k3, k4, k5, k6⟩ := cl7 hX.out.1)))
      go_ret
      first
        | exact ⟨by rw [hR.out]; rfl, hX.out.2⟩
    | false =>
      cases b3 with
      | true =>
        clear h4 h5
        go_enter Try.func64, Try.ntmps64
        go_wp2_with ((go_at_call 47; (with_reducible refine (cP _).mono ?_); rintro e w1 ⟨rfl, hb1⟩; (replace hX : Hid (w1.heap[w.heap.size]? = some (oCl x) ∧ Below w.heap.size w w1) := ⟨blk_on hX.out.1 hb1, bthen hX.out.2 hb1⟩); clear hb1; (try clear k0 k1 k2 k3 k4 k5 k6); (obtain ⟨k0, k1, k2, k3, k4, k5, k6⟩ := cl7 hX.out.1)))
        go_ret
        first
          | exact ⟨by rw [hR.out]; rfl, hX.out.2⟩
      | false =>
        cases b4 with
        | true =>
          cases b5 with
          | true =>
            go_enter Try.func64, Try.ntmps64
            go_wp2_with ((go_at_call 47; (with_reducible refine (cP _).mono ?_); rintro e w1 ⟨rfl, hb1⟩; (replace hX : Hid (w1.heap[w.heap.size]? = some (oCl x) ∧ Below w.heap.size w w1) := ⟨blk_on hX.out.1 hb1, bthen hX.out.2 hb1⟩); clear hb1; (try clear k0 k1 k2 k3 k4 k5 k6); (obtain ⟨k0, k1, k2, k3, k4, k5, k6⟩ := cl7 hX.out.1)))
            go_ret
            first
              | exact ⟨by rw [hR.out]; rfl, hX.out.2⟩
          | false =>
            go_enter Try.func64, Try.ntmps64
            go_wp2_with ((go_at_call 47; (with_reducible refine (cP _).mono ?_); rintro e w1 ⟨rfl, hb1⟩; (replace hX : Hid (w1.heap[w.heap.size]? = some (oCl x) ∧ Below w.heap.size w w1) := ⟨blk_on hX.out.1 hb1, bthen hX.out.2 hb1⟩); clear hb1; (try clear k0 k1 k2 k3 k4 k5 k6); (obtain ⟨k0, k1, k2, k3, k4, k5, k6⟩ := cl7 hX.out.1)))
            go_ret
            first
              | exact ⟨by rw [hR.out]; rfl, hX.out.2⟩
        | false =>
          clear h5
          go_enter Try.func64, Try.ntmps64
          go_wp2_with ((go_at_call 47; (with_reducible refine (cP _).mono ?_); rintro e w1 ⟨rfl, hb1⟩; (replace hX : Hid (w1.heap[w.heap.size]? = some (oCl x) ∧ Below w.heap.size w w1) := ⟨blk_on hX.out.1 hb1, bthen hX.out.2 hb1⟩); clear hb1; (try clear k0 k1 k2 k3 k4 k5 k6); (obtain ⟨k0, k1, k2, k3, k4, k5, k6⟩ := cl7 hX.out.1)))
          go_ret
          first
            | exact ⟨by rw [hR.out]; rfl, hX.out.2⟩
theorem hidAnd {p q : Prop} (a : p) (b : q) : Hid (p ∧ q) := ⟨a, b⟩
set_option maxHeartbeats 1000000 in
theorem rval_e (x : Cl) (b3 : Bool) (h3 : Hid (x.em = b3)) (w : World) : Calls Try.prog 65 #[x.vale b3] w fun e w' => e = .returned (.bool (rvB x)) ∧ Below w.heap.size w w' := by
  have cP : ∀ wx, Calls Try.prog 47 #[x.vale b3] wx _ := fun wx => by (have := pend_any x wx; unfold Cl.val at this; rw [h3.out] at this; exact this)
  have hX : Hid ((w.alloc (oCle x b3)).heap[w.heap.size]? = some (oCle x b3) ∧ Below w.heap.size w (w.alloc (oCle x b3))) := ⟨heap_alloc_new _ _, boxed _ _⟩
  have cT : ∀ wx, Calls Try.prog 72 #[.int .i64 x.d] wx _ := fun wx => takes_any x.d wx
  have cL : ∀ wx, Calls Try.prog 73 #[.int .i64 x.d] wx _ := fun wx => tells_any x.d wx
  obtain ⟨b1, h1⟩ : ∃ b, (x.inn != 0) = b := ⟨_, rfl⟩
  obtain ⟨b2, h2⟩ : ∃ b, takesB x.d = b := ⟨_, rfl⟩
  obtain ⟨b4, h4⟩ : ∃ b, (x.d != 5) = b := ⟨_, rfl⟩
  obtain ⟨b5, h5⟩ : ∃ b, x.pend = b := ⟨_, rfl⟩
  obtain ⟨b6, h6⟩ : ∃ b, (x.out == 0) = b := ⟨_, rfl⟩
  obtain ⟨b7, h7⟩ : ∃ b, tellsB x.d = b := ⟨_, rfl⟩
  have hR : Hid (rvB x = ((!b1 || b2) && (!b3 || !b4 && !b5) && (b6 || b7 && !b3 && !b5))) := by
    show _ = _
    unfold rvB
    rw [← h1, ← h2, h3.out, ← h4, ← h5, ← h6, ← h7]
    simp [bne]
  rw [h5] at cP
  rw [h2] at cT
  rw [h7] at cL
  replace h5 := True.intro
  replace h2 := True.intro
  replace h7 := True.intro
  replace h3 := True.intro
  cases b1 with
  | true =>
    cases b2 with
    | true =>
      cases b3 with
      | true =>
        cases b4 with
        | true =>
          clear h5 h6 h7
          go_enter Try.func65, Try.ntmps65
          go_wp2_with (first
            | (go_at_call 47; (with_reducible refine (cP _).mono ?_); rintro e w1 ⟨rfl, hb1⟩; (replace hX := hidAnd (blk_on hX.out.1 hb1) (bthen hX.out.2 hb1)); clear hb1; (try clear k0 k1 k2 k3 k4 k5 k6); (obtain ⟨k0, k1, k2, k3, k4, k5, k6⟩ := cl7e hX.out.1))
            | (go_at_call 72; (with_reducible refine (cT _).mono ?_); rintro e w1 ⟨rfl, rfl⟩)
            | (go_at_call 73; (with_reducible refine (cL _).mono ?_); rintro e w1 ⟨rfl, rfl⟩))
          go_ret
          first
            | exact ⟨by rw [hR.out]; rfl, hX.out.2⟩
        | false =>
          cases b5 with
          | true =>
            clear h6 h7
            go_enter Try.func65, Try.ntmps65
            go_wp2_with (first
              | (go_at_call 47; (with_reducible refine (cP _).mono ?_); rintro e w1 ⟨rfl, hb1⟩; (replace hX := hidAnd (blk_on hX.out.1 hb1) (bthen hX.out.2 hb1)); clear hb1; (try clear k0 k1 k2 k3 k4 k5 k6); (obtain ⟨k0, k1, k2, k3, k4, k5, k6⟩ := cl7e hX.out.1))
              | (go_at_call 72; (with_reducible refine (cT _).mono ?_); rintro e w1 ⟨rfl, rfl⟩)
              | (go_at_call 73; (with_reducible refine (cL _).mono ?_); rintro e w1 ⟨rfl, rfl⟩))
            go_ret
            first
              | exact ⟨by rw [hR.out]; rfl, hX.out.2⟩
          | false =>
            cases b6 with
            | true =>
              clear h7
              go_enter Try.func65, Try.ntmps65
              go_wp2_with (first
                | (go_at_call 47; (with_reducible refine (cP _).mono ?_); rintro e w1 ⟨rfl, hb1⟩; (replace hX := hidAnd (blk_on hX.out.1 hb1) (bthen hX.out.2 hb1)); clear hb1; (try clear k0 k1 k2 k3 k4 k5 k6); (obtain ⟨k0, k1, k2, k3, k4, k5, k6⟩ := cl7e hX.out.1))
                | (go_at_call 72; (with_reducible refine (cT _).mono ?_); rintro e w1 ⟨rfl, rfl⟩)
                | (go_at_call 73; (with_reducible refine (cL _).mono ?_); rintro e w1 ⟨rfl, rfl⟩))
              go_ret
              first
                | exact ⟨by rw [hR.out]; rfl, hX.out.2⟩
            | false =>
              cases b7 with
              | true =>
                go_enter Try.func65, Try.ntmps65
                go_wp2_with (first
                  | (go_at_call 47; (with_reducible refine (cP _).mono ?_); rintro e w1 ⟨rfl, hb1⟩; (replace hX := hidAnd (blk_on hX.out.1 hb1) (bthen hX.out.2 hb1)); clear hb1; (try clear k0 k1 k2 k3 k4 k5 k6); (obtain ⟨k0, k1, k2, k3, k4, k5, k6⟩ := cl7e hX.out.1))
                  | (go_at_call 72; (with_reducible refine (cT _).mono ?_); rintro e w1 ⟨rfl, rfl⟩)
                  | (go_at_call 73; (with_reducible refine (cL _).mono ?_); rintro e w1 ⟨rfl, rfl⟩))
                go_ret
                first
                  | exact ⟨by rw [hR.out]; rfl, hX.out.2⟩
              | false =>
                go_enter Try.func65, Try.ntmps65
                go_wp2_with (first
                  | (go_at_call 47; (with_reducible refine (cP _).mono ?_); rintro e w1 ⟨rfl, hb1⟩; (replace hX := hidAnd (blk_on hX.out.1 hb1) (bthen hX.out.2 hb1)); clear hb1; (try clear k0 k1 k2 k3 k4 k5 k6); (obtain ⟨k0, k1, k2, k3, k4, k5, k6⟩ := cl7e hX.out.1))
                  | (go_at_call 72; (with_reducible refine (cT _).mono ?_); rintro e w1 ⟨rfl, rfl⟩)
                  | (go_at_call 73; (with_reducible refine (cL _).mono ?_); rintro e w1 ⟨rfl, rfl⟩))
                go_ret
                first
                  | exact ⟨by rw [hR.out]; rfl, hX.out.2⟩
      | false =>
        cases b6 with
        | true =>
          clear h4 h5 h7
          go_enter Try.func65, Try.ntmps65
          go_wp2_with (first
            | (go_at_call 47; (with_reducible refine (cP _).mono ?_); rintro e w1 ⟨rfl, hb1⟩; (replace hX := hidAnd (blk_on hX.out.1 hb1) (bthen hX.out.2 hb1)); clear hb1; (try clear k0 k1 k2 k3 k4 k5 k6); (obtain ⟨k0, k1, k2, k3, k4, k5, k6⟩ := cl7e hX.out.1))
            | (go_at_call 72; (with_reducible refine (cT _).mono ?_); rintro e w1 ⟨rfl, rfl⟩)
            | (go_at_call 73; (with_reducible refine (cL _).mono ?_); rintro e w1 ⟨rfl, rfl⟩))
          go_ret
          first
            | exact ⟨by rw [hR.out]; rfl, hX.out.2⟩
        | false =>
          cases b7 with
          | true =>
            cases b5 with
            | true =>
              clear h4
              go_enter Try.func65, Try.ntmps65
              go_wp2_with (first
                | (go_at_call 47; (with_reducible refine (cP _).mono ?_); rintro e w1 ⟨rfl, hb1⟩; (replace hX := hidAnd (blk_on hX.out.1 hb1) (bthen hX.out.2 hb1)); clear hb1; (try clear k0 k1 k2 k3 k4 k5 k6); (obtain ⟨k0, k1, k2, k3, k4, k5, k6⟩ := cl7e hX.out.1))
                | (go_at_call 72; (with_reducible refine (cT _).mono ?_); rintro e w1 ⟨rfl, rfl⟩)
                | (go_at_call 73; (with_reducible refine (cL _).mono ?_); rintro e w1 ⟨rfl, rfl⟩))
              go_ret
              first
                | exact ⟨by rw [hR.out]; rfl, hX.out.2⟩
            | false =>
              clear h4
              go_enter Try.func65, Try.ntmps65
              go_wp2_with (first
                | (go_at_call 47; (with_reducible refine (cP _).mono ?_); rintro e w1 ⟨rfl, hb1⟩; (replace hX := hidAnd (blk_on hX.out.1 hb1) (bthen hX.out.2 hb1)); clear hb1; (try clear k0 k1 k2 k3 k4 k5 k6); (obtain ⟨k0, k1, k2, k3, k4, k5, k6⟩ := cl7e hX.out.1))
                | (go_at_call 72; (with_reducible refine (cT _).mono ?_); rintro e w1 ⟨rfl, rfl⟩)
                | (go_at_call 73; (with_reducible refine (cL _).mono ?_); rintro e w1 ⟨rfl, rfl⟩))
              go_ret
              first
                | exact ⟨by rw [hR.out]; rfl, hX.out.2⟩
          | false =>
            clear h4 h5
            go_enter Try.func65, Try.ntmps65
            go_wp2_with (first
              | (go_at_call 47; (with_reducible refine (cP _).mono ?_); rintro e w1 ⟨rfl, hb1⟩; (replace hX := hidAnd (blk_on hX.out.1 hb1) (bthen hX.out.2 hb1)); clear hb1; (try clear k0 k1 k2 k3 k4 k5 k6); (obtain ⟨k0, k1, k2, k3, k4, k5, k6⟩ := cl7e hX.out.1))
              | (go_at_call 72; (with_reducible refine (cT _).mono ?_); rintro e w1 ⟨rfl, rfl⟩)
              | (go_at_call 73; (with_reducible refine (cL _).mono ?_); rintro e w1 ⟨rfl, rfl⟩))
            go_ret
            first
              | exact ⟨by rw [hR.out]; rfl, hX.out.2⟩
    | false =>
      clear h3 h4 h5 h6 h7
      go_enter Try.func65, Try.ntmps65
      go_wp2_with (first
        | (go_at_call 47; (with_reducible refine (cP _).mono ?_); rintro e w1 ⟨rfl, hb1⟩; (replace hX := hidAnd (blk_on hX.out.1 hb1) (bthen hX.out.2 hb1)); clear hb1; (try clear k0 k1 k2 k3 k4 k5 k6); (obtain ⟨k0, k1, k2, k3, k4, k5, k6⟩ := cl7e hX.out.1))
        | (go_at_call 72; (with_reducible refine (cT _).mono ?_); rintro e w1 ⟨rfl, rfl⟩)
        | (go_at_call 73; (with_reducible refine (cL _).mono ?_); rintro e w1 ⟨rfl, rfl⟩))
      go_ret
      first
        | exact ⟨by rw [hR.out]; rfl, hX.out.2⟩
  | false =>
    cases b3 with
    | true =>
      cases b4 with
      | true =>
        clear h2 h5 h6 h7
        go_enter Try.func65, Try.ntmps65
        go_wp2_with (first
          | (go_at_call 47; (with_reducible refine (cP _).mono ?_); rintro e w1 ⟨rfl, hb1⟩; (replace hX := hidAnd (blk_on hX.out.1 hb1) (bthen hX.out.2 hb1)); clear hb1; (try clear k0 k1 k2 k3 k4 k5 k6); (obtain ⟨k0, k1, k2, k3, k4, k5, k6⟩ := cl7e hX.out.1))
          | (go_at_call 72; (with_reducible refine (cT _).mono ?_); rintro e w1 ⟨rfl, rfl⟩)
          | (go_at_call 73; (with_reducible refine (cL _).mono ?_); rintro e w1 ⟨rfl, rfl⟩))
        go_ret
        first
          | exact ⟨by rw [hR.out]; rfl, hX.out.2⟩
      | false =>
        cases b5 with
        | true =>
          clear h2 h6 h7
          go_enter Try.func65, Try.ntmps65
          go_wp2_with (first
            | (go_at_call 47; (with_reducible refine (cP _).mono ?_); rintro e w1 ⟨rfl, hb1⟩; (replace hX := hidAnd (blk_on hX.out.1 hb1) (bthen hX.out.2 hb1)); clear hb1; (try clear k0 k1 k2 k3 k4 k5 k6); (obtain ⟨k0, k1, k2, k3, k4, k5, k6⟩ := cl7e hX.out.1))
            | (go_at_call 72; (with_reducible refine (cT _).mono ?_); rintro e w1 ⟨rfl, rfl⟩)
            | (go_at_call 73; (with_reducible refine (cL _).mono ?_); rintro e w1 ⟨rfl, rfl⟩))
          go_ret
          first
            | exact ⟨by rw [hR.out]; rfl, hX.out.2⟩
        | false =>
          cases b6 with
          | true =>
            clear h2 h7
            go_enter Try.func65, Try.ntmps65
            go_wp2_with (first
              | (go_at_call 47; (with_reducible refine (cP _).mono ?_); rintro e w1 ⟨rfl, hb1⟩; (replace hX := hidAnd (blk_on hX.out.1 hb1) (bthen hX.out.2 hb1)); clear hb1; (try clear k0 k1 k2 k3 k4 k5 k6); (obtain ⟨k0, k1, k2, k3, k4, k5, k6⟩ := cl7e hX.out.1))
              | (go_at_call 72; (with_reducible refine (cT _).mono ?_); rintro e w1 ⟨rfl, rfl⟩)
              | (go_at_call 73; (with_reducible refine (cL _).mono ?_); rintro e w1 ⟨rfl, rfl⟩))
            go_ret
            first
              | exact ⟨by rw [hR.out]; rfl, hX.out.2⟩
          | false =>
            cases b7 with
            | true =>
              clear h2
              go_enter Try.func65, Try.ntmps65
              go_wp2_with (first
                | (go_at_call 47; (with_reducible refine (cP _).mono ?_); rintro e w1 ⟨rfl, hb1⟩; (replace hX := hidAnd (blk_on hX.out.1 hb1) (bthen hX.out.2 hb1)); clear hb1; (try clear k0 k1 k2 k3 k4 k5 k6); (obtain ⟨k0, k1, k2, k3, k4, k5, k6⟩ := cl7e hX.out.1))
                | (go_at_call 72; (with_reducible refine (cT _).mono ?_); rintro e w1 ⟨rfl, rfl⟩)
                | (go_at_call 73; (with_reducible refine (cL _).mono ?_); rintro e w1 ⟨rfl, rfl⟩))
              go_ret
              first
                | exact ⟨by rw [hR.out]; rfl, hX.out.2⟩
            | false =>
              clear h2
              go_enter Try.func65, Try.ntmps65
              go_wp2_with (first
                | (go_at_call 47; (with_reducible refine (cP _).mono ?_); rintro e w1 ⟨rfl, hb1⟩; (replace hX := hidAnd (blk_on hX.out.1 hb1) (bthen hX.out.2 hb1)); clear hb1; (try clear k0 k1 k2 k3 k4 k5 k6); (obtain ⟨k0, k1, k2, k3, k4, k5, k6⟩ := cl7e hX.out.1))
                | (go_at_call 72; (with_reducible refine (cT _).mono ?_); rintro e w1 ⟨rfl, rfl⟩)
                | (go_at_call 73; (with_reducible refine (cL _).mono ?_); rintro e w1 ⟨rfl, rfl⟩))
              go_ret
              first
                | exact ⟨by rw [hR.out]; rfl, hX.out.2⟩
    | false =>
      cases b6 with
      | true =>
        clear h2 h4 h5 h7
        go_enter Try.func65, Try.ntmps65
        go_wp2_with (first
          | (go_at_call 47; (with_reducible refine (cP _).mono ?_); rintro e w1 ⟨rfl, hb1⟩; (replace hX := hidAnd (blk_on hX.out.1 hb1) (bthen hX.out.2 hb1)); clear hb1; (try clear k0 k1 k2 k3 k4 k5 k6); (obtain ⟨k0, k1, k2, k3, k4, k5, k6⟩ := cl7e hX.out.1))
          | (go_at_call 72; (with_reducible refine (cT _).mono ?_); rintro e w1 ⟨rfl, rfl⟩)
          | (go_at_call 73; (with_reducible refine (cL _).mono ?_); rintro e w1 ⟨rfl, rfl⟩))
        go_ret
        first
          | exact ⟨by rw [hR.out]; rfl, hX.out.2⟩
      | false =>
        cases b7 with
        | true =>
          cases b5 with
          | true =>
            clear h2 h4
            go_enter Try.func65, Try.ntmps65
            go_wp2_with (first
              | (go_at_call 47; (with_reducible refine (cP _).mono ?_); rintro e w1 ⟨rfl, hb1⟩; (replace hX := hidAnd (blk_on hX.out.1 hb1) (bthen hX.out.2 hb1)); clear hb1; (try clear k0 k1 k2 k3 k4 k5 k6); (obtain ⟨k0, k1, k2, k3, k4, k5, k6⟩ := cl7e hX.out.1))
              | (go_at_call 72; (with_reducible refine (cT _).mono ?_); rintro e w1 ⟨rfl, rfl⟩)
              | (go_at_call 73; (with_reducible refine (cL _).mono ?_); rintro e w1 ⟨rfl, rfl⟩))
            go_ret
            first
              | exact ⟨by rw [hR.out]; rfl, hX.out.2⟩
          | false =>
            clear h2 h4
            go_enter Try.func65, Try.ntmps65
            go_wp2_with (first
              | (go_at_call 47; (with_reducible refine (cP _).mono ?_); rintro e w1 ⟨rfl, hb1⟩; (replace hX := hidAnd (blk_on hX.out.1 hb1) (bthen hX.out.2 hb1)); clear hb1; (try clear k0 k1 k2 k3 k4 k5 k6); (obtain ⟨k0, k1, k2, k3, k4, k5, k6⟩ := cl7e hX.out.1))
              | (go_at_call 72; (with_reducible refine (cT _).mono ?_); rintro e w1 ⟨rfl, rfl⟩)
              | (go_at_call 73; (with_reducible refine (cL _).mono ?_); rintro e w1 ⟨rfl, rfl⟩))
            go_ret
            first
              | exact ⟨by rw [hR.out]; rfl, hX.out.2⟩
        | false =>
          clear h2 h4 h5
          go_enter Try.func65, Try.ntmps65
          go_wp2_with (first
            | (go_at_call 47; (with_reducible refine (cP _).mono ?_); rintro e w1 ⟨rfl, hb1⟩; (replace hX := hidAnd (blk_on hX.out.1 hb1) (bthen hX.out.2 hb1)); clear hb1; (try clear k0 k1 k2 k3 k4 k5 k6); (obtain ⟨k0, k1, k2, k3, k4, k5, k6⟩ := cl7e hX.out.1))
            | (go_at_call 72; (with_reducible refine (cT _).mono ?_); rintro e w1 ⟨rfl, rfl⟩)
            | (go_at_call 73; (with_reducible refine (cL _).mono ?_); rintro e w1 ⟨rfl, rfl⟩))
          go_ret
          first
            | exact ⟨by rw [hR.out]; rfl, hX.out.2⟩
theorem rval_any (x : Cl) (w : World) : Calls Try.prog 65 #[x.val] w fun e w' => e = .returned (.bool (rvB x)) ∧ Below w.heap.size w w' := rval_e x x.em rfl w
set_option maxHeartbeats 1000000 in
theorem right1_any (x : Cl) (w : World) : Calls Try.prog 43 #[x.val] w fun e w' => e = .returned (.bool (rcB x)) ∧ Below w.heap.size w w' := by
  have hX : Hid ((w.alloc (oCl x)).heap[w.heap.size]? = some (oCl x) ∧ Below w.heap.size w (w.alloc (oCl x))) := ⟨heap_alloc_new _ _, boxed _ _⟩
  have cT : ∀ wx, Calls Try.prog 64 #[x.val] wx _ := fun wx => rtime_any x wx
  have cP : ∀ wx, Calls Try.prog 65 #[x.val] wx _ := fun wx => rval_any x wx
  obtain ⟨b1, h1⟩ : ∃ b, decide (0 ≤ x.go) = b := ⟨_, rfl⟩
  obtain ⟨b2, h2⟩ : ∃ b, decide (x.go < 6) = b := ⟨_, rfl⟩
  obtain ⟨b3, h3⟩ : ∃ b, rtB x = b := ⟨_, rfl⟩
  obtain ⟨b4, h4⟩ : ∃ b, rvB x = b := ⟨_, rfl⟩
  have hR : Hid (rcB x = (b1 && b2 && b3 && b4)) := by
    show _ = _
    unfold rcB
    rw [h1, h2, h3, h4]
  rw [h3] at cT
  rw [h4] at cP
  replace h3 := True.intro
  replace h4 := True.intro
  cases b1 with
  | true =>
    cases b2 with
    | true =>
      cases b3 with
      | true =>
        cases b4 with
        | true =>
          go_enter Try.func43, Try.ntmps43
          go_wp2_with (first
            | (go_at_call 64; (with_reducible refine (cT _).mono ?_); rintro e w1 ⟨rfl, hb1⟩; (replace hX : Hid (w1.heap[w.heap.size]? = some (oCl x) ∧ Below w.heap.size w w1) := ⟨blk_on hX.out.1 hb1, bthen hX.out.2 hb1⟩); clear hb1; (try clear k0 k1 k2 k3 k4 k5 k6); (obtain ⟨k0, k1, k2, k3, k4, k5, k6⟩ := cl7 hX.out.1))
            | (go_at_call 65; (with_reducible refine (cP _).mono ?_); rintro e w1 ⟨rfl, hb1⟩; (replace hX : Hid (w1.heap[w.heap.size]? = some (oCl x) ∧ Below w.heap.size w w1) := ⟨blk_on hX.out.1 hb1, bthen hX.out.2 hb1⟩); clear hb1; (try clear k0 k1 k2 k3 k4 k5 k6); (obtain ⟨k0, k1, k2, k3, k4, k5, k6⟩ := cl7 hX.out.1)))
          go_ret
          first
            | exact ⟨by rw [hR.out]; rfl, hX.out.2⟩
        | false =>
          go_enter Try.func43, Try.ntmps43
          go_wp2_with (first
            | (go_at_call 64; (with_reducible refine (cT _).mono ?_); rintro e w1 ⟨rfl, hb1⟩; (replace hX : Hid (w1.heap[w.heap.size]? = some (oCl x) ∧ Below w.heap.size w w1) := ⟨blk_on hX.out.1 hb1, bthen hX.out.2 hb1⟩); clear hb1; (try clear k0 k1 k2 k3 k4 k5 k6); (obtain ⟨k0, k1, k2, k3, k4, k5, k6⟩ := cl7 hX.out.1))
            | (go_at_call 65; (with_reducible refine (cP _).mono ?_); rintro e w1 ⟨rfl, hb1⟩; (replace hX : Hid (w1.heap[w.heap.size]? = some (oCl x) ∧ Below w.heap.size w w1) := ⟨blk_on hX.out.1 hb1, bthen hX.out.2 hb1⟩); clear hb1; (try clear k0 k1 k2 k3 k4 k5 k6); (obtain ⟨k0, k1, k2, k3, k4, k5, k6⟩ := cl7 hX.out.1)))
          go_ret
          first
            | exact ⟨by rw [hR.out]; rfl, hX.out.2⟩
      | false =>
        clear h4
        go_enter Try.func43, Try.ntmps43
        go_wp2_with (first
          | (go_at_call 64; (with_reducible refine (cT _).mono ?_); rintro e w1 ⟨rfl, hb1⟩; (replace hX : Hid (w1.heap[w.heap.size]? = some (oCl x) ∧ Below w.heap.size w w1) := ⟨blk_on hX.out.1 hb1, bthen hX.out.2 hb1⟩); clear hb1; (try clear k0 k1 k2 k3 k4 k5 k6); (obtain ⟨k0, k1, k2, k3, k4, k5, k6⟩ := cl7 hX.out.1))
          | (go_at_call 65; (with_reducible refine (cP _).mono ?_); rintro e w1 ⟨rfl, hb1⟩; (replace hX : Hid (w1.heap[w.heap.size]? = some (oCl x) ∧ Below w.heap.size w w1) := ⟨blk_on hX.out.1 hb1, bthen hX.out.2 hb1⟩); clear hb1; (try clear k0 k1 k2 k3 k4 k5 k6); (obtain ⟨k0, k1, k2, k3, k4, k5, k6⟩ := cl7 hX.out.1)))
        go_ret
        first
          | exact ⟨by rw [hR.out]; rfl, hX.out.2⟩
    | false =>
      clear h3 h4
      go_enter Try.func43, Try.ntmps43
      go_wp2_with (first
        | (go_at_call 64; (with_reducible refine (cT _).mono ?_); rintro e w1 ⟨rfl, hb1⟩; (replace hX : Hid (w1.heap[w.heap.size]? = some (oCl x) ∧ Below w.heap.size w w1) := ⟨blk_on hX.out.1 hb1, bthen hX.out.2 hb1⟩); clear hb1; (try clear k0 k1 k2 k3 k4 k5 k6); (obtain ⟨k0, k1, k2, k3, k4, k5, k6⟩ := cl7 hX.out.1))
        | (go_at_call 65; (with_reducible refine (cP _).mono ?_); rintro e w1 ⟨rfl, hb1⟩; (replace hX : Hid (w1.heap[w.heap.size]? = some (oCl x) ∧ Below w.heap.size w w1) := ⟨blk_on hX.out.1 hb1, bthen hX.out.2 hb1⟩); clear hb1; (try clear k0 k1 k2 k3 k4 k5 k6); (obtain ⟨k0, k1, k2, k3, k4, k5, k6⟩ := cl7 hX.out.1)))
      go_ret
      first
        | exact ⟨by rw [hR.out]; rfl, hX.out.2⟩
  | false =>
    clear h2 h3 h4
    go_enter Try.func43, Try.ntmps43
    go_wp2_with (first
      | (go_at_call 64; (with_reducible refine (cT _).mono ?_); rintro e w1 ⟨rfl, hb1⟩; (replace hX : Hid (w1.heap[w.heap.size]? = some (oCl x) ∧ Below w.heap.size w w1) := ⟨blk_on hX.out.1 hb1, bthen hX.out.2 hb1⟩); clear hb1; (try clear k0 k1 k2 k3 k4 k5 k6); (obtain ⟨k0, k1, k2, k3, k4, k5, k6⟩ := cl7 hX.out.1))
      | (go_at_call 65; (with_reducible refine (cP _).mono ?_); rintro e w1 ⟨rfl, hb1⟩; (replace hX : Hid (w1.heap[w.heap.size]? = some (oCl x) ∧ Below w.heap.size w w1) := ⟨blk_on hX.out.1 hb1, bthen hX.out.2 hb1⟩); clear hb1; (try clear k0 k1 k2 k3 k4 k5 k6); (obtain ⟨k0, k1, k2, k3, k4, k5, k6⟩ := cl7 hX.out.1)))
    go_ret
    first
      | exact ⟨by rw [hR.out]; rfl, hX.out.2⟩
set_option maxHeartbeats 1000000 in
theorem mom_any (x y : Cl) (w : World) : Calls Try.prog 44 #[x.val, y.val] w fun e w' => e = .returned (.bool (momB x y)) ∧ Below w.heap.size w w' := by
  have cP : ∀ wx, Calls Try.prog 47 #[x.val] wx _ := fun wx => pend_any x wx
  have hX : Hid (((w.alloc (oCl x)).alloc (oCl y)).heap[w.heap.size]? = some (oCl x) ∧ ((w.alloc (oCl x)).alloc (oCl y)).heap[w.heap.size + 1]? = some (oCl y) ∧ Below w.heap.size w ((w.alloc (oCl x)).alloc (oCl y))) := ⟨blk_on (heap_alloc_new _ _) (boxed _ _), by (have := heap_alloc_new (w.alloc (oCl x)) (oCl y); rwa [World.size_alloc] at this), bthen (boxed _ _) (boxed _ _)⟩
  obtain ⟨b1, h1⟩ : ∃ b, (x.bg == y.bg) = b := ⟨_, rfl⟩
  obtain ⟨b2, h2⟩ : ∃ b, (x.bg == y.en) = b := ⟨_, rfl⟩
  obtain ⟨b3, h3⟩ : ∃ b, (x.en == y.bg) = b := ⟨_, rfl⟩
  obtain ⟨b4, h4⟩ : ∃ b, (x.en == y.en) = b := ⟨_, rfl⟩
  obtain ⟨b5, h5⟩ : ∃ b, x.pend = b := ⟨_, rfl⟩
  have hR : Hid (momB x y = (b1 || b2 || b3 || b4 && !b5)) := by
    show _ = _
    unfold momB
    rw [h1, h2, h3, h4, h5]
  rw [h5] at cP
  replace h5 := True.intro
  cases b1 with
  | true =>
    clear h2 h3 h4 h5
    go_enter Try.func44, Try.ntmps44
    go_wp2_with ((go_at_call 47; (with_reducible refine (cP _).mono ?_); rintro e w1 ⟨rfl, hb1⟩; (replace hX : Hid (w1.heap[w.heap.size]? = some (oCl x) ∧ w1.heap[w.heap.size + 1]? = some (oCl y) ∧ Below w.heap.size w w1) := ⟨blk_on hX.out.1 hb1, blk_on hX.out.2.1 hb1, bthen hX.out.2.2 hb1⟩); clear hb1; (try clear k0 k1 k2 k3 k4 k5 k6 m0 m1 m2 m3 m4 m5 m6); (obtain ⟨k0, k1, k2, k3, k4, k5, k6⟩ := cl7 hX.out.1); (obtain ⟨m0, m1, m2, m3, m4, m5, m6⟩ := cl7 hX.out.2.1)))
    go_ret
    first
      | exact ⟨by rw [hR.out]; rfl, hX.out.2.2⟩
  | false =>
    cases b2 with
    | true =>
      clear h3 h4 h5
      go_enter Try.func44, Try.ntmps44
      go_wp2_with ((go_at_call 47; (with_reducible refine (cP _).mono ?_); rintro e w1 ⟨rfl, hb1⟩; (replace hX : Hid (w1.heap[w.heap.size]? = some (oCl x) ∧ w1.heap[w.heap.size + 1]? = some (oCl y) ∧ Below w.heap.size w w1) := ⟨blk_on hX.out.1 hb1, blk_on hX.out.2.1 hb1, bthen hX.out.2.2 hb1⟩); clear hb1; (try clear k0 k1 k2 k3 k4 k5 k6 m0 m1 m2 m3 m4 m5 m6); (obtain ⟨k0, k1, k2, k3, k4, k5, k6⟩ := cl7 hX.out.1); (obtain ⟨m0, m1, m2, m3, m4, m5, m6⟩ := cl7 hX.out.2.1)))
      go_ret
      first
        | exact ⟨by rw [hR.out]; rfl, hX.out.2.2⟩
    | false =>
      cases b3 with
      | true =>
        clear h4 h5
        go_enter Try.func44, Try.ntmps44
        go_wp2_with ((go_at_call 47; (with_reducible refine (cP _).mono ?_); rintro e w1 ⟨rfl, hb1⟩; (replace hX : Hid (w1.heap[w.heap.size]? = some (oCl x) ∧ w1.heap[w.heap.size + 1]? = some (oCl y) ∧ Below w.heap.size w w1) := ⟨blk_on hX.out.1 hb1, blk_on hX.out.2.1 hb1, bthen hX.out.2.2 hb1⟩); clear hb1; (try clear k0 k1 k2 k3 k4 k5 k6 m0 m1 m2 m3 m4 m5 m6); (obtain ⟨k0, k1, k2, k3, k4, k5, k6⟩ := cl7 hX.out.1); (obtain ⟨m0, m1, m2, m3, m4, m5, m6⟩ := cl7 hX.out.2.1)))
        go_ret
        first
          | exact ⟨by rw [hR.out]; rfl, hX.out.2.2⟩
      | false =>
        cases b4 with
        | true =>
          cases b5 with
          | true =>
            go_enter Try.func44, Try.ntmps44
            go_wp2_with ((go_at_call 47; (with_reducible refine (cP _).mono ?_); rintro e w1 ⟨rfl, hb1⟩; (replace hX : Hid (w1.heap[w.heap.size]? = some (oCl x) ∧ w1.heap[w.heap.size + 1]? = some (oCl y) ∧ Below w.heap.size w w1) := ⟨blk_on hX.out.1 hb1, blk_on hX.out.2.1 hb1, bthen hX.out.2.2 hb1⟩); clear hb1; (try clear k0 k1 k2 k3 k4 k5 k6 m0 m1 m2 m3 m4 m5 m6); (obtain ⟨k0, k1, k2, k3, k4, k5, k6⟩ := cl7 hX.out.1); (obtain ⟨m0, m1, m2, m3, m4, m5, m6⟩ := cl7 hX.out.2.1)))
            go_ret
            first
              | exact ⟨by rw [hR.out]; rfl, hX.out.2.2⟩
          | false =>
            go_enter Try.func44, Try.ntmps44
            go_wp2_with ((go_at_call 47; (with_reducible refine (cP _).mono ?_); rintro e w1 ⟨rfl, hb1⟩; (replace hX : Hid (w1.heap[w.heap.size]? = some (oCl x) ∧ w1.heap[w.heap.size + 1]? = some (oCl y) ∧ Below w.heap.size w w1) := ⟨blk_on hX.out.1 hb1, blk_on hX.out.2.1 hb1, bthen hX.out.2.2 hb1⟩); clear hb1; (try clear k0 k1 k2 k3 k4 k5 k6 m0 m1 m2 m3 m4 m5 m6); (obtain ⟨k0, k1, k2, k3, k4, k5, k6⟩ := cl7 hX.out.1); (obtain ⟨m0, m1, m2, m3, m4, m5, m6⟩ := cl7 hX.out.2.1)))
            go_ret
            first
              | exact ⟨by rw [hR.out]; rfl, hX.out.2.2⟩
        | false =>
          clear h5
          go_enter Try.func44, Try.ntmps44
          go_wp2_with ((go_at_call 47; (with_reducible refine (cP _).mono ?_); rintro e w1 ⟨rfl, hb1⟩; (replace hX : Hid (w1.heap[w.heap.size]? = some (oCl x) ∧ w1.heap[w.heap.size + 1]? = some (oCl y) ∧ Below w.heap.size w w1) := ⟨blk_on hX.out.1 hb1, blk_on hX.out.2.1 hb1, bthen hX.out.2.2 hb1⟩); clear hb1; (try clear k0 k1 k2 k3 k4 k5 k6 m0 m1 m2 m3 m4 m5 m6); (obtain ⟨k0, k1, k2, k3, k4, k5, k6⟩ := cl7 hX.out.1); (obtain ⟨m0, m1, m2, m3, m4, m5, m6⟩ := cl7 hX.out.2.1)))
          go_ret
          first
            | exact ⟨by rw [hR.out]; rfl, hX.out.2.2⟩
set_option maxHeartbeats 1000000 in
theorem end_any (x y : Cl) (w : World) : Calls Try.prog 30 #[x.val, y.val] w fun e w' => e = .returned (.bool (endB x y)) ∧ Below w.heap.size w w' := by
  have cP : ∀ wx, Calls Try.prog 47 #[x.val] wx _ := fun wx => pend_any x wx
  have hX : Hid (((w.alloc (oCl x)).alloc (oCl y)).heap[w.heap.size]? = some (oCl x) ∧ ((w.alloc (oCl x)).alloc (oCl y)).heap[w.heap.size + 1]? = some (oCl y) ∧ Below w.heap.size w ((w.alloc (oCl x)).alloc (oCl y))) := ⟨blk_on (heap_alloc_new _ _) (boxed _ _), by (have := heap_alloc_new (w.alloc (oCl x)) (oCl y); rwa [World.size_alloc] at this), bthen (boxed _ _) (boxed _ _)⟩
  obtain ⟨b1, h1⟩ : ∃ b, x.pend = b := ⟨_, rfl⟩
  obtain ⟨b2, h2⟩ : ∃ b, decide (x.en < y.bg) = b := ⟨_, rfl⟩
  have hR : Hid (endB x y = (!b1 && b2)) := by
    show _ = _
    unfold endB
    rw [h1, h2]
  rw [h1] at cP
  replace h1 := True.intro
  cases b1 with
  | true =>
    clear h2
    go_enter Try.func30, Try.ntmps30
    go_wp2_with ((go_at_call 47; (with_reducible refine (cP _).mono ?_); rintro e w1 ⟨rfl, hb1⟩; (replace hX : Hid (w1.heap[w.heap.size]? = some (oCl x) ∧ w1.heap[w.heap.size + 1]? = some (oCl y) ∧ Below w.heap.size w w1) := ⟨blk_on hX.out.1 hb1, blk_on hX.out.2.1 hb1, bthen hX.out.2.2 hb1⟩); clear hb1; (try clear k0 k1 k2 k3 k4 k5 k6 m0 m1 m2 m3 m4 m5 m6); (obtain ⟨k0, k1, k2, k3, k4, k5, k6⟩ := cl7 hX.out.1); (obtain ⟨m0, m1, m2, m3, m4, m5, m6⟩ := cl7 hX.out.2.1)))
    go_ret
    first
      | exact ⟨by rw [hR.out]; rfl, hX.out.2.2⟩
  | false =>
    cases b2 with
    | true =>
      go_enter Try.func30, Try.ntmps30
      go_wp2_with ((go_at_call 47; (with_reducible refine (cP _).mono ?_); rintro e w1 ⟨rfl, hb1⟩; (replace hX : Hid (w1.heap[w.heap.size]? = some (oCl x) ∧ w1.heap[w.heap.size + 1]? = some (oCl y) ∧ Below w.heap.size w w1) := ⟨blk_on hX.out.1 hb1, blk_on hX.out.2.1 hb1, bthen hX.out.2.2 hb1⟩); clear hb1; (try clear k0 k1 k2 k3 k4 k5 k6 m0 m1 m2 m3 m4 m5 m6); (obtain ⟨k0, k1, k2, k3, k4, k5, k6⟩ := cl7 hX.out.1); (obtain ⟨m0, m1, m2, m3, m4, m5, m6⟩ := cl7 hX.out.2.1)))
      go_ret
      first
        | exact ⟨by rw [hR.out]; rfl, hX.out.2.2⟩
    | false =>
      go_enter Try.func30, Try.ntmps30
      go_wp2_with ((go_at_call 47; (with_reducible refine (cP _).mono ?_); rintro e w1 ⟨rfl, hb1⟩; (replace hX : Hid (w1.heap[w.heap.size]? = some (oCl x) ∧ w1.heap[w.heap.size + 1]? = some (oCl y) ∧ Below w.heap.size w w1) := ⟨blk_on hX.out.1 hb1, blk_on hX.out.2.1 hb1, bthen hX.out.2.2 hb1⟩); clear hb1; (try clear k0 k1 k2 k3 k4 k5 k6 m0 m1 m2 m3 m4 m5 m6); (obtain ⟨k0, k1, k2, k3, k4, k5, k6⟩ := cl7 hX.out.1); (obtain ⟨m0, m1, m2, m3, m4, m5, m6⟩ := cl7 hX.out.2.1)))
      go_ret
      first
        | exact ⟨by rw [hR.out]; rfl, hX.out.2.2⟩
set_option maxHeartbeats 1000000 in
theorem turn_any (x y : Cl) (w : World) : Calls Try.prog 31 #[x.val, y.val] w fun e w' => e = .returned (.bool (turnB x y)) ∧ Below w.heap.size w w' := by
  have hX : Hid (((w.alloc (oCl x)).alloc (oCl y)).heap[w.heap.size]? = some (oCl x) ∧ ((w.alloc (oCl x)).alloc (oCl y)).heap[w.heap.size + 1]? = some (oCl y) ∧ Below w.heap.size w ((w.alloc (oCl x)).alloc (oCl y))) := ⟨blk_on (heap_alloc_new _ _) (boxed _ _), by (have := heap_alloc_new (w.alloc (oCl x)) (oCl y); rwa [World.size_alloc] at this), bthen (boxed _ _) (boxed _ _)⟩
  obtain ⟨b1, h1⟩ : ∃ b, (x.go == y.go) = b := ⟨_, rfl⟩
  obtain ⟨b2, h2⟩ : ∃ b, decide (x.bg < y.bg) = b := ⟨_, rfl⟩
  have hR : Hid (turnB x y = (b1 && b2)) := by
    show _ = _
    unfold turnB
    rw [h1, h2]
  cases b1 with
  | true =>
    cases b2 with
    | true =>
      go_enter Try.func31, Try.ntmps31
      go_wp2_with (fail)
      go_ret
      first
        | exact ⟨by rw [hR.out]; rfl, hX.out.2.2⟩
    | false =>
      go_enter Try.func31, Try.ntmps31
      go_wp2_with (fail)
      go_ret
      first
        | exact ⟨by rw [hR.out]; rfl, hX.out.2.2⟩
  | false =>
    clear h2
    go_enter Try.func31, Try.ntmps31
    go_wp2_with (fail)
    go_ret
    first
      | exact ⟨by rw [hR.out]; rfl, hX.out.2.2⟩
end Go.Proofs.Ytklpifammbnldaa.pg
