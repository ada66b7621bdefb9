/- Whether one of the chosen says no: the closure of choose, ContainsFunc. -/
import Derived.Test.YtdfnmlcpimiboaaM22
import Derived.Great.BuildSlice
namespace Go.Proofs.Ytdfnmlcpimiboaa.pg
open Go.ChangeShapes Go.WideShapes Go.ChangeAt Go.RowKit
set_option linter.unusedVariables false
set_option linter.unusedSimpArgs false
set_option maxRecDepth 100000
attribute [local go_sem ↓] Go.wp_at_zero Go.wp_at_succ
abbrev TYF : TypeId := 79
/-- A call of a function's value. -/
theorem wpList_callvG {P : Program} {ops : Array Oper} {Q : Exit → Act → World → Prop} {rest : List Oper} {o : Oper} {a : Act} {w : World} (hgd : o.guard = none) (f : FuncId) (x y z : Operand) (ts : Array TypeId) (v v2 : Value)
    (hc0 : o.op = .call { callee := .value x, args := #[y, z], argTypes := ts }) (hx : a.eval x = .func (.func f) #[] #[]) (hv : a.eval y = v) (hv2 : a.eval z = v2) (hcf : ∀ args w, (callFunc f args).run P w = .ok (.enter f args) w) (R : Ending → World → Prop) (hc : Calls P f #[v, v2] w R)
    (hK : ∀ e w', R e w' → ∃ v, e = .returned v ∧ wpList P ops Q rest (a.put o.dst v) w') : wpList P ops Q (o :: rest) a w := by
  refine wpList_plain hgd fun K hK2 => ?_
  have hrun : (execOp a.eval o).run P w = .ok (.enter f #[v, v2]) w := by
    simp [execOp, hc0, resolve, invoke, hx, Deferred.ofValue, hcf, hv, hv2]
  unfold Oper.wp
  rw [hrun, Oper.upon_enter]
  refine hc.mono fun e w' h => ?_
  obtain ⟨v, rfl, hk⟩ := hK e w' h
  exact hK2 _ _ hk
/-- A function that says yes to two takings. -/
structure YesF (yf : Nat) (Y : Tk → Tk → Bool) : Prop where
  c : ∀ x y w, Calls Try.prog yf #[x.val, y.val] w fun e w' => e = .returned (.bool (Y x y)) ∧ Below w.heap.size w w'
  e : ∀ args w, (callFunc yf args).run Try.prog w = .ok (.enter yf args) w
def unB (x y : Tk) : Bool := x.by_ != y.by_
theorem yes_unlike : YesF 53 unB := ⟨fun x y w => unlike_any x y w, fun _ _ => cf_fn Try.func53 (by kernel_rfl) (by kernel_rfl) _ _⟩
theorem yes_apart : YesF 38 apB := ⟨fun x y w => apart_any x y w, fun _ _ => cf_fn Try.func38 (by kernel_rfl) (by kernel_rfl) _ _⟩
abbrev fvG (f : Nat) : Value := .func (.func f) #[] #[]
abbrev objYf (f : Nat) : Obj := .cells #[fvG f] TYF
section
variable {yf : Nat} {Y : Tk → Tk → Bool} {M X : Nat} {x : Tk}
/-- The box of the function's value, and that of the taking. -/
structure YxB (w : World) (M X yf : Nat) (x : Tk) : Prop where
  m : w.heap[M]? = some (objYf yf)
  x : w.heap[X]? = some (objTk x)
theorem YxB.later {w w' : World} (h : YxB w M X yf x) (hb : Below w.heap.size w w') : YxB w' M X yf x := ⟨blk_onG h.m hb, blk_onG h.x hb⟩
theorem tk_rng {w : World} {B : Nat} {x : Tk} (h : w.heap[B]? = some (objTk x)) : w.rangeAt B 0 [.int .i64 x.by_, .bool x.h0, .bool x.h1, .bool x.h2, .bool x.h3] := rng_blkG h
set_option maxHeartbeats 4000000 in
theorem closG_any (hY : YesF yf Y) (y : Tk) (w : World) (hB : YxB w M X yf x) (R : Bool) (hR : Hid (R = !Y x y)) : Calls Try.prog 52 #[y.val, .pointer (some ⟨M, 0, none⟩), .pointer (some ⟨X, 0, none⟩)] w fun e w' => e = .returned (.bool R) ∧ Below w.heap.size w w' := by
  have hYH : Hid (YesF yf Y) := hY
  have h1 : Hid (YxB (w.alloc (objTk y)) M X yf x ∧ (w.alloc (objTk y)).heap[w.heap.size]? = some (objTk y)) := ⟨hB.later (boxed _ _), heap_alloc_new _ _⟩
  have huT : Hid (Try.prog.underlying 97 = _) := Try.underlying97
  have hW : Hid (Below w.heap.size w (w.alloc (objTk y))) := boxed _ _
  clear hB hY
  go_enter Try.func52, Try.ntmps52
  go_upto_region 1 with fail
  change Code.wp _ _ _ _ (w.alloc (objTk y))
  generalize w.alloc (objTk y) = W at *
  generalize w.heap.size = B0 at h1 ⊢
  have kf : W.cell? ⟨M, 0, none⟩ = some (fvG yf) := cell_lcG h1.out.1.m rfl
  go_wp2_with (first
    | ((with_reducible refine at_loadG 97 _ rfl ?_); refine stopG_out ?_; refine wpList_load_mid rfl 97 _ rfl X 0 rfl [.int .i64 x.by_, .bool x.h0, .bool x.h1, .bool x.h2, .bool x.h3] _ (tk_rng h1.out.1.x) huT.out rfl infoTk5 ?_)
    | ((with_reducible refine at_loadG 97 _ rfl ?_); refine stopG_out ?_; refine wpList_load_mid rfl 97 _ rfl B0 0 rfl [.int .i64 y.by_, .bool y.h0, .bool y.h1, .bool y.h2, .bool y.h3] _ (tk_rng h1.out.2) huT.out rfl infoTk5 ?_)
    | (refine wpList_callvG rfl yf (.tmp 5) _ _ _ x.val y.val rfl rfl rfl rfl hYH.out.e _ (hYH.out.c x y _) ?_; rintro e1 w3 ⟨rfl, hb3⟩; refine ⟨_, rfl, ?_⟩))
  go_ret
  exact ⟨ret_b (by rw [hR.out]), bthen hW.out hb3⟩
theorem take_moreG {l : List Tk} {k : Nat} {y : Tk} {p : Tk → Bool} (hy : l[k]? = some y) (h : ∀ z ∈ l.take k, p z = false) (hp : p y = false) : ∀ z ∈ l.take (k + 1), p z = false := fun z hz => by
  rw [take_one l k y hy, List.mem_append, List.mem_singleton] at hz
  rcases hz with hz | rfl
  · exact h z hz
  · exact hp
set_option maxHeartbeats 4000000 in
theorem indexfG_any (hY : YesF yf Y) (l : List Tk) (la : Option Addr) (lc : Nat) (w : World) (hl : Rows w 5 la lc (l.map Tk.cells)) (hB : YxB w M X yf x) : Calls Try.prog 64 #[.slice la l.length lc, .func (.func 52) #[] #[.pointer (some ⟨M, 0, none⟩), .pointer (some ⟨X, 0, none⟩)]] w fun e w' => ∃ r : Int, e = .returned (.int .i64 r) ∧ (0 ≤ r ↔ l.any (fun y => !Y x y) = true) ∧ Below w.heap.size w w' := by
  have hlI := rows_len hl
  have hlH : Hid (Rows w 5 la lc (l.map Tk.cells)) := hl
  have hBH : Hid (YxB w M X yf x) := hB
  have hYH : Hid (YesF yf Y) := hY
  have hb0 : Hid (Below w.heap.size w w) := Below.refl _ _
  clear hl hB hY
  go_enter Try.func64, Try.ntmps64
  go_wp2
  go_loopw [8] (fun u wr => ∃ k : Nat, k ≤ l.length ∧ u = .int .i64 k ∧ Hid (Below w.heap.size w wr) ∧ Hid (∀ z ∈ l.take k, (!Y x z) = false)) (fun u _ => l.length - (intOf u).toNat)
  case atStart => exact ⟨0, Nat.zero_le _, rfl, hb0, fun x hx => by simp at hx⟩
  case round =>
    obtain ⟨k, hk, rfl, hb2, hno⟩ := hrel
    clear hb0
    by_cases hlt : k < l.length
    · obtain ⟨y, hy, hym⟩ := get_lt l k hlt
      obtain ⟨b0, o0, hix, hbl, k0, k1, k2, k3, k4⟩ := tk_ix (hlH.out.later hb2.out) k y hy
      have hkI : (k : Int) < l.length := by omega
      by_cases e : (!Y x y) = true
      · have c1 : Calls Try.prog 52 #[y.val, .pointer (some ⟨M, 0, none⟩), .pointer (some ⟨X, 0, none⟩)] wr _ := closG_any hYH.out y wr (hBH.out.later hb2.out) true e.symm
        have hany : Hid (l.any (fun y => !Y x y) = true) := List.any_eq_true.mpr ⟨y, hym, e⟩
        clear e hy hym
        go_wp2_with (go_at_call 52; (with_reducible refine c1.mono ?_); rintro e w1 ⟨rfl, hb1⟩)
        go_ret
        exact ⟨_, rfl, ⟨fun _ => hany.out, fun _ => by omega⟩, bthen hb2.out hb1⟩
      · have e2 : (!Y x y) = false := by simpa using e
        have c1 : Calls Try.prog 52 #[y.val, .pointer (some ⟨M, 0, none⟩), .pointer (some ⟨X, 0, none⟩)] wr _ := closG_any hYH.out y wr (hBH.out.later hb2.out) false e2.symm
        have hno2 : Hid (∀ z ∈ l.take (k + 1), (!Y x z) = false) := take_moreG (p := fun z => !Y x z) hy hno.out e2
        clear e e2 hy hym
        go_wp2_with (go_at_call 52; (with_reducible refine c1.mono ?_); rintro e w1 ⟨rfl, hb1⟩)
        have hb3 : Hid (Below w.heap.size w w1) := bthen hb2.out hb1
        clear hb1
        go_roundw
        case rel => exact ⟨k + 1, by omega, by go_num, hb3, hno2⟩
        case measure => simp [intOf]; omega
    · have hk2 : k = l.length := by omega
      subst hk2
      rw [List.take_length] at hno
      have hany : Hid (¬ l.any (fun y => !Y x y) = true) := fun q => by
        obtain ⟨z, hz, q⟩ := List.any_eq_true.mp q
        rw [hno.out z hz] at q; cases q
      go_wp2
      go_ret
      exact ⟨_, rfl, ⟨fun q => absurd q (by omega), fun q => absurd q hany.out⟩, hb2.out⟩
theorem contfG_any (hY : YesF yf Y) (l : List Tk) (la : Option Addr) (lc : Nat) (w : World) (hl : Rows w 5 la lc (l.map Tk.cells)) (hB : YxB w M X yf x) (R : Bool) (hR : Hid (R = l.any (fun y => !Y x y))) : Calls Try.prog 51 #[.slice la l.length lc, .func (.func 52) #[] #[.pointer (some ⟨M, 0, none⟩), .pointer (some ⟨X, 0, none⟩)]] w fun e w' => e = .returned (.bool R) ∧ Below w.heap.size w w' := by
  have c1 := indexfG_any hY l la lc w hl hB
  clear hl hB hY
  go_enter Try.func51, Try.ntmps51
  go_wp2_with (go_at_call 64; (with_reducible refine c1.mono ?_); rintro e w1 ⟨r, rfl, hr, hb1⟩; (have hrH : Hid (0 ≤ r ↔ l.any (fun y => !Y x y) = true) := hr); clear hr)
  go_ret
  exact ⟨ret_b (by rw [Bool.eq_iff_iff, decide_eq_true_iff, hR.out]; exact hrH.out), hb1⟩
end
end Go.Proofs.Ytdfnmlcpimiboaa.pg
/- Takings chosen for a ring: pure, and what a choice leaves as it was. -/
namespace Go.Proofs.Ytdfnmlcpimiboaa.pg
open Go.ChangeShapes Go.WideShapes Go.ChangeAt Go.RowKit
set_option linter.unusedVariables false
set_option linter.unusedSimpArgs false
set_option maxRecDepth 100000
/-- Where the takings of a ring's step lie. -/
def rgS (r : List Nat) (n : Nat) : Nat := r.getD n 0 * 4 + r.getD ((n + 1) % r.length) 0
/-- Whether takings can be chosen behind those that are chosen, m more. -/
def choB (Y : Tk → Tk → Bool) (F : Nat → List Tk) (r : List Nat) : Nat → List Tk → Bool
  | 0, _ => true
  | m + 1, ch => (F (rgS r ch.length)).any fun x => !(ch.any fun y => !Y x y) && choB Y F r m (ch ++ [x])
/-- What a choice leaves as it was: all but the list of its own. -/
structure ChF (lo : Nat) (ca : Option Addr) (w w' : World) : Prop where
  b : Below lo w w'
  k : ∀ b, b < w.heap.size → b ∉ blk ca → w'.heap[b]? = w.heap[b]?
section
variable {lo : Nat} {ca va : Option Addr} {w w' w'' : World}
theorem ChF.refl : ChF lo ca w w := ⟨Below.refl _ _, fun _ _ _ => rfl⟩
theorem ChF.of (h : Below w.heap.size w w') (hl : lo ≤ w.heap.size) : ChF lo ca w w' := ⟨h.mono hl, fun b hb _ => h.block b hb⟩
theorem ChF.trans (h : ChF lo ca w w') (k : ChF lo ca w' w'') : ChF lo ca w w'' := ⟨h.b.trans k.b, fun b hb hn => (k.k b (Nat.lt_of_lt_of_le hb h.b.size) hn).trans (h.k b hb hn)⟩
theorem ChF.sub (h : ChF lo ca w w') (hv : ∀ b ∈ blk va, b ∈ blk ca ∨ w.heap.size ≤ b) (k : ChF lo va w' w'') : ChF lo ca w w'' :=
  ⟨h.b.trans k.b, fun b hb hn => (k.k b (Nat.lt_of_lt_of_le hb h.b.size) fun q => (hv b q).elim hn fun q => by omega).trans (h.k b hb hn)⟩
theorem ChF.on (h : ChF lo ca w w') {B : Nat} {o : Obj} (hB : w.heap[B]? = some o) (hn : B ∉ blk ca) : w'.heap[B]? = some o := (h.k B (Array.getElem?_eq_some_iff.mp hB).1 hn).trans hB
end
theorem flat_take {k : Nat} (L : List (List Value)) (cs : List Value) : ((L ++ [cs]).flatten).take L.flatten.length = L.flatten := by
  rw [List.flatten_append]
  exact List.take_left
/-- The list that was grown stands again, behind a call that has it. -/
theorem own_back {Z w : World} {lo e k : Nat} {ca va : Option Addr} {cc vc : Nat} {L : List (List Value)} {cs : List Value} (hk : 0 < k) (h1 : OwnL Z lo e k ca cc L) (h2 : OwnL Z lo e k va vc (L ++ [cs])) (h3 : OwnL w lo e k va vc (L ++ [cs])) (kp : ∀ b ∈ blk ca, b ∉ blk va → w.heap[b]? = Z.heap[b]?) : OwnL w lo e k ca cc L := by
  by_cases hs : ∃ g, g ∈ blk ca ∧ g ∈ blk va
  · obtain ⟨g, ga, gv⟩ := hs
    obtain ⟨c1, p1, p2, p3, p4⟩ := own_tagG h1 ga
    obtain ⟨c2, q1, q2, q3, q4⟩ := own_tagG h2 gv
    rw [p1] at q1
    simp only [Option.some.injEq, Obj.cells.injEq, and_true] at q1
    have hcap : vc = cc := by
      have : vc * k = cc * k := by rw [← q2, ← q1, p2]
      exact Nat.eq_of_mul_eq_mul_right hk this
    subst hcap
    subst p4
    subst q4
    rcases h3.2 with ⟨q, _⟩ | ⟨g', cap', cur, q, hb, hg, r1, r2, r3, r4⟩
    · simp at q
    · simp only [Value.slice.injEq, Option.some.injEq, Addr.mk.injEq, and_true] at q
      obtain ⟨rfl, _, rfl⟩ := q
      refine ⟨h1.1, .inr ⟨g, vc, cur, rfl, hb, hg, p3, r2, r3, ?_⟩⟩
      have h4 := congrArg (List.take L.flatten.length) r4
      rw [flat_take (k := k), List.take_take] at h4
      rw [← h4]
      congr 1
      have e1 := h1.1
      rw [e1, List.length_append, List.length_singleton, Nat.add_mul]
      omega
  · exact own_keep h1 fun g hg => kp g hg fun q => hs ⟨g, hg, q⟩
theorem rows_on {w w' : World} {k cap : Nat} {a : Option Addr} {L : List (List Value)} (h : Rows w k a cap L) (hk : ∀ g ∈ blk a, w'.heap[g]? = w.heap[g]?) (hs : w.heap.size ≤ w'.heap.size) : Rows w' k a cap L := by
  obtain ⟨h1, h2, h3, h4⟩ := h
  refine ⟨h1, h2, h3, h4.imp_right fun ⟨b, off, e, hb, hc⟩ => ⟨b, off, e, by omega, fun i row hi => ⟨(hc i row hi).1, fun j u hj => ?_⟩⟩⟩
  exact cell_keepG ((hc i row hi).2 j u hj) (hk b (by subst e; simp [blk]))
end Go.Proofs.Ytdfnmlcpimiboaa.pg
/- choose of package goodlock: laws under a guard, and what stands around it. -/
namespace Go.Proofs.Ytdfnmlcpimiboaa.pg
open Go.ChangeShapes Go.WideShapes Go.ChangeAt Go.RowKit
set_option linter.unusedVariables false
set_option linter.unusedSimpArgs false
set_option maxRecDepth 100000
/-- An append of one element, and what the list behind which it stands is then. -/
theorem wpList_app1W {P : Program} {wr : World} {ops : Array Oper} {rest : List Oper} {o : Oper} {a : Act} {Q : Exit → Act → World → Prop} (hwt : Region.wanted o (yielded ops a.tmps) = true) (s x : Operand) (t : TypeId)
    (ho : o.op = .call { callee := .builtin .append, args := #[s, x], argTypes := #[t, t] })
    (base : Nat) (e : TypeId) (i : TypeInfo) (z : Value) (k bytes : Nat) (ht : P.underlying t = some (.slice e)) (hi : P.info? e = some i) (hz : i.zero = some z)
    (hsize : i.size = k) (hby : i.bytes = bytes) (hzs : z.cells.size = k) (hsz : 0 < k)
    (va : Option Addr) (vc : Nat) (L : List (List Value)) (hs : a.eval s = .slice va L.length vc) (hown : OwnL wr base e k va vc L) (cs : List Value)
    (hx : a.eval x = .slice (some ⟨wr.heap.size, 0, none⟩) 1 1) (hk : cs.length = k) (h1 : ∀ u ∈ cs, u.oneCell' = true)
    (h63 : L.length + 1 ≤ maxLen) (hbytes : (L.length + 1) * bytes ≤ 140737488355328) (hbase : base ≤ wr.heap.size)
    (h : ∀ va' vc' w', Grown wr base e k va L cs va' vc' w' → OwnL w' base e k va vc L → wpList P ops Q rest (a.put o.dst (.slice va' (L.length + 1) vc')) w') :
    wpList P ops Q (o :: rest) a (wr.alloc (.cells cs.toArray e)) := by
  have hbx := boxed wr (.cells cs.toArray e)
  have hB : base ≤ (wr.alloc (.cells cs.toArray e)).heap.size := by have := hbx.size; omega
  have hown2 : OwnL (wr.alloc (.cells cs.toArray e)) base e k va vc L := own_keep hown fun b hb => hbx.block b (blk_lt hown b hb).2
  have hrow := rows_one_q (heap_new_q wr (.cells cs.toArray e)) hk
  have hnews : ∀ j u, cs[j]? = some u → (wr.alloc (.cells cs.toArray e)).cell? ((⟨wr.heap.size, 0, none⟩ : Addr).add j) = some u := fun j u hj => by
    rw [add_none]
    exact cell_lcG (heap_new_q wr _) (by simpa using hj)
  have hl : cs.length = 1 * k := by omega
  have keep := fun {v' w'} hr => app_keeps (P := P) (wr.alloc (.cells cs.toArray e)) base t o.type e i z k bytes ht hi hz hsize hby hzs hsz (.slice va L.length vc) L.length L.flatten hown2 ⟨wr.heap.size, 0, none⟩ 1 1 cs hl hnews h1 h63 hbytes (v' := v') (w' := w') hr
  refine BigFrame.wpList_want hwt fun K hK => ?_
  obtain ⟨v', w', hr, hv, hg, _, hb⟩ := run_append_own_at (P := P) (wr.alloc (.cells cs.toArray e)) base t o.type e i z k bytes ht hi hz hsize hby hzs hsz (.slice va L.length vc) L.length L.flatten hown2 ⟨wr.heap.size, 0, none⟩ 1 1 cs hl hnews h1 h63 hbytes hB
  have hk3 := keep hr
  unfold Oper.wp execOp
  simp only [ho, resolve, invoke, builtin, Sem.run_bind, Sem.run_pure, Result.andThen_ok, List.map_toArray, List.map_cons, List.map_nil, hs, hx, hr]
  have hk0 : ∀ b, b < (wr.alloc (.cells cs.toArray e)).heap.size → b ∉ blk va → w'.heap[b]? = (wr.alloc (.cells cs.toArray e)).heap[b]? := fun b hb2 hm => hg.block b hb2 (fun q => hm ((ownBlock_blk va L.length vc b).mp q.symm))
  have hlow : ∀ b, b < min base (wr.alloc (.cells cs.toArray e)).heap.size → b ∉ blk va := fun b hb hm => by have := blk_lt hown b hm; omega
  have hBl : Below (min base (wr.alloc (.cells cs.toArray e)).heap.size) (wr.alloc (.cells cs.toArray e)) w' := ⟨hg.os, hg.tape, hg.output, hg.size, fun b hb2 => hk0 b (by omega) (hlow b hb2)⟩
  have hform : ∃ va' vc', v' = .slice va' (L.length + 1) vc' := by
    rcases hv.2 with ⟨q, q2⟩ | ⟨g, cap', cur, q, _⟩
    · omega
    · exact ⟨_, _, q⟩
  obtain ⟨va', vc', rfl⟩ := hform
  have hv2 : OwnL w' base e k va' vc' (L ++ [cs]) := by
    show w'.ownsRow base e k (.slice va' (L ++ [cs]).length vc') (L ++ [cs]).length (L ++ [cs]).flatten
    rw [List.length_append, List.flatten_append, List.length_singleton]
    simpa using hv
  have hcase : ∀ (p q : Option Addr) (np nq cp cq : Nat), (Value.slice p np cp).ownBlock = (Value.slice q nq cq).ownBlock → blk p = blk q := fun p q np nq cp cq h => by
    cases p <;> cases q <;> simp_all [Value.ownBlock, blk]
  refine hK _ _ (h va' vc' w' ⟨hv2, ?_, ?_, ?_⟩ hk3)
  · exact (hbx.mono (by omega)).trans (hBl.mono (by have := hbx.size; omega))
  · intro b hb2 hm
    rw [hk0 b (by have := hbx.size; omega) hm]
    exact hbx.block b hb2
  · intro b hb2
    rcases hb with hb | hb
    · rw [hcase _ _ _ _ _ _ hb] at hb2
      exact .inl hb2
    · right
      cases va' with
      | none => simp [blk] at hb2
      | some ad' =>
        simp only [Value.ownBlock, Option.some.injEq] at hb
        simp only [blk, List.mem_singleton] at hb2
        rw [hb2, hb]
        exact hbx.size
theorem wpList_buildSliceW {P : Program} {ops : Array Oper} {rest : List Oper} {o : Oper} {a : Act} {w : World} {Q : Exit → Act → World → Prop} (hwt : Region.wanted o (yielded ops a.tmps) = true) (t e : TypeId) (len : Nat) (parts : Array (Nat × Operand)) (ho : o.op = .buildSlice t len parts)
    (cells : Array Value) (ie : TypeInfo) (z : Value)
    (hu : P.underlying t = some (.slice e)) (hie : P.info? e = some ie) (hz : ie.zero = some z) (hsmall : ¬ len * ie.size > 2 ^ 24) (hpos : ¬ len * ie.size = 0)
    (hf : Instr.fill (fun i => some (i * ie.size, ie.size)) ((Array.range (len * ie.size)).map (z.cells[· % z.cells.size]!)) (parts.map fun (i, x) => (i, a.eval x)).toList = some cells)
    (h : wpList P ops Q rest (a.put o.dst (.slice (some ⟨w.heap.size, 0, none⟩) len len)) (w.alloc (.cells cells e))) : wpList P ops Q (o :: rest) a w :=
  BigFrame.wpList_want hwt fun _ hK => wp_buildSlice t e len parts ho cells ie z hu hie hz hsmall hpos hf (hK _ _ h)
theorem rem_G (a b : Nat) (ha : a ≤ 5) (hb : 0 < b) (hb4 : b ≤ 4) (p q : Operand) (wx : World) : ((do
    eqGuard .rem 3 p q (.int .i64 (a : Int)) (.int .i64 (b : Int))
    binOp .rem 3 (.int .i64 (a : Int)) (.int .i64 (b : Int))) : Sem Value).run Try.prog wx = .ok (.int .i64 ((a % b : Nat) : Int)) wx := by
  have u := Try.underlying3
  have hA : a = 0 ∨ a = 1 ∨ a = 2 ∨ a = 3 ∨ a = 4 ∨ a = 5 := by omega
  have hB : b = 1 ∨ b = 2 ∨ b = 3 ∨ b = 4 := by omega
  rcases hA with rfl | rfl | rfl | rfl | rfl | rfl <;> rcases hB with rfl | rfl | rfl | rfl <;> first | rfl | simp [eqGuard, binOp, go_sem, u] | (simp [eqGuard, binOp, go_sem, u]; rfl)
theorem add_oneG (i : Int) (h : wrap64 (i + 1) = i + 1) (p q : Operand) (wx : World) : ((do
    eqGuard .add 3 p q (.int .i64 i) (.int .i64 1)
    binOp .add 3 (.int .i64 i) (.int .i64 1)) : Sem Value).run Try.prog wx = .ok (.int .i64 (i + 1)) wx := by
  have u := Try.underlying3
  simp [eqGuard, binOp, go_sem, u]
  rw [IntKind.wrap_i64]
  simp only [wrap64] at h
  omega
theorem tk_rng5 {w : World} {b o : Nat} {x : Tk} (k0 : w.cell? ⟨b, o, none⟩ = some (.int .i64 x.by_)) (k1 : w.cell? ⟨b, o + 1, none⟩ = some (.bool x.h0)) (k2 : w.cell? ⟨b, o + 2, none⟩ = some (.bool x.h1)) (k3 : w.cell? ⟨b, o + 3, none⟩ = some (.bool x.h2)) (k4 : w.cell? ⟨b, o + 4, none⟩ = some (.bool x.h3)) : w.rangeAt b o [.int .i64 x.by_, .bool x.h0, .bool x.h1, .bool x.h2, .bool x.h3] := fun j v hj => by
  match j, hj with
  | 0, hj => cases hj; exact k0
  | 1, hj => cases hj; exact k1
  | 2, hj => cases hj; exact k2
  | 3, hj => cases hj; exact k3
  | 4, hj => cases hj; exact k4
section
variable {lo K rc cc : Nat} {S : Nat → Slot} {ra ca va : Option Addr} {r : List Nat} {ch : List Tk} {w w' Z : World} {vc : Nat} {x : Tk}
/-- What stands around a choice. -/
structure ChP (lo : Nat) (w : World) (K : Nat) (S : Nat → Slot) (ra : Option Addr) (rc : Nat) (r : List Nat) (ca : Option Addr) (cc : Nat) (ch : List Tk) : Prop where
  k : w.heap[K]? = some (.cells (rowT S) TKS)
  o : ∀ j, j < 16 → Rows w 5 (S j).1 (S j).2.2 ((S j).2.1.map Tk.cells)
  f : ∀ j, j < 16 → ∀ g ∈ blk (S j).1, g < w.heap.size ∧ g ∉ blk ca
  r : Rows w 1 ra rc ((asZ r).map chCells)
  rf : ∀ g ∈ blk ra, g < w.heap.size ∧ g ∉ blk ca
  c : OwnL w lo 97 5 ca cc (ch.map Tk.cells)
  l : lo ≤ w.heap.size
theorem ChP.kn (h : ChP lo w K S ra rc r ca cc ch) : K ∉ blk ca := fun q => by
  obtain ⟨cur, h1, _⟩ := own_tagG h.c q
  rw [h.k] at h1
  simp only [Option.some.injEq, Obj.cells.injEq] at h1
  exact absurd h1.2.1 (by decide)
theorem ChP.on (h : ChP lo w K S ra rc r ca cc ch) (hf : ChF lo ca w w') (hc : OwnL w' lo 97 5 ca cc (ch.map Tk.cells)) : ChP lo w' K S ra rc r ca cc ch :=
  ⟨hf.on h.k h.kn, fun j hj => rows_on (h.o j hj) (fun g hg => hf.k g (h.f j hj g hg).1 (h.f j hj g hg).2) hf.b.size, fun j hj g hg => ⟨Nat.lt_of_lt_of_le (h.f j hj g hg).1 hf.b.size, (h.f j hj g hg).2⟩, rows_on h.r (fun g hg => hf.k g (h.rf g hg).1 (h.rf g hg).2) hf.b.size, fun g hg => ⟨Nat.lt_of_lt_of_le (h.rf g hg).1 hf.b.size, (h.rf g hg).2⟩, hc, Nat.le_trans h.l hf.b.size⟩
theorem ChP.later (h : ChP lo w K S ra rc r ca cc ch) (hb : Below w.heap.size w w') : ChP lo w' K S ra rc r ca cc ch := h.on (ChF.of hb h.l) (own_keep h.c fun g hg => hb.block g (blk_lt h.c g hg).2)
theorem ChF.grow (h : ChP lo w K S ra rc r ca cc ch) (hgr : Grown w lo 97 5 ca (ch.map Tk.cells) x.cells va vc Z) : ChF lo ca w Z := ⟨by
  have := hgr.be
  rw [Nat.min_eq_left h.l] at this
  exact this, hgr.kp⟩
theorem ChP.grow (h : ChP lo w K S ra rc r ca cc ch) (hgr : Grown w lo 97 5 ca (ch.map Tk.cells) x.cells va vc Z) (hs : OwnL Z lo 97 5 ca cc (ch.map Tk.cells)) : ChP lo Z K S ra rc r va vc (ch ++ [x]) := by
  have h1 := h.on (ChF.grow h hgr) hs
  have hn : ∀ g, g < w.heap.size → g ∉ blk ca → g ∉ blk va := fun g hg hn q => (hgr.bk g q).elim hn fun q => by omega
  exact ⟨h1.k, h1.o, fun j hj g hg => ⟨(h1.f j hj g hg).1, hn g (h.f j hj g hg).1 (h.f j hj g hg).2⟩, h1.r, fun g hg => ⟨(h1.rf g hg).1, hn g (h.rf g hg).1 (h.rf g hg).2⟩, by rw [List.map_append]; exact hgr.ow, h1.l⟩
end
end Go.Proofs.Ytdfnmlcpimiboaa.pg
