/- The document's kinds, and the takings by their locks: plain. -/
import Derived.Test.YtdfnmlcpimiboaaM27
import Derived.Deep.DeepCutAuto
namespace Go.Proofs.Ytdfnmlcpimiboaa.pg
open Go.RowKit
set_option linter.unusedVariables false
/-- A kind: an edge but for its place. -/
structure Kd where
  fr : Int
  tw : Int
  tk : Tk
deriving DecidableEq
def kdE (hf : Nat → Bool) (e : Ed) : Kd := ⟨e.fr, e.tw, tkE hf e⟩
def addK (x : Kd) (L : List Kd) : List Kd := if x ∈ L then L else L ++ [x]
def kindsL (hf : Nat → Bool) (E : List Ed) : List Kd := E.foldl (fun L e => addK (kdE hf e) L) []
theorem kinds_step {hf : Nat → Bool} {E : List Ed} {j : Nat} {e : Ed} (h : E[j]? = some e) : kindsL hf (E.take (j + 1)) = addK (kdE hf e) (kindsL hf (E.take j)) := by
  unfold kindsL
  rw [take_one E j e h, List.foldl_append]
  rfl
/-- The kinds that go from one lock to another. -/
def selK (p q : Nat) (L : List Kd) : List Tk := (L.filter fun k => k.fr == (p : Int) && k.tw == (q : Int)).map (·.tk)
theorem sel_add (p q : Nat) (x : Kd) (L : List Kd) : selK p q (addK x L) = if x.fr = (p : Int) ∧ x.tw = (q : Int) then addT x.tk (selK p q L) else selK p q L := by
  have hmem : x.fr = (p : Int) → x.tw = (q : Int) → (x.tk ∈ selK p q L ↔ x ∈ L) := fun h1 h2 => by
    unfold selK
    rw [List.mem_map]
    constructor
    · rintro ⟨y, hy, e⟩
      rw [List.mem_filter] at hy
      obtain ⟨hy, hz⟩ := hy
      simp only [Bool.and_eq_true, beq_iff_eq] at hz
      have : y = x := by
        cases y; cases x
        simp_all
      exact this ▸ hy
    · intro h
      exact ⟨x, List.mem_filter.mpr ⟨h, by simp [h1, h2]⟩, rfl⟩
  unfold addK
  by_cases hx : x ∈ L
  · rw [if_pos hx]
    split
    · rename_i h
      unfold addT
      rw [if_pos ((hmem h.1 h.2).mpr hx)]
    · rfl
  · rw [if_neg hx]
    split
    · rename_i h
      unfold addT
      rw [if_neg (fun q => hx ((hmem h.1 h.2).mp q))]
      unfold selK
      rw [List.filter_append, List.map_append]
      simp [h.1, h.2]
    · rename_i h
      unfold selK
      rw [List.filter_append, List.map_append]
      have : (x.fr == (p : Int) && x.tw == (q : Int)) = false := by
        rw [Bool.eq_false_iff]
        intro z
        simp only [Bool.and_eq_true, beq_iff_eq] at z
        exact h z
      simp [this]
theorem kinds_tks (hf : Nat → Bool) (E : List Ed) (n : Nat) (hE : ∀ e ∈ E, EdR n e) {p q : Nat} (hp : p < 4) (hq : q < 4) : ∀ j, selK p q (kindsL hf (E.take j)) = tkF hf (E.take j) (p * 4 + q)
  | 0 => rfl
  | j + 1 => by
    cases h : E[j]? with
    | none =>
      have hj : E.length ≤ j := List.getElem?_eq_none_iff.mp h
      have := kinds_tks hf E n hE hp hq j
      rw [List.take_of_length_le hj] at this
      rw [List.take_of_length_le (by omega)]
      exact this
    | some e =>
      obtain ⟨h1, h2, _, _⟩ := hE e (List.mem_of_getElem? h)
      rw [kinds_step h, tkF_step h, sel_add, kinds_tks hf E n hE hp hq j]
      unfold stepT plE kdE
      by_cases c : e.fr = (p : Int) ∧ e.tw = (q : Int)
      · rw [if_pos c, if_pos (by omega)]
      · rw [if_neg c, if_neg (by omega)]
end Go.Proofs.Ytdfnmlcpimiboaa.pg
/- Whether a ring closes: the document's closes and choose are one. -/
namespace Go.Proofs.Ytdfnmlcpimiboaa.pg
open Go.RowKit
set_option linter.unusedVariables false
/-- Do the locks that are held, and those of a taking, have one in common? -/
def clshB (lk : Nat → Bool) (x : Tk) : Bool := (lk 0 && x.h0) || (lk 1 && x.h1) || (lk 2 && x.h2) || (lk 3 && x.h3)
def addG (f : Int → Bool) (x : Tk) : Int → Bool := fun g => f g || g == x.by_
def addH (f : Nat → Bool) (x : Tk) : Nat → Bool := fun k => f k || hvF x k
/-- The document's closes: m more, from place n on. -/
def clsB (L : List Kd) (r : List Nat) (ap : Bool) : Nat → Nat → (Int → Bool) → (Nat → Bool) → Bool
  | 0, _, _, _ => true
  | m + 1, n, gs, lk => L.any fun k => (k.fr == (r.getD n 0 : Int) && k.tw == (r.getD ((n + 1) % r.length) 0 : Int)) && (!(gs k.tk.by_) && !(ap && clshB lk k.tk) && clsB L r ap m (n + 1) (addG gs k.tk) (addH lk k.tk))
def gsOf (ch : List Tk) : Int → Bool := fun g => ch.any fun y => g == y.by_
def lkOf (ch : List Tk) : Nat → Bool := fun k => ch.any fun y => hvF y k
theorem gsOf_add (ch : List Tk) (x : Tk) : addG (gsOf ch) x = gsOf (ch ++ [x]) := by
  funext g
  simp [addG, gsOf, List.any_append]
theorem lkOf_add (ch : List Tk) (x : Tk) : addH (lkOf ch) x = lkOf (ch ++ [x]) := by
  funext k
  simp [addH, lkOf, List.any_append]
theorem any_un (ch : List Tk) (x : Tk) : (ch.any fun y => !unB x y) = gsOf ch x.by_ := by
  unfold gsOf unB
  congr 1
  funext y
  rw [bne, Bool.not_not]
theorem any_ap (ch : List Tk) (x : Tk) : (ch.any fun y => !apB x y) = (gsOf ch x.by_ || clshB (lkOf ch) x) := by
  induction ch with
  | nil => simp [gsOf, lkOf, clshB]
  | cons y t ih =>
    rw [List.any_cons, ih]
    have e1 : gsOf (y :: t) x.by_ = ((x.by_ == y.by_) || gsOf t x.by_) := by simp [gsOf]
    have e2 : ∀ k, lkOf (y :: t) k = (hvF y k || lkOf t k) := fun k => by simp [lkOf]
    unfold clshB
    rw [e1, e2, e2, e2, e2]
    unfold apB eqS4 bne
    show _ = ((x.by_ == y.by_) || gsOf t x.by_ || ((y.h0 || lkOf t 0) && x.h0 || (y.h1 || lkOf t 1) && x.h1 || (y.h2 || lkOf t 2) && x.h2 || (y.h3 || lkOf t 3) && x.h3))
    generalize (x.by_ == y.by_) = a
    generalize gsOf t x.by_ = b
    generalize lkOf t 0 = c0
    generalize lkOf t 1 = c1
    generalize lkOf t 2 = c2
    generalize lkOf t 3 = c3
    generalize x.h0 = p0
    generalize x.h1 = p1
    generalize x.h2 = p2
    generalize x.h3 = p3
    generalize y.h0 = q0
    generalize y.h1 = q1
    generalize y.h2 = q2
    generalize y.h3 = q3
    cases a <;> cases b <;> cases p0 <;> cases p1 <;> cases p2 <;> cases p3 <;> cases q0 <;> cases q1 <;> cases q2 <;> cases q3 <;> simp
theorem closes_un (L : List Kd) (r : List Nat) (F : Nat → List Tk) (hr : ∀ i ∈ r, i < 4) (hF : ∀ p q, p < 4 → q < 4 → F (p * 4 + q) = selK p q L) : ∀ (m : Nat) (ch : List Tk) (lk : Nat → Bool), clsB L r false m ch.length (gsOf ch) lk = choB unB F r m ch
  | 0, _, _ => rfl
  | m + 1, ch, lk => by
    rw [choB_step]
    unfold rgS
    rw [hF _ _ (getD_lt4 hr _) (getD_lt4 hr _)]
    unfold clsB selK
    rw [List.any_map, List.any_filter]
    congr 1
    funext k
    congr 1
    show _ = stpB unB F r m ch k.tk
    unfold stpB
    rw [any_un, gsOf_add, ← closes_un L r F hr hF m (ch ++ [k.tk]) (addH lk k.tk), List.length_append, List.length_singleton]
    simp
theorem closes_ap (L : List Kd) (r : List Nat) (F : Nat → List Tk) (hr : ∀ i ∈ r, i < 4) (hF : ∀ p q, p < 4 → q < 4 → F (p * 4 + q) = selK p q L) : ∀ (m : Nat) (ch : List Tk), clsB L r true m ch.length (gsOf ch) (lkOf ch) = choB apB F r m ch
  | 0, _ => rfl
  | m + 1, ch => by
    rw [choB_step]
    unfold rgS
    rw [hF _ _ (getD_lt4 hr _) (getD_lt4 hr _)]
    unfold clsB selK
    rw [List.any_map, List.any_filter]
    congr 1
    funext k
    congr 1
    show _ = stpB apB F r m ch k.tk
    unfold stpB
    rw [any_ap, gsOf_add, lkOf_add, ← closes_ap L r F hr hF m (ch ++ [k.tk]), List.length_append, List.length_singleton]
    simp
end Go.Proofs.Ytdfnmlcpimiboaa.pg
/- The document's kinds, in memory. -/
namespace Go.Proofs.Ytdfnmlcpimiboaa.pg
open Go.ChangeShapes Go.WideShapes Go.ChangeAt Go.RowKit
set_option linter.unusedVariables false
set_option linter.unusedSimpArgs false
set_option maxRecDepth 100000
attribute [local go_sem ↓] Go.wp_at_zero Go.wp_at_succ
abbrev Kd.cells (x : Kd) : List Value := [.int .i64 x.fr, .int .i64 x.tw, .int .i64 x.tk.by_, .bool x.tk.h0, .bool x.tk.h1, .bool x.tk.h2, .bool x.tk.h3]
abbrev objKd (x : Kd) : Obj := .cells #[.int .i64 x.fr, .int .i64 x.tw, .int .i64 x.tk.by_, .bool x.tk.h0, .bool x.tk.h1, .bool x.tk.h2, .bool x.tk.h3] 106
theorem zeroKd : ∀ w, (zeroValue 106).run Try.prog w = .ok (.agg #[.int .i64 0, .int .i64 0, .int .i64 0, .bool false, .bool false, .bool false, .bool false]) w := fun w => by kernel_rfl
theorem infoKdG : (Try.prog.info? 106).map (fun i => (i.zero, i.size, i.bytes)) = some (some (.agg #[.int .i64 0, .int .i64 0, .int .i64 0, .bool false, .bool false, .bool false, .bool false]), 7, 32) := by kernel_rfl
theorem infoKd7 : (Try.prog.info? 106).map (·.size) = some 7 := by kernel_rfl
theorem bld_kd (a b c : Int) (d e f g : Bool) : ∀ wx, (Instr.build 106 #[(0, .int .i64 a), (1, .int .i64 b), (2, .int .i64 c), (3, .agg #[.bool d, .bool e, .bool f, .bool g])]).run Try.prog wx = .ok (.agg #[.int .i64 a, .int .i64 b, .int .i64 c, .bool d, .bool e, .bool f, .bool g]) wx := fun wx => by kernel_rfl
theorem kd_oneX (a b c : Int) (d e f g : Bool) : (#[.int .i64 a, .int .i64 b, .int .i64 c, .bool d, .bool e, .bool f, .bool g] : Array Value).all (·.oneCell') = true := by simp [Value.oneCell']
theorem run_equalB4 (d : Nat) (a0 a1 a2 a3 b0 b1 b2 b3 : Bool) (w : World) : (Op.equalIn (d + 2) 66 (.agg #[.bool a0, .bool a1, .bool a2, .bool a3]) (.agg #[.bool b0, .bool b1, .bool b2, .bool b3])).run Try.prog w = .ok (eqS4 a0 a1 a2 a3 b0 b1 b2 b3) w := by
  have uB := Try.underlying4
  have aB := Try.isAgg4
  have zB := Try.sizeOf4
  obtain ⟨i, hi⟩ : ∃ i, Try.prog.info? 4 = some i := Option.isSome_iff_exists.mp (by kernel_rfl)
  have hc : Try.prog.cellsOf 4 = 1 := by kernel_rfl
  rw [run_equalIn_array (P := Try.prog) w (d + 1) _ _ Try.underlying66 hi, hc]
  simp only [show List.range 4 = [0, 1, 2, 3] from rfl, Op.eqItems]
  go_simp
  cases a0 <;> cases b0 <;> cases a1 <;> cases b1 <;> cases a2 <;> cases b2 <;> cases a3 <;> cases b3 <;> simp [eqS4]
def eqKd (x y : Kd) : Bool := x.fr == y.fr && x.tw == y.tw && eqTk x.tk y.tk
theorem eqKd_iff (x y : Kd) : eqKd x y = true ↔ x = y := by
  obtain ⟨a, b, c⟩ := x
  obtain ⟨d, e, f⟩ := y
  simp [eqKd, Bool.and_eq_true, beq_iff_eq, and_assoc, eqTk_iff]
theorem eqKd_comm (x y : Kd) : eqKd x y = eqKd y x := by
  rw [Bool.eq_iff_iff, eqKd_iff, eqKd_iff]
  exact ⟨Eq.symm, Eq.symm⟩
theorem run_eqKd (x y : Kd) (w : World) : (binOp .eql 106 (.agg #[.int .i64 x.fr, .int .i64 x.tw, .int .i64 x.tk.by_, .bool x.tk.h0, .bool x.tk.h1, .bool x.tk.h2, .bool x.tk.h3]) (.agg #[.int .i64 y.fr, .int .i64 y.tw, .int .i64 y.tk.by_, .bool y.tk.h0, .bool y.tk.h1, .bool y.tk.h2, .bool y.tk.h3])).run Try.prog w = .ok (.bool (eqKd x y)) w := by
  have uB := Try.underlying3
  have aB := Try.isAgg3
  have zB := Try.sizeOf3
  have uS := Try.underlying66
  have aS := Try.isAgg66
  have zS := Try.sizeOf66
  have hS : Try.prog.underlying 106 = some (.struct (Try.prog.fieldsOf 106)) := by kernel_rfl
  have hp : Try.prog.stoodInHeld 106 = false := by kernel_rfl
  have hq := fun wx => run_equalB4 9997 x.tk.h0 x.tk.h1 x.tk.h2 x.tk.h3 y.tk.h0 y.tk.h1 y.tk.h2 y.tk.h3 wx
  rw [run_eql_struct, show (10000 : Nat) = 9999 + 1 from rfl, run_equalIn_agg w 9999 106 _ _ hS hp]
  simp only [Program.fieldsOf, Try.underlying106]
  go_simp
  by_cases h0 : x.fr = y.fr <;> by_cases h1 : x.tw = y.tw <;> by_cases h2 : x.tk.by_ = y.tk.by_ <;> simp [eqKd, eqTk, h0, h1, h2, hq]
  cases eqS4 x.tk.h0 x.tk.h1 x.tk.h2 x.tk.h3 y.tk.h0 y.tk.h1 y.tk.h2 y.tk.h3 <;> rfl
theorem kd_len (L : List Kd) : ∀ row ∈ L.map Kd.cells, row.length = 7 := fun row hr => by
  obtain ⟨z, _, rfl⟩ := List.mem_map.mp hr
  rfl
theorem kd_ix {w : World} {a : Option Addr} {cap : Nat} {L : List Kd} (h : Rows w 7 a cap (L.map Kd.cells)) (i : Nat) (x : Kd) (hi : L[i]? = some x) :
    ∃ b o, (∀ wx, (Instr.indexAt 81 (.slice a L.length cap) (.int .i64 (i : Int))).run Try.prog wx = .ok (.pointer (some ⟨b, o, none⟩)) wx) ∧ b < w.heap.size ∧ w.rangeAt b o x.cells := by
  obtain ⟨b, o, hr, hlt, hc⟩ := h.ix 81 106 Try.underlying81 (by kernel_rfl) (fun wx => Try.sizeOf106 wx) i (row := x.cells) (by simp [hi])
  rw [List.length_map] at hr
  exact ⟨b, o, hr, hlt, fun j v hj => hc j v hj⟩
theorem mem_step {L : List Kd} {i : Nat} {x y : Kd} (hy : L[i]? = some y) : decide (x ∈ L.take (i + 1)) = (decide (x ∈ L.take i) || eqKd x y) := by
  rw [take_one L i y hy, Bool.eq_iff_iff, Bool.or_eq_true, decide_eq_true_iff, decide_eq_true_iff, eqKd_iff, List.mem_append, List.mem_singleton]
theorem addK_len (x : Kd) (L : List Kd) : (addK x L).length ≤ L.length + 1 := by
  unfold addK
  split
  · omega
  · simp
theorem kinds_len (hf : Nat → Bool) (E : List Ed) : ∀ j, (kindsL hf (E.take j)).length ≤ j
  | 0 => by simp [kindsL]
  | j + 1 => by
    cases h : E[j]? with
    | none =>
      have h0 := List.getElem?_eq_none_iff.mp h
      have := kinds_len hf E j
      rw [List.take_of_length_le (by omega)] at this ⊢
      omega
    | some e =>
      rw [kinds_step h]
      have h1 := addK_len (kdE hf e) (kindsL hf (E.take j))
      have h2 := kinds_len hf E j
      omega
section
variable {P : Program} {ops : Array Oper} {Q : Exit → Act → World → Prop} {S : World → Prop} {fuel : Nat} {listed : Array Bool} {a : Act} {w : World}
theorem arm_callG {i : Nat} {o : Oper} (hw : Region.wanted o (yielded ops a.tmps) = true) (f : FuncId) (xs : Array Operand) (ts : Array TypeId)
    (hc0 : o.op = .call { callee := .value (.func f), args := xs, argTypes := ts }) (vs : Array Value) (hx : xs.map a.eval = vs) (hcf : (callFunc f vs).run P w = .ok (.enter f vs) w) (R : Ending → World → Prop) (hc : Calls P f vs w R)
    (hK : ∀ e w', R e w' → ∃ v, e = .returned v ∧ S w' ∧ (S w' → wpAnyH P .any ops Q S fuel (listed.setIfInBounds i true) (a.put o.dst v) w')) :
    ∀ K' : Act → World → Prop, Shut (∀ a w, S w → (S w → wpAnyH P .any ops Q S fuel (listed.setIfInBounds i true) a w) → K' a w) → if Region.wanted o (yielded ops a.tmps) = true then Oper.wp P o a w K' Q else K' (a.put o.dst undef) w := fun K hK2 => by
  rw [if_pos hw]
  have hrun : (execOp a.eval o).run P w = .ok (.enter f vs) w := by
    have hf : a.eval (.func f) = .func (.func f) #[] #[] := rfl
    simp [execOp, hc0, resolve, invoke, hx, hf, Deferred.ofValue, hcf]
  unfold Oper.wp
  rw [hrun, Oper.upon_enter]
  refine hc.mono fun e w' h => ?_
  obtain ⟨v, rfl, hs, hk⟩ := hK e w' h
  exact hK2.out _ _ hs hk
/-- A call of two, or something else. -/
theorem reg_ca2G {i j : Nat} {o p : Oper} (hr : Region.ready .any ops listed = [i, j]) (ho : ops[i]? = some o) (hp : ops[j]? = some p) (hw : Region.wanted o (yielded ops a.tmps) = true) (hw2 : Region.wanted p (yielded ops a.tmps) = true) (f : FuncId) (x y : Operand) (t u : TypeId)
    (hc0 : o.op = .call { callee := .value (.func f), args := #[x, y], argTypes := #[t, u] }) (v v2 : Value) (hx : a.eval x = v) (hy : a.eval y = v2) (hcf : (callFunc f #[v, v2]).run P w = .ok (.enter f #[v, v2]) w) (R : Ending → World → Prop) (hc : Calls P f #[v, v2] w R)
    (hK : ∀ e w', R e w' → ∃ v, e = .returned v ∧ S w' ∧ (S w' → wpAnyH P .any ops Q S fuel (listed.setIfInBounds i true) (a.put o.dst v) w'))
    (h2 : wpList P ops (okQ fun a' w' => S w' ∧ (S w' → wpAnyH P .any ops Q S fuel (listed.setIfInBounds j true) a' w')) [p] a w) :
    wpAnyH P .any ops Q S (fuel + 1) listed a w := wpAnyH_ready hr (by simp) (AllReadyH.cons ho (arm_callG hw f #[x, y] #[t, u] hc0 #[v, v2] (by simp [hx, hy]) hcf R hc hK) (AllReadyH.cons hp (arm_list hw2 h2) AllReadyH.nil))
end
theorem br4 (f : Nat → Bool) : boolRow 4 f = #[.bool (f 0), .bool (f 1), .bool (f 2), .bool (f 3)] := rfl
section
variable {w : World} {l : List Ev} {la : Option Addr} {lc : Nat}
theorem held_call (hl : Rows w 26 la lc (l.map Ev.cells)) (hn : l.length ≤ 256) (hr : ∀ x ∈ l, rightP x) {ev : Nat} (hev : ev < l.length) (wx : World) (q : Below w.heap.size w wx) : Calls Try.prog 29 #[.slice la l.length lc, .int .i64 (ev : Int)] wx fun e w' => e = .returned (.agg #[.bool (heldF l l.length (ev * 4)), .bool (heldF l l.length (ev * 4 + 1)), .bool (heldF l l.length (ev * 4 + 2)), .bool (heldF l l.length (ev * 4 + 3))]) ∧ Below wx.heap.size wx w' := by
  obtain ⟨x, hx, _⟩ := get_lt l ev hev
  have h := rheld_any (hl.later q) hn hr hx
  have e0 : heldF l l.length (ev * 4) = hldF l x.go ev 0 := held_at hx hev (k := 0) (by omega)
  rw [br4, ← e0, ← held_at hx hev (k := 1) (by omega), ← held_at hx hev (k := 2) (by omega), ← held_at hx hev (k := 3) (by omega)] at h
  exact h
/-- How the kinds lie. -/
structure KdS (w X : World) (L : List Kd) (a : Option Addr) (c : Nat) : Prop where
  o : OwnL X w.heap.size 106 7 a c (L.map Kd.cells)
  b : Below w.heap.size w X
/-- What stands in a round of kinds. -/
structure KdR (w X : World) (E : List Ed) (ea : Option Addr) (ec : Nat) (L : List Kd) (a : Option Addr) (c : Nat) : Prop where
  k : KdS w X L a c
  e : OwnL X w.heap.size 71 4 ea ec (E.map Ed.cells)
theorem KdS.later {X X' : World} {L : List Kd} {a : Option Addr} {c : Nat} (g : KdS w X L a c) (hb : Below X.heap.size X X') : KdS w X' L a c := ⟨own_keep g.o fun b hbb => hb.block b (blk_lt g.o b hbb).2, bthen g.b hb⟩
theorem KdR.later {X X' : World} {E : List Ed} {ea : Option Addr} {ec : Nat} {L : List Kd} {a : Option Addr} {c : Nat} (g : KdR w X E ea ec L a c) (hb : Below X.heap.size X X') : KdR w X' E ea ec L a c := ⟨g.k.later hb, own_keep g.e fun b hbb => hb.block b (blk_lt g.e b hbb).2⟩
theorem KdR.grow {X Z : World} {E : List Ed} {ea : Option Addr} {ec : Nat} {L : List Kd} {a va : Option Addr} {c vc : Nat} {x : Kd} (g : KdR w X E ea ec L a c) (hgr : Grown X w.heap.size 106 7 a (L.map Kd.cells) x.cells va vc Z) : KdR w Z E ea ec (L ++ [x]) va vc := by
  refine ⟨⟨by rw [List.map_append]; exact hgr.ow, ?_⟩, own_keep g.e fun b hb => hgr.kp b (blk_lt g.e b hb).2 (own_apartG g.e g.k.o (by decide) hb)⟩
  have := hgr.be
  rw [Nat.min_eq_left g.k.b.size] at this
  exact g.k.b.trans this
set_option maxHeartbeats 8000000 in
theorem kinds_anyG (hl : Rows w 26 la lc (l.map Ev.cells)) (hn : l.length ≤ 256) (hr : ∀ x ∈ l, rightP x) : Calls Try.prog 40 #[.slice la l.length lc] w fun e w' => ∃ a c, e = .returned (.slice a (kindsL (heldF l l.length) (edgesL l l.length)).length c) ∧ KdS w w' (kindsL (heldF l l.length) (edgesL l l.length)) a c := by
  have hrE : Hid (∀ e ∈ edgesL l l.length, EdR l.length e) := edges_right hr
  have hEl : Hid ((edgesL l l.length).length ≤ 1024) := by
    have := edgesL_len l l.length
    show _ ≤ _
    omega
  obtain ⟨iK, hiK', hzK', hsK', hbK'⟩ := info_q infoKdG
  have hiK : Hid (Try.prog.info? 106 = some iK) := hiK'
  have hzK : Hid _ := hzK'
  have hsK : Hid _ := hsK'
  have hbK : Hid _ := hbK'
  have huE : Hid (Try.prog.underlying 71 = _) := Try.underlying71
  have huK : Hid (Try.prog.underlying 106 = _) := Try.underlying106
  have cE : Calls Try.prog 27 #[.slice la l.length lc] w _ := redges_anyG hl hn hr
  have cH : Hid (∀ ev, ev < l.length → ∀ wx, Below w.heap.size w wx → Calls Try.prog 29 #[.slice la l.length lc, .int .i64 (ev : Int)] wx _) := fun ev hev wx q => held_call hl hn hr hev wx q
  clear hl hn hr hiK' hzK' hsK' hbK'
  generalize edgesL l l.length = E at *
  generalize heldF l l.length = hf at *
  generalize l.length = n at *
  go_enter Try.func40, Try.ntmps40
  go_wp2_with (go_at_call 27; (with_reducible refine cE.mono ?_); rintro e w1 ⟨ea, ec, rfl, hE⟩; (have hI : Hid (KdR w w1 E ea ec [] none 0) := ⟨⟨own_nil_q _ _ _ _, hE.b⟩, hE.o⟩); clear hE cE)
  go_loopw [3, 13] (fun u3 u wr => ∃ (j : Nat) (a : Option Addr) (L : List Kd) (c : Nat), j ≤ E.length ∧ u = .int .i64 (j : Int) ∧ u3 = .slice a L.length c ∧ Hid (KdR w wr E ea ec L a c) ∧ Hid (L = kindsL hf (E.take j))) (fun _ u _ => E.length - (intOf u).toNat)
  case atStart => exact ⟨0, none, [], 0, Nat.zero_le _, rfl, rfl, hI.out, rfl⟩
  case round =>
    obtain ⟨j, a, L, c, hj, rfl, rfl, hst, hL⟩ := hrel
    clear hI
    have hELI : (E.length : Int) ≤ 1024 := by (have := hEl.out; omega)
    by_cases hlt : j < E.length
    · have hjI : (j : Int) < E.length := by omega
      obtain ⟨e, he⟩ : ∃ e, E[j]? = some e := ⟨_, List.getElem?_eq_getElem hlt⟩
      have heR := hrE.out e (List.mem_of_getElem? he)
      obtain ⟨fr, tw, go, ev⟩ := e
      obtain ⟨_, _, ⟨q5, q6⟩, _⟩ := heR
      simp only at q5 q6
      obtain ⟨ev, rfl⟩ : ∃ k : Nat, ev = (k : Int) := ⟨ev.toNat, by omega⟩
      have hevn : ev < n := by omega
      have hstp : Hid (kindsL hf (E.take (j + 1)) = addK (kdE hf ⟨fr, tw, go, (ev : Int)⟩) L) := by (show _ = _; rw [hL.out]; exact kinds_step he)
      have hLl : Hid (L.length ≤ 1024) := by
        have h1 := kinds_len hf E j
        have h2 := hEl.out
        show _ ≤ _
        rw [hL.out]
        omega
      obtain ⟨b1, o1, x1, l1, r1⟩ := ed_ixG (own_rows hst.out.e (ed_len E)) j _ he
      have hrg : Hid (wr.rangeAt b1 o1 [.int .i64 fr, .int .i64 tw, .int .i64 go, .int .i64 (ev : Int)]) := r1
      have hst1 : Hid (KdR w (wr.alloc (objEd ⟨fr, tw, go, (ev : Int)⟩)) E ea ec L a c ∧ (wr.alloc (objEd ⟨fr, tw, go, (ev : Int)⟩)).heap[wr.heap.size]? = some (objEd ⟨fr, tw, go, (ev : Int)⟩)) := ⟨hst.out.later (boxed _ _), heap_alloc_new _ _⟩
      clear r1 l1 hst he q5 q6 hL
      go_upto_region 5 with (first
        | (refine wpList_load_mid rfl 71 _ rfl b1 o1 rfl [.int .i64 fr, .int .i64 tw, .int .i64 go, .int .i64 (ev : Int)] _ hrg.out huE.out rfl infoEd4 ?_)
        | (refine wpList_store_new rfl 71 _ _ rfl rfl _ #[.int .i64 fr, .int .i64 tw, .int .i64 go, .int .i64 (ev : Int)] rfl (by kernel_rfl) rfl (ed_one ⟨fr, tw, go, (ev : Int)⟩) ?_))
      change Code.wp _ _ _ _ (wr.alloc (objEd ⟨fr, tw, go, (ev : Int)⟩))
      generalize wr.alloc (objEd ⟨fr, tw, go, (ev : Int)⟩) = X1 at *
      generalize wr.heap.size = C at *
      clear hrg x1
      simp only [Act.put, List.getElem_toArray, List.getElem_cons_succ, List.getElem_cons_zero, List.setIfInBounds_toArray, List.set_cons_zero, List.set_cons_succ]
      go_cut [6] from 17 to 27 (fun u6 wx => ∃ D : Nat, u6 = .pointer (some ⟨D, 0, none⟩) ∧ Hid (Below X1.heap.size X1 wx ∧ wx.heap[D]? = some (objKd ⟨fr, tw, ⟨go, hf (ev * 4), hf (ev * 4 + 1), hf (ev * 4 + 2), hf (ev * 4 + 3)⟩⟩) ∧ X1.heap.size ≤ D))
      case first =>
        have hRd : Hid (∀ w', Below X1.heap.size X1 w' → w'.rangeAt C 0 [.int .i64 fr, .int .i64 tw, .int .i64 go, .int .i64 (ev : Int)]) := fun w' z => rng_blkG (blk_onG hst1.out.2 z)
        have hS : Hid (Below X1.heap.size X1 X1.drew) := bey_drew X1
        have cC : Hid (∀ wx, Below X1.heap.size X1 wx → Calls Try.prog 29 #[.slice la n lc, .int .i64 (ev : Int)] wx fun e w' => e = .returned (.agg #[.bool (hf (ev * 4)), .bool (hf (ev * 4 + 1)), .bool (hf (ev * 4 + 2)), .bool (hf (ev * 4 + 3))]) ∧ Below wx.heap.size wx w') := fun wx z => cH.out ev hevn wx (bthen hst1.out.1.k.b z)
        refine wp_region_noPanic ?_
        refine wp_region_held_drew (S := fun w' => Below X1.heap.size X1 w') (by kernel_rfl) hS.out (fun _ => ?_)
        refine reg_move (i := 0) rfl (by kernel_rfl) (by kernel_rfl) (by kernel_rfl) (fun _ _ _ _ h => h) rfl (.pointer (some ⟨C, 0, none⟩)) (fun _ => rfl) hS.out ?_
        simp only [Act.put, List.getElem_toArray, List.getElem_cons_succ, List.getElem_cons_zero, List.setIfInBounds_toArray, List.set_cons_zero, List.set_cons_succ]
        refine reg_load1 (i := 1) rfl (by kernel_rfl) (by kernel_rfl) (by kernel_rfl) (fun _ _ _ _ h => h) rfl 3 _ rfl ⟨C, 0, none⟩ rfl _ Try.underlying3 rfl (.int .i64 fr) (fun w' z => hRd.out w' z 0 _ rfl) hS.out ?_
        simp only [Act.put, List.getElem_toArray, List.getElem_cons_succ, List.getElem_cons_zero, List.setIfInBounds_toArray, List.set_cons_zero, List.set_cons_succ]
        refine reg_move (i := 2) rfl (by kernel_rfl) (by kernel_rfl) (by kernel_rfl) (fun _ _ _ _ h => h) rfl (.pointer (some ⟨C, 1, none⟩)) (fun _ => rfl) hS.out ?_
        simp only [Act.put, List.getElem_toArray, List.getElem_cons_succ, List.getElem_cons_zero, List.setIfInBounds_toArray, List.set_cons_zero, List.set_cons_succ]
        refine reg_load1 (i := 3) rfl (by kernel_rfl) (by kernel_rfl) (by kernel_rfl) (fun _ _ _ _ h => h) rfl 3 _ rfl ⟨C, 1, none⟩ rfl _ Try.underlying3 rfl (.int .i64 tw) (fun w' z => hRd.out w' z 1 _ rfl) hS.out ?_
        simp only [Act.put, List.getElem_toArray, List.getElem_cons_succ, List.getElem_cons_zero, List.setIfInBounds_toArray, List.set_cons_zero, List.set_cons_succ]
        refine reg_move (i := 4) rfl (by kernel_rfl) (by kernel_rfl) (by kernel_rfl) (fun _ _ _ _ h => h) rfl (.pointer (some ⟨C, 2, none⟩)) (fun _ => rfl) hS.out ?_
        simp only [Act.put, List.getElem_toArray, List.getElem_cons_succ, List.getElem_cons_zero, List.setIfInBounds_toArray, List.set_cons_zero, List.set_cons_succ]
        refine reg_load1 (i := 5) rfl (by kernel_rfl) (by kernel_rfl) (by kernel_rfl) (fun _ _ _ _ h => h) rfl 3 _ rfl ⟨C, 2, none⟩ rfl _ Try.underlying3 rfl (.int .i64 go) (fun w' z => hRd.out w' z 2 _ rfl) hS.out ?_
        simp only [Act.put, List.getElem_toArray, List.getElem_cons_succ, List.getElem_cons_zero, List.setIfInBounds_toArray, List.set_cons_zero, List.set_cons_succ]
        refine reg_move (i := 6) rfl (by kernel_rfl) (by kernel_rfl) (by kernel_rfl) (fun _ _ _ _ h => h) rfl (.slice la n lc) (fun _ => rfl) hS.out ?_
        simp only [Act.put, List.getElem_toArray, List.getElem_cons_succ, List.getElem_cons_zero, List.setIfInBounds_toArray, List.set_cons_zero, List.set_cons_succ]
        refine reg_move (i := 7) rfl (by kernel_rfl) (by kernel_rfl) (by kernel_rfl) (fun _ _ _ _ h => h) rfl (.pointer (some ⟨C, 3, none⟩)) (fun _ => rfl) hS.out ?_
        simp only [Act.put, List.getElem_toArray, List.getElem_cons_succ, List.getElem_cons_zero, List.setIfInBounds_toArray, List.set_cons_zero, List.set_cons_succ]
        refine reg_load1 (i := 8) rfl (by kernel_rfl) (by kernel_rfl) (by kernel_rfl) (fun _ _ _ _ h => h) rfl 3 _ rfl ⟨C, 3, none⟩ rfl _ Try.underlying3 rfl (.int .i64 (ev : Int)) (fun w' z => hRd.out w' z 3 _ rfl) hS.out ?_
        simp only [Act.put, List.getElem_toArray, List.getElem_cons_succ, List.getElem_cons_zero, List.setIfInBounds_toArray, List.set_cons_zero, List.set_cons_succ]
        refine reg_ca2G (i := 9) (j := 11) (by kernel_rfl) rfl rfl rfl rfl 29 _ _ _ _ rfl (.slice la n lc) (.int .i64 (ev : Int)) rfl rfl (cf_fn Try.func29 (by kernel_rfl) (by kernel_rfl) _ _) _ (cC.out _ hS.out) ?_ (wpList_alloc_big rfl 106 rfl zeroKd (wpList_nil (And.intro (bthen hS.out (boxed _ _)) fun _ => ?_)))
        · rintro e X4 ⟨rfl, hb4⟩
          have hS4 : Hid (Below X1.heap.size X1 X4) := bthen hS.out hb4
          refine ⟨_, rfl, hS4.out, fun _ => ?_⟩
          simp only [Act.put, List.getElem_toArray, List.getElem_cons_succ, List.getElem_cons_zero, List.setIfInBounds_toArray, List.set_cons_zero, List.set_cons_succ]
          refine reg_move (i := 10) rfl (by kernel_rfl) (by kernel_rfl) (by kernel_rfl) (fun _ _ _ _ h => h) rfl (.agg #[.int .i64 fr, .int .i64 tw, .int .i64 go, .bool (hf (ev * 4)), .bool (hf (ev * 4 + 1)), .bool (hf (ev * 4 + 2)), .bool (hf (ev * 4 + 3))]) (fun wx => by unfold execOp; refine run_value_of (Eq.trans (congrArg (fun v => (Instr.build 106 v).run Try.prog wx) (?_ : _ = #[(0, .int .i64 fr), (1, .int .i64 tw), (2, .int .i64 go), (3, .agg #[.bool (hf (ev * 4)), .bool (hf (ev * 4 + 1)), .bool (hf (ev * 4 + 2)), .bool (hf (ev * 4 + 3))])])) (bld_kd fr tw go (hf (ev * 4)) (hf (ev * 4 + 1)) (hf (ev * 4 + 2)) (hf (ev * 4 + 3)) wx)); first | rfl | kernel_rfl | (simp; rfl)) hS4.out ?_
          simp only [Act.put, List.getElem_toArray, List.getElem_cons_succ, List.getElem_cons_zero, List.setIfInBounds_toArray, List.set_cons_zero, List.set_cons_succ]
          refine reg_one (i := 11) (by kernel_rfl) rfl rfl (wpList_alloc_big rfl 106 rfl zeroKd (wpList_nil (And.intro (bthen hS4.out (boxed _ _)) fun _ => ?_)))
          simp only [Act.put, List.getElem_toArray, List.getElem_cons_succ, List.getElem_cons_zero, List.setIfInBounds_toArray, List.set_cons_zero, List.set_cons_succ]
          refine reg_one (i := 12) (by kernel_rfl) rfl rfl (wpList_store_row rfl 106 _ _ rfl X4.heap.size #[.int .i64 fr, .int .i64 tw, .int .i64 go, .bool (hf (ev * 4)), .bool (hf (ev * 4 + 1)), .bool (hf (ev * 4 + 2)), .bool (hf (ev * 4 + 3))] rfl rfl _ _ (heap_alloc_new _ _) infoKd7 rfl (kd_oneX _ _ _ _ _ _ _) (wpList_nil (And.intro (below_setRow (bthen hS4.out (boxed _ _)) hS4.out.size _) fun _ => ?_)))
          simp only [Act.put, List.getElem_toArray, List.getElem_cons_succ, List.getElem_cons_zero, List.setIfInBounds_toArray, List.set_cons_zero, List.set_cons_succ]
          refine wpAnyH_done (by kernel_rfl) (NoPanic.normal ?_) _
          have t2 : Hid (Below X1.heap.size X1 (World.setRow (X4.alloc (.cells #[.int .i64 0, .int .i64 0, .int .i64 0, .bool false, .bool false, .bool false, .bool false] 106)) X4.heap.size #[.int .i64 fr, .int .i64 tw, .int .i64 go, .bool (hf (ev * 4)), .bool (hf (ev * 4 + 1)), .bool (hf (ev * 4 + 2)), .bool (hf (ev * 4 + 3))]) ∧ (World.setRow (X4.alloc (.cells #[.int .i64 0, .int .i64 0, .int .i64 0, .bool false, .bool false, .bool false, .bool false] 106)) X4.heap.size #[.int .i64 fr, .int .i64 tw, .int .i64 go, .bool (hf (ev * 4)), .bool (hf (ev * 4 + 1)), .bool (hf (ev * 4 + 2)), .bool (hf (ev * 4 + 3))]).heap[X4.heap.size]? = some (objKd ⟨fr, tw, ⟨go, hf (ev * 4), hf (ev * 4 + 1), hf (ev * 4 + 2), hf (ev * 4 + 3)⟩⟩) ∧ X1.heap.size ≤ X4.heap.size) := ⟨below_setRow (bthen hS4.out (boxed _ _)) hS4.out.size _, setRow_heap _ _ _ _ _ _ (heap_alloc_new _ _), hS4.out.size⟩
          generalize World.setRow (X4.alloc (.cells #[.int .i64 0, .int .i64 0, .int .i64 0, .bool false, .bool false, .bool false, .bool false] 106)) X4.heap.size #[.int .i64 fr, .int .i64 tw, .int .i64 go, .bool (hf (ev * 4)), .bool (hf (ev * 4 + 1)), .bool (hf (ev * 4 + 2)), .bool (hf (ev * 4 + 3))] = Y3 at *
          generalize X4.heap.size = D at *
          go_wp2_with fail
          go_meet
          case rel => exact ⟨D, rfl, t2.out⟩
        · simp only [Act.put, List.getElem_toArray, List.getElem_cons_succ, List.getElem_cons_zero, List.setIfInBounds_toArray, List.set_cons_zero, List.set_cons_succ]
          refine reg_call2 (i := 9) (by kernel_rfl) rfl rfl 29 _ _ _ _ rfl (.slice la n lc) (.int .i64 (ev : Int)) rfl rfl (cf_fn Try.func29 (by kernel_rfl) (by kernel_rfl) _ _) _ (cC.out _ (bthen hS.out (boxed _ _))) ?_
          rintro e X4 ⟨rfl, hb4⟩
          have hS4 : Hid (Below X1.heap.size X1 X4 ∧ X4.heap[X1.drew.heap.size]? = some (.cells #[.int .i64 0, .int .i64 0, .int .i64 0, .bool false, .bool false, .bool false, .bool false] 106)) := ⟨bthen (bthen hS.out (boxed _ _)) hb4, blk_onG (heap_alloc_new _ _) hb4⟩
          refine ⟨_, rfl, hS4.out.1, fun _ => ?_⟩
          simp only [Act.put, List.getElem_toArray, List.getElem_cons_succ, List.getElem_cons_zero, List.setIfInBounds_toArray, List.set_cons_zero, List.set_cons_succ]
          refine reg_move (i := 10) rfl (by kernel_rfl) (by kernel_rfl) (by kernel_rfl) (fun _ _ _ _ h => h) rfl (.agg #[.int .i64 fr, .int .i64 tw, .int .i64 go, .bool (hf (ev * 4)), .bool (hf (ev * 4 + 1)), .bool (hf (ev * 4 + 2)), .bool (hf (ev * 4 + 3))]) (fun wx => by unfold execOp; refine run_value_of (Eq.trans (congrArg (fun v => (Instr.build 106 v).run Try.prog wx) (?_ : _ = #[(0, .int .i64 fr), (1, .int .i64 tw), (2, .int .i64 go), (3, .agg #[.bool (hf (ev * 4)), .bool (hf (ev * 4 + 1)), .bool (hf (ev * 4 + 2)), .bool (hf (ev * 4 + 3))])])) (bld_kd fr tw go (hf (ev * 4)) (hf (ev * 4 + 1)) (hf (ev * 4 + 2)) (hf (ev * 4 + 3)) wx)); first | rfl | kernel_rfl | (simp; rfl)) hS4.out.1 ?_
          simp only [Act.put, List.getElem_toArray, List.getElem_cons_succ, List.getElem_cons_zero, List.setIfInBounds_toArray, List.set_cons_zero, List.set_cons_succ]
          refine reg_one (i := 12) (by kernel_rfl) rfl rfl (wpList_store_row rfl 106 _ _ rfl X1.drew.heap.size #[.int .i64 fr, .int .i64 tw, .int .i64 go, .bool (hf (ev * 4)), .bool (hf (ev * 4 + 1)), .bool (hf (ev * 4 + 2)), .bool (hf (ev * 4 + 3))] rfl rfl _ _ hS4.out.2 infoKd7 rfl (kd_oneX _ _ _ _ _ _ _) (wpList_nil (And.intro (below_setRow hS4.out.1 hS.out.size _) fun _ => ?_)))
          simp only [Act.put, List.getElem_toArray, List.getElem_cons_succ, List.getElem_cons_zero, List.setIfInBounds_toArray, List.set_cons_zero, List.set_cons_succ]
          refine wpAnyH_done (by kernel_rfl) (NoPanic.normal ?_) _
          have t2 : Hid (Below X1.heap.size X1 (World.setRow X4 X1.drew.heap.size #[.int .i64 fr, .int .i64 tw, .int .i64 go, .bool (hf (ev * 4)), .bool (hf (ev * 4 + 1)), .bool (hf (ev * 4 + 2)), .bool (hf (ev * 4 + 3))]) ∧ (World.setRow X4 X1.drew.heap.size #[.int .i64 fr, .int .i64 tw, .int .i64 go, .bool (hf (ev * 4)), .bool (hf (ev * 4 + 1)), .bool (hf (ev * 4 + 2)), .bool (hf (ev * 4 + 3))]).heap[X1.drew.heap.size]? = some (objKd ⟨fr, tw, ⟨go, hf (ev * 4), hf (ev * 4 + 1), hf (ev * 4 + 2), hf (ev * 4 + 3)⟩⟩) ∧ X1.heap.size ≤ X1.drew.heap.size) := ⟨below_setRow hS4.out.1 hS.out.size _, setRow_heap _ _ _ _ _ _ hS4.out.2, hS.out.size⟩
          generalize World.setRow X4 X1.drew.heap.size #[.int .i64 fr, .int .i64 tw, .int .i64 go, .bool (hf (ev * 4)), .bool (hf (ev * 4 + 1)), .bool (hf (ev * 4 + 2)), .bool (hf (ev * 4 + 3))] = Y3 at *
          generalize X1.drew.heap.size = D at *
          go_wp2_with fail
          go_meet
          case rel => exact ⟨D, rfl, t2.out⟩
      case rest =>
        obtain ⟨D, rfl, hC⟩ := hcut
        generalize wc = X5 at *
        have hDf : Hid (D ∉ blk a) := fun q => by
          have h1 := (blk_lt hst1.out.1.k.o _ q).2
          have h2 := hC.out.2.2
          omega
        have hst5 : Hid (KdR w X5 E ea ec L a c) := hst1.out.1.later hC.out.1
        obtain ⟨x, hx⟩ : ∃ x : Kd, (⟨fr, tw, ⟨go, hf (ev * 4), hf (ev * 4 + 1), hf (ev * 4 + 2), hf (ev * 4 + 3)⟩⟩ : Kd) = x := ⟨_, rfl⟩
        have hstp2 : Hid (kindsL hf (E.take (j + 1)) = addK x L) := by (show _ = _; rw [hstp.out, ← hx]; rfl)
        have hI5 : Hid (KdR w X5 E ea ec L a c ∧ X5.heap[D]? = some (objKd x)) := ⟨hst5.out, by (rw [← hx]; exact hC.out.2.1)⟩
        clear hC hst1 hst5 hx hstp
        go_wp2_with fail
        go_loopw [7, 30] (fun u7 u wr => ∃ i : Nat, i ≤ L.length ∧ u = .int .i64 (i : Int) ∧ ∃ t : Bool, u7 = .bool t ∧ Hid (t = decide (x ∈ L.take i)) ∧ Hid (KdR w wr E ea ec L a c ∧ wr.heap[D]? = some (objKd x))) (fun _ u _ => L.length - (intOf u).toNat)
        case atStart => exact ⟨0, Nat.zero_le _, rfl, false, rfl, (by (show _ = _; rw [List.take_zero]; simp)), hI5.out⟩
        case round =>
          obtain ⟨i, hi, rfl, t, rfl, ht, hq⟩ := hrel
          clear hI5
          have hLI : (L.length : Int) ≤ 1024 := by (have := hLl.out; omega)
          by_cases hil : i < L.length
          · have hiI : (i : Int) < L.length := by omega
            obtain ⟨y, hy⟩ : ∃ y, L[i]? = some y := ⟨_, List.getElem?_eq_getElem hil⟩
            obtain ⟨b2, o2, x2, l2, r2⟩ := kd_ix (own_rows hq.out.1.k.o (kd_len L)) i y hy
            have hmem : Hid (decide (x ∈ L.take (i + 1)) = (t || eqKd x y)) := by (rw [ht.out]; exact mem_step hy)
            obtain ⟨yf, yt, yg, s0, s1, s2, s3⟩ := y
            obtain ⟨xf, xt, xg, q0, q1, q2, q3⟩ := x
            have hrg2 : Hid (wr.rangeAt b2 o2 [.int .i64 yf, .int .i64 yt, .int .i64 yg, .bool s0, .bool s1, .bool s2, .bool s3]) := r2
            have hst6 : Hid (KdR w (wr.alloc (objKd ⟨yf, yt, ⟨yg, s0, s1, s2, s3⟩⟩)) E ea ec L a c ∧ (wr.alloc (objKd ⟨yf, yt, ⟨yg, s0, s1, s2, s3⟩⟩)).heap[D]? = some (objKd ⟨xf, xt, ⟨xg, q0, q1, q2, q3⟩⟩) ∧ (wr.alloc (objKd ⟨yf, yt, ⟨yg, s0, s1, s2, s3⟩⟩)).heap[wr.heap.size]? = some (objKd ⟨yf, yt, ⟨yg, s0, s1, s2, s3⟩⟩)) := ⟨hq.out.1.later (boxed _ _), blk_onG hq.out.2 (boxed _ _), heap_alloc_new _ _⟩
            clear r2 l2 hy hq ht
            go_upto_region 10 with (first
              | (refine wpList_load_mid rfl 106 _ rfl b2 o2 rfl [.int .i64 yf, .int .i64 yt, .int .i64 yg, .bool s0, .bool s1, .bool s2, .bool s3] _ hrg2.out huK.out rfl infoKd7 ?_)
              | (refine wpList_store_new rfl 106 _ _ rfl rfl _ #[.int .i64 yf, .int .i64 yt, .int .i64 yg, .bool s0, .bool s1, .bool s2, .bool s3] rfl (by kernel_rfl) rfl (kd_oneX _ _ _ _ _ _ _) ?_))
            change Code.wp _ _ _ _ (wr.alloc (objKd ⟨yf, yt, ⟨yg, s0, s1, s2, s3⟩⟩))
            generalize wr.alloc (objKd ⟨yf, yt, ⟨yg, s0, s1, s2, s3⟩⟩) = X6 at *
            generalize wr.heap.size = G at *
            clear hrg2 x2
            cases t with
            | true =>
              go_wp2
              go_roundw
              case rel => exact ⟨i + 1, by omega, by go_num, true, rfl, (by (show _ = _; rw [hmem.out]; rfl)), hst6.out.1, hst6.out.2.1⟩
              case measure => simp [intOf]; omega
            | false =>
              have heq : ∀ wx, (binOp .eql 106 (.agg #[.int .i64 yf, .int .i64 yt, .int .i64 yg, .bool s0, .bool s1, .bool s2, .bool s3]) (.agg #[.int .i64 xf, .int .i64 xt, .int .i64 xg, .bool q0, .bool q1, .bool q2, .bool q3])).run Try.prog wx = .ok (.bool (eqKd ⟨yf, yt, ⟨yg, s0, s1, s2, s3⟩⟩ ⟨xf, xt, ⟨xg, q0, q1, q2, q3⟩⟩)) wx := fun wx => run_eqKd ⟨yf, yt, ⟨yg, s0, s1, s2, s3⟩⟩ ⟨xf, xt, ⟨xg, q0, q1, q2, q3⟩⟩ wx
              obtain ⟨t, ht⟩ : ∃ t, eqKd ⟨yf, yt, ⟨yg, s0, s1, s2, s3⟩⟩ ⟨xf, xt, ⟨xg, q0, q1, q2, q3⟩⟩ = t := ⟨_, rfl⟩
              rw [ht] at heq
              have hmem2 : Hid (decide (⟨xf, xt, ⟨xg, q0, q1, q2, q3⟩⟩ ∈ L.take (i + 1)) = t) := by (show _ = _; rw [hmem.out, eqKd_comm, ht]; rfl)
              have rG : Hid (X6.rangeAt G 0 [.int .i64 yf, .int .i64 yt, .int .i64 yg, .bool s0, .bool s1, .bool s2, .bool s3] ∧ X6.rangeAt D 0 [.int .i64 xf, .int .i64 xt, .int .i64 xg, .bool q0, .bool q1, .bool q2, .bool q3]) := ⟨rng_blkG hst6.out.2.2, rng_blkG hst6.out.2.1⟩
              clear hmem ht
              go_wp2_with (first
                | ((with_reducible refine at_loadG 106 (.tmp 9) rfl ?_); refine stopG_out ?_; refine wpList_load_g rfl 106 _ rfl G 0 rfl [.int .i64 yf, .int .i64 yt, .int .i64 yg, .bool s0, .bool s1, .bool s2, .bool s3] _ rG.out.1 huK.out rfl infoKd7 ?_)
                | ((with_reducible refine at_loadG 106 (.tmp 6) rfl ?_); refine stopG_out ?_; refine wpList_load_g rfl 106 _ rfl D 0 rfl [.int .i64 xf, .int .i64 xt, .int .i64 xg, .bool q0, .bool q1, .bool q2, .bool q3] _ rG.out.2 huK.out rfl infoKd7 ?_))
              go_roundw
              case rel => exact ⟨i + 1, by omega, by go_num, t, rfl, hmem2.out.symm, hst6.out.1, hst6.out.2.1⟩
              case measure => simp [intOf]; omega
          · have hie : i = L.length := by omega
            have hiI : ¬ (i : Int) < L.length := by omega
            rw [hie, List.take_length] at ht
            cases t with
            | true =>
              have hx9 : Hid (kindsL hf (E.take (j + 1)) = L) := by (show _ = _; rw [hstp2.out]; unfold addK; rw [if_pos (of_decide_eq_true ht.out.symm)])
              go_wp2
              go_roundw
              case rel => exact ⟨j + 1, a, L, c, by omega, by go_num, rfl, hq.out.1, hx9.out.symm⟩
              case measure => simp [intOf]; omega
            | false =>
              have hx9 : Hid (kindsL hf (E.take (j + 1)) = L ++ [x]) := by (show _ = _; rw [hstp2.out]; unfold addK; rw [if_neg (of_decide_eq_false ht.out.symm)])
              obtain ⟨xf, xt, xg, q0, q1, q2, q3⟩ := x
              have rD : Hid (wr.rangeAt D 0 [.int .i64 xf, .int .i64 xt, .int .i64 xg, .bool q0, .bool q1, .bool q2, .bool q3]) := rng_blkG hq.out.2
              go_wp2_with (first
                | ((with_reducible refine at_loadG 106 (.tmp 6) rfl ?_); refine stopG_out ?_; refine wpList_load_mid rfl 106 _ rfl D 0 rfl [.int .i64 xf, .int .i64 xt, .int .i64 xg, .bool q0, .bool q1, .bool q2, .bool q3] _ rD.out huK.out rfl infoKd7 ?_)
                | (refine wpList_buildSlice rfl 81 106 1 _ rfl #[.int .i64 xf, .int .i64 xt, .int .i64 xg, .bool q0, .bool q1, .bool q2, .bool q3] iK _ Try.underlying81 hiK.out hzK.out (by rw [hsK.out]; omega) (by rw [hsK.out]; omega) (by simp only [hsK.out]; kernel_rfl) ?_)
                | (at_builtin; (refine wpList_app1 rfl (.tmp 43) (.tmp 45) 81 rfl w.heap.size 106 iK _ 7 32 Try.underlying81 hiK.out hzK.out hsK.out hbK.out rfl (by decide) a c (L.map Kd.cells) (by rw [List.length_map]; rfl) hq.out.1.k.o [.int .i64 xf, .int .i64 xt, .int .i64 xg, .bool q0, .bool q1, .bool q2, .bool q3] rfl rfl (by simp [Value.oneCell']) (by rw [List.length_map]; have := hLl.out; unfold maxLen; omega) (by rw [List.length_map]; have := hLl.out; omega) hq.out.1.k.b.size ?_); intro va vc Z3 hgr; rw [List.length_map]))
              have hF : Hid (KdR w Z3 E ea ec (L ++ [⟨xf, xt, ⟨xg, q0, q1, q2, q3⟩⟩]) va vc) := hq.out.1.grow hgr
              clear hgr
              go_roundw
              case rel => exact ⟨j + 1, va, L ++ [(⟨xf, xt, ⟨xg, q0, q1, q2, q3⟩⟩ : Kd)], vc, by omega, by go_num, by rw [List.length_append, List.length_singleton], hF.out, hx9.out.symm⟩
              case measure => simp [intOf]; omega
    · have hje : j = E.length := by omega
      have hjI : ¬ (j : Int) < E.length := by omega
      rw [hje, List.take_length] at hL
      have hLe := hL.out
      subst hLe
      go_wp2
      go_ret
      exact ⟨a, c, rfl, hst.out.k⟩
end
end Go.Proofs.Ytdfnmlcpimiboaa.pg
