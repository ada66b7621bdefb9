/- Histories of operations on one thing, and the first order that fits: plain mathematics. -/
import Derived.WalkKit
import Derived.ProofKit
import Derived.OpenShut
import Derived.Deep.Slices
import Derived.ChangeSame
import Derived.WalkSmall
import Derived.Lib.SmallJoins
import Derived.Test.YtklpifammbnldaaProg
import Derived.WalkSpells
namespace Go.Proofs.Ytklpifammbnldaa.pg
open Go.RowKit
set_option linter.unusedVariables false
/-- An operation. -/
structure Cl where
  go : Int
  d : Int
  inn : Int
  out : Int
  em : Bool
  bg : Int
  en : Int
def Cl.pend (x : Cl) : Bool := x.en == -1
def takesB (d : Int) : Bool := d == 2 || d == 3 || d == 4
def tellsB (d : Int) : Bool := d == 1 || d == 5
def doesB (k d : Int) : Bool := (k == 1 && (d == 1 || d == 2)) || (k == 2 && (d == 1 || d == 3)) || ((k == 3 || k == 4) && (d == 4 || d == 5))
/-- Ended ahead of the other one's begin. -/
def endB (x y : Cl) : Bool := !x.pend && decide (x.en < y.bg)
def turnB (x y : Cl) : Bool := x.go == y.go && decide (x.bg < y.bg)
def rtB (x : Cl) : Bool := decide (0 ≤ x.bg) && decide (x.bg ≤ 1000000) && (x.pend || decide (x.bg < x.en) && decide (x.en ≤ 1000000))
def rvB (x : Cl) : Bool := (x.inn == 0 || takesB x.d) && (!x.em || x.d == 5 && !x.pend) && (x.out == 0 || tellsB x.d && !x.em && !x.pend)
def rcB (x : Cl) : Bool := decide (0 ≤ x.go) && decide (x.go < 6) && rtB x && rvB x
def momB (x y : Cl) : Bool := x.bg == y.bg || x.bg == y.en || x.en == y.bg || (x.en == y.en && !x.pend)
def pairB (x y : Cl) : Bool := momB x y || (x.go == y.go && !endB x y && !endB y x)
/-- A right history. -/
structure RightH (k : Int) (h : List Cl) : Prop where
  kd : 1 ≤ k ∧ k ≤ 4
  n : h.length ≤ 8
  c : ∀ x ∈ h, doesB k x.d = true ∧ rcB x = true
  p : h.Pairwise fun y x => pairB x y = false
/-- What is in the thing behind an operation, and what it tells. -/
def actC (k d : Int) (c : List Int) (inn : Int) : List Int × Int × Bool :=
  if d = 1 then (c, c.getD 0 0, false)
  else if d = 2 then ([inn], 0, false)
  else if d = 3 then ([wrap64 (c.getD 0 0 + inn)], 0, false)
  else if d = 4 then (c ++ [inn], 0, false)
  else if c = [] then (c, 0, true)
  else if k = 3 then (c.tail, c.getD 0 0, false)
  else (c.dropLast, c.getD (c.length - 1) 0, false)
def nxtC (k : Int) (c : List Int) (x : Cl) : List Int := (actC k x.d c x.inn).1
def fitC (k : Int) (c : List Int) (x : Cl) : Bool := x.pend || ((actC k x.d c x.inn).2.1 == x.out && ((actC k x.d c x.inn).2.2 == x.em))
def firstC (k : Int) : List Int := if k = 1 ∨ k = 2 then [0] else []
def cl0 : Cl := ⟨0, 0, 0, 0, false, 0, 0⟩
def hf (h : List Cl) (i : Nat) : Cl := h.getD i cl0
theorem hf_at {h : List Cl} {i : Nat} (hi : i < h.length) : h[i]? = some (hf h i) := by
  unfold hf
  rw [List.getD_eq_getElem?_getD, List.getElem?_eq_getElem hi]; rfl
theorem hf_mem {h : List Cl} {i : Nat} (hi : i < h.length) : hf h i ∈ h := List.mem_of_getElem? (hf_at hi)
theorem RightH.pair {k : Int} {h : List Cl} (r : RightH k h) {i j : Nat} (hj : j < i) (hi : i < h.length) : pairB (hf h i) (hf h j) = false := by
  have := List.pairwise_iff_getElem.mp r.p j i (by omega) hi hj
  have e1 : h[i] = hf h i := by have := hf_at hi; rw [List.getElem?_eq_getElem hi] at this; exact Option.some.inj this
  have e2 : h[j] = hf h j := by have := hf_at (show j < h.length by omega); rw [List.getElem?_eq_getElem (by omega)] at this; exact Option.some.inj this
  rw [e1, e2] at this
  exact this
theorem pair_sym {x y : Cl} (h : pairB x y = false) (hb : (x.en == y.en && !x.pend) = (y.en == x.en && !y.pend)) : pairB y x = false := by
  unfold pairB momB at *
  simp only [Bool.or_eq_false_iff, Bool.and_eq_false_iff, beq_eq_false_iff_ne, ne_eq] at *
  obtain ⟨⟨⟨⟨h1, h2⟩, h3⟩, h4⟩, h5⟩ := h
  refine ⟨⟨⟨⟨fun e => h1 e.symm, fun e => h3 e.symm⟩, fun e => h2 e.symm⟩, ?_⟩, ?_⟩
  · rcases h4 with h4 | h4
    · exact .inl fun e => h4 e.symm
    · by_cases e : y.en = x.en
      · right
        unfold Cl.pend at *
        rw [e]; exact h4
      · exact .inl e
  · rcases h5 with (h5 | h5) | h5
    · exact .inl (.inl fun e => h5 e.symm)
    · exact .inr h5
    · exact .inl (.inr h5)
theorem end_sym (x y : Cl) : (x.en == y.en && !x.pend) = (y.en == x.en && !y.pend) := by
  unfold Cl.pend
  by_cases e : x.en = y.en
  · rw [e]
  · have e' : ¬ y.en = x.en := fun q => e q.symm
    rw [beq_eq_false_iff_ne.mpr e, beq_eq_false_iff_ne.mpr e']
    rfl
theorem RightH.pair2 {k : Int} {h : List Cl} (r : RightH k h) {i j : Nat} (hne : i ≠ j) (hi : i < h.length) (hj : j < h.length) : pairB (hf h i) (hf h j) = false := by
  rcases Nat.lt_or_gt_of_ne hne with q | q
  · exact pair_sym (r.pair q hj) (end_sym _ _)
  · exact r.pair q hi
/-- How many of the first n are done. -/
def cntD (f : Nat → Bool) : Nat → Nat
  | 0 => 0
  | n + 1 => cntD f n + (if f n then 1 else 0)
theorem cntD_le (f : Nat → Bool) : ∀ n, cntD f n ≤ n
  | 0 => Nat.le_refl _
  | n + 1 => by have := cntD_le f n; unfold cntD; split <;> omega
def setD (f : Nat → Bool) (i : Nat) : Nat → Bool := fun b => if b = i then true else f b
theorem cntD_same {f g : Nat → Bool} : ∀ {n : Nat}, (∀ b, b < n → f b = g b) → cntD f n = cntD g n
  | 0, _ => rfl
  | n + 1, h => by
    unfold cntD
    rw [cntD_same fun b hb => h b (by omega), h n (by omega)]
theorem cntD_set {f : Nat → Bool} {i : Nat} (hf : f i = false) : ∀ {n : Nat}, i < n → cntD (setD f i) n = cntD f n + 1
  | 0, h => absurd h (by omega)
  | n + 1, h => by
    unfold cntD
    by_cases e : i = n
    · subst e
      have : cntD (setD f i) i = cntD f i := cntD_same fun b hb => by unfold setD; rw [if_neg (by omega)]
      rw [this, hf]
      have : setD f i i = true := by unfold setD; rw [if_pos rfl]
      rw [this]
      rfl
    · rw [cntD_set hf (by omega)]
      have : setD f i n = f n := by unfold setD; rw [if_neg (by omega)]
      rw [this]
      omega
/-- All that are not pending are done. -/
def wholeB (h : List Cl) (f : Nat → Bool) : Bool := (List.range h.length).all fun i => (hf h i).pend || f i
/-- May an operation come next? -/
def mayB (rel : Cl → Cl → Bool) (h : List Cl) (f : Nat → Bool) (i : Nat) : Bool := !f i && (List.range h.length).all fun j => !rel (hf h j) (hf h i) || f j
/-- The first of some places from which it goes on. -/
def firstOf (g : Nat → Option (List Nat)) (n : Nat) : Nat → Option (List Nat)
  | 0 => none
  | m + 1 => match g (n - (m + 1)) with
    | some r => some ((n - (m + 1)) :: r)
    | none => firstOf g n m
/-- The rest of the first order. -/
def fst0 (k : Int) (rel : Cl → Cl → Bool) (h : List Cl) : Nat → (Nat → Bool) → List Int → Option (List Nat)
  | 0, f, _ => if wholeB h f then some [] else none
  | m + 1, f, c => if wholeB h f then some [] else firstOf (fun i => if mayB rel h f i && fitC k c (hf h i) then fst0 k rel h m (setD f i) (nxtC k c (hf h i)) else none) h.length h.length
/-- From place i on: what a search of the places i to n - 1 tells. -/
def fstFrom (k : Int) (rel : Cl → Cl → Bool) (h : List Cl) (m : Nat) (f : Nat → Bool) (c : List Int) (r : Nat) : Option (List Nat) := firstOf (fun i => if mayB rel h f i && fitC k c (hf h i) then fst0 k rel h m (setD f i) (nxtC k c (hf h i)) else none) h.length r
theorem fst0_whole {k : Int} {rel : Cl → Cl → Bool} {h : List Cl} {f : Nat → Bool} (hw : wholeB h f = true) (m : Nat) (c : List Int) : fst0 k rel h m f c = some [] := by
  cases m <;> simp [fst0, hw]
theorem fst0_part {k : Int} {rel : Cl → Cl → Bool} {h : List Cl} {f : Nat → Bool} (hw : wholeB h f = false) (m : Nat) (c : List Int) : fst0 k rel h (m + 1) f c = fstFrom k rel h m f c h.length := by
  simp [fst0, hw, fstFrom]
theorem fstFrom_zero {k : Int} {rel : Cl → Cl → Bool} {h : List Cl} {f : Nat → Bool} (m : Nat) (c : List Int) : fstFrom k rel h m f c 0 = none := rfl
theorem fstFrom_skip {k : Int} {rel : Cl → Cl → Bool} {h : List Cl} {f : Nat → Bool} {m i : Nat} {c : List Int} (hi : i < h.length) (hs : (mayB rel h f i && fitC k c (hf h i)) = false) : fstFrom k rel h m f c (h.length - i) = fstFrom k rel h m f c (h.length - (i + 1)) := by
  obtain ⟨q, hq⟩ : ∃ q, h.length - i = q + 1 := ⟨h.length - i - 1, by omega⟩
  have e1 : h.length - (i + 1) = q := by omega
  have e2 : h.length - (q + 1) = i := by omega
  rw [hq, e1]
  unfold fstFrom
  rw [firstOf, e2, hs]
  rfl
theorem fstFrom_go {k : Int} {rel : Cl → Cl → Bool} {h : List Cl} {f : Nat → Bool} {m i : Nat} {c : List Int} (hi : i < h.length) (hs : (mayB rel h f i && fitC k c (hf h i)) = true) : fstFrom k rel h m f c (h.length - i) = match fst0 k rel h m (setD f i) (nxtC k c (hf h i)) with
    | some r => some (i :: r)
    | none => fstFrom k rel h m f c (h.length - (i + 1)) := by
  obtain ⟨q, hq⟩ : ∃ q, h.length - i = q + 1 := ⟨h.length - i - 1, by omega⟩
  have e1 : h.length - (i + 1) = q := by omega
  have e2 : h.length - (q + 1) = i := by omega
  rw [hq, e1]
  unfold fstFrom
  rw [firstOf, e2, hs]
  rfl
/-- Nothing but the first n places of what is done matters. -/
theorem wholeB_same {h : List Cl} {f g : Nat → Bool} (e : ∀ b, b < h.length → f b = g b) : wholeB h f = wholeB h g := by
  unfold wholeB
  rw [Bool.eq_iff_iff, List.all_eq_true, List.all_eq_true]
  constructor <;> intro q i hi
  · rw [← e i (by simpa using hi)]; exact q i hi
  · rw [e i (by simpa using hi)]; exact q i hi
theorem mayB_same {rel : Cl → Cl → Bool} {h : List Cl} {f g : Nat → Bool} (e : ∀ b, b < h.length → f b = g b) {i : Nat} (hi : i < h.length) : mayB rel h f i = mayB rel h g i := by
  unfold mayB
  rw [e i hi]
  congr 1
  rw [Bool.eq_iff_iff, List.all_eq_true, List.all_eq_true]
  constructor <;> intro q j hj
  · rw [← e j (by simpa using hj)]; exact q j hj
  · rw [e j (by simpa using hj)]; exact q j hj
theorem firstOf_same {g g' : Nat → Option (List Nat)} {n : Nat} (e : ∀ i, i < n → g i = g' i) : ∀ {m : Nat}, m ≤ n → firstOf g n m = firstOf g' n m
  | 0, _ => rfl
  | m + 1, hm => by
    rw [firstOf, firstOf, e _ (by omega), firstOf_same e (by omega)]
theorem fst0_same {k : Int} {rel : Cl → Cl → Bool} {h : List Cl} : ∀ {m : Nat} {f g : Nat → Bool} {c : List Int}, (∀ b, b < h.length → f b = g b) → fst0 k rel h m f c = fst0 k rel h m g c
  | 0, f, g, c, e => by rw [fst0, fst0, wholeB_same e]
  | m + 1, f, g, c, e => by
    rw [fst0, fst0, wholeB_same e]
    congr 1
    refine firstOf_same (fun i hi => ?_) (Nat.le_refl _)
    rw [mayB_same e hi]
    congr 1
    exact fst0_same fun b hb => by
      unfold setD
      split
      · rfl
      · exact e b hb
theorem may_not {rel : Cl → Cl → Bool} {h : List Cl} {f : Nat → Bool} {i : Nat} (e : mayB rel h f i = true) : f i = false := by
  unfold mayB at e
  rw [Bool.and_eq_true] at e
  simpa using e.1
/-- More fuel than is left to be done changes nothing. -/
theorem fst0_fuel {k : Int} {rel : Cl → Cl → Bool} {h : List Cl} : ∀ {m m' : Nat} {f : Nat → Bool} {c : List Int}, h.length ≤ m + cntD f h.length → h.length ≤ m' + cntD f h.length → fst0 k rel h m f c = fst0 k rel h m' f c := by
  have all0 : ∀ {f : Nat → Bool}, h.length ≤ cntD f h.length → wholeB h f = true := by
    intro f e
    have : ∀ n, n ≤ cntD f n → ∀ i, i < n → f i = true := by
      intro n
      induction n with
      | zero => intro _ i hi; omega
      | succ n ih =>
        intro q i hi
        have hl := cntD_le f n
        unfold cntD at q
        cases hn : f n with
        | false => rw [hn] at q; simp at q; omega
        | true =>
          rw [hn] at q; simp at q
          by_cases ei : i = n
          · subst ei; exact hn
          · exact ih q i (by omega)
    unfold wholeB
    rw [List.all_eq_true]
    intro i hi
    rw [this _ e i (by simpa using hi), Bool.or_true]
  intro m
  induction m with
  | zero =>
    intro m' f c h1 h2
    have := all0 (f := f) (by omega)
    rw [fst0_whole this, fst0_whole this]
  | succ m ih =>
    intro m' f c h1 h2
    cases m' with
    | zero =>
      have := all0 (f := f) (by omega)
      rw [fst0_whole this, fst0_whole this]
    | succ m' =>
      rw [fst0, fst0]
      congr 1
      refine firstOf_same (fun i hi => ?_) (Nat.le_refl _)
      by_cases e : mayB rel h f i = true
      · have hs := cntD_set (may_not e) hi
        congr 1
        exact ih (by omega) (by omega)
      · rw [Bool.eq_false_iff.mpr e]
        simp
/-- The first order from there. -/
def fsB (k : Int) (rel : Cl → Cl → Bool) (h : List Cl) (f : Nat → Bool) (c : List Int) : Option (List Nat) := fst0 k rel h h.length f c
theorem fsB_of {k : Int} {rel : Cl → Cl → Bool} {h : List Cl} {m : Nat} {f : Nat → Bool} {c : List Int} (e : h.length ≤ m + cntD f h.length) : fst0 k rel h m f c = fsB k rel h f c := fst0_fuel e (by omega)
/-- From place i on. -/
def fromB (k : Int) (rel : Cl → Cl → Bool) (h : List Cl) (f : Nat → Bool) (c : List Int) (i : Nat) : Option (List Nat) := fstFrom k rel h h.length f c (h.length - i)
theorem fsB_whole {k : Int} {rel : Cl → Cl → Bool} {h : List Cl} {f : Nat → Bool} (hw : wholeB h f = true) (c : List Int) : fsB k rel h f c = some [] := fst0_whole hw _ _
theorem fsB_part {k : Int} {rel : Cl → Cl → Bool} {h : List Cl} {f : Nat → Bool} (hw : wholeB h f = false) (c : List Int) : fsB k rel h f c = fromB k rel h f c 0 := by
  rw [← fsB_of (m := h.length + 1) (by omega), fst0_part hw]
  rfl
theorem fromB_end {k : Int} {rel : Cl → Cl → Bool} {h : List Cl} {f : Nat → Bool} (c : List Int) : fromB k rel h f c h.length = none := by
  unfold fromB
  rw [Nat.sub_self]
  rfl
theorem fromB_skip {k : Int} {rel : Cl → Cl → Bool} {h : List Cl} {f : Nat → Bool} {i : Nat} {c : List Int} (hi : i < h.length) (hs : (mayB rel h f i && fitC k c (hf h i)) = false) : fromB k rel h f c i = fromB k rel h f c (i + 1) := fstFrom_skip hi hs
theorem fromB_hit {k : Int} {rel : Cl → Cl → Bool} {h : List Cl} {f : Nat → Bool} {i : Nat} {c : List Int} {r : List Nat} (hi : i < h.length) (hs : (mayB rel h f i && fitC k c (hf h i)) = true) (hr : fsB k rel h (setD f i) (nxtC k c (hf h i)) = some r) : fromB k rel h f c i = some (i :: r) := by
  unfold fromB
  rw [fstFrom_go hi hs, fsB_of (by omega), hr]
theorem fromB_miss {k : Int} {rel : Cl → Cl → Bool} {h : List Cl} {f : Nat → Bool} {i : Nat} {c : List Int} (hi : i < h.length) (hs : (mayB rel h f i && fitC k c (hf h i)) = true) (hr : fsB k rel h (setD f i) (nxtC k c (hf h i)) = none) : fromB k rel h f c i = fromB k rel h f c (i + 1) := by
  unfold fromB
  rw [fstFrom_go hi hs, fsB_of (by omega), hr]
/-- Of what was tried nothing that is as far leads to an order. -/
def vain (k : Int) (rel : Cl → Cl → Bool) (h : List Cl) (T : List ((Nat → Bool) × List Int)) (m : Nat) : Prop := ∀ q ∈ T, m ≤ cntD q.1 h.length → fsB k rel h q.1 q.2 = none
end Go.Proofs.Ytklpifammbnldaa.pg
/- Programs as plain data, where they lie in memory, and what is wrong with them: the data, no word of the program that is proved. -/
namespace Go.Proofs.Ytklpifammbnldaa.pg
open Go.ChangeShapes Go.WideShapes Go.ChangeAt Go.RowKit
set_option linter.unusedVariables false
/-- An instruction. -/
structure Ins where
  op : Int
  a : Int
  b : Int
  c : Int
  n : Int
/-- A case of a select. -/
structure Cas where
  send : Bool
  ch : Int
  reg : Int
  to : Int
/-- A select, and where its cases lie. -/
structure MSel where
  at_ : Option Addr
  cap : Nat
  cases : List Cas
  els : Int
/-- A function, and where its lists lie. -/
structure MFn where
  params : Int
  regs : Int
  ca : Option Addr
  ccap : Nat
  code : List Ins
  sa : Option Addr
  scap : Nat
  sels : List MSel
/-- A shared variable. -/
structure Vr where
  atomic : Bool
  init : Int
/-- A program, and where its lists lie. -/
structure MPr where
  va : Option Addr
  vcap : Nat
  vars : List Vr
  locks : Int
  cha : Option Addr
  chcap : Nat
  chans : List Int
  fa : Option Addr
  fcap : Nat
  fns : List MFn
/-- The same without places. -/
structure Sel where
  cases : List Cas
  els : Int
structure Fn where
  params : Int
  regs : Int
  code : List Ins
  sels : List Sel
structure Pr where
  vars : List Vr
  locks : Int
  chans : List Int
  fns : List Fn
def MSel.sel (s : MSel) : Sel := ⟨s.cases, s.els⟩
def MFn.fn (f : MFn) : Fn := ⟨f.params, f.regs, f.code, f.sels.map MSel.sel⟩
def MPr.pr (p : MPr) : Pr := ⟨p.vars, p.locks, p.chans, p.fns.map MFn.fn⟩
/-- Cells. -/
def Ins.cells (x : Ins) : List Value := [.int .i64 x.op, .int .i64 x.a, .int .i64 x.b, .int .i64 x.c, .int .i64 x.n]
def Cas.cells (x : Cas) : List Value := [.bool x.send, .int .i64 x.ch, .int .i64 x.reg, .int .i64 x.to]
def MSel.cells (x : MSel) : List Value := [.slice x.at_ x.cases.length x.cap, .int .i64 x.els]
def MFn.cells (x : MFn) : List Value := [.int .i64 x.params, .int .i64 x.regs, .slice x.ca x.code.length x.ccap, .slice x.sa x.sels.length x.scap]
def Vr.cells (x : Vr) : List Value := [.bool x.atomic, .int .i64 x.init]
def chCells (x : Int) : List Value := [.int .i64 x]
abbrev MSel.val (x : MSel) : Value := .agg #[.slice x.at_ x.cases.length x.cap, .int .i64 x.els]
abbrev Cas.val (x : Cas) : Value := .agg #[.bool x.send, .int .i64 x.ch, .int .i64 x.reg, .int .i64 x.to]
abbrev Ins.val (x : Ins) : Value := .agg #[.int .i64 x.op, .int .i64 x.a, .int .i64 x.b, .int .i64 x.c, .int .i64 x.n]
abbrev MFn.val (x : MFn) : Value := .agg #[.int .i64 x.params, .int .i64 x.regs, .slice x.ca x.code.length x.ccap, .slice x.sa x.sels.length x.scap]
abbrev MPr.val (p : MPr) : Value := .agg #[.slice p.va p.vars.length p.vcap, .int .i64 p.locks, .slice p.cha p.chans.length p.chcap, .slice p.fa p.fns.length p.fcap]
/-- Numbers of 64 bits. -/
def I64 (z : Int) : Prop := -9223372036854775808 ≤ z ∧ z ≤ 9223372036854775807
def Ins.wf (x : Ins) : Prop := I64 x.op ∧ I64 x.a ∧ I64 x.b ∧ I64 x.c ∧ I64 x.n
def Cas.wf (x : Cas) : Prop := I64 x.ch ∧ I64 x.reg ∧ I64 x.to
/-- Rows of k cells each, in memory, one behind the other. -/
def Rows (w : World) (k : Nat) (a : Option Addr) (cap : Nat) (L : List (List Value)) : Prop :=
  L.length ≤ cap ∧ cap ≤ 9223372036854775807 ∧ (a = none → L = [] ∧ cap = 0) ∧
    (L = [] ∨ ∃ b off, a = some ⟨b, off, none⟩ ∧ b < w.heap.size ∧ ∀ i row, L[i]? = some row → row.length = k ∧ ∀ j u, row[j]? = some u → w.cell? ⟨b, off + (i * k + j), none⟩ = some u)
theorem Rows.later {w w' : World} {k : Nat} {a : Option Addr} {cap : Nat} {L : List (List Value)} (h : Rows w k a cap L) (hb : Below w.heap.size w w') : Rows w' k a cap L := by
  obtain ⟨h1, h2, h3, h4⟩ := h
  refine ⟨h1, h2, h3, h4.imp_right fun ⟨b, off, ha, hlt, hc⟩ => ⟨b, off, ha, Nat.lt_of_lt_of_le hlt hb.size, fun i row hi => ⟨(hc i row hi).1, fun j u hj => ?_⟩⟩⟩
  rw [hb.cell (p := ⟨b, off + (i * k + j), none⟩) hlt]
  exact (hc i row hi).2 j u hj
def MSel.lies (w : World) (s : MSel) : Prop := Rows w 4 s.at_ s.cap (s.cases.map Cas.cells) ∧ (∀ x ∈ s.cases, x.wf) ∧ I64 s.els
def MFn.lies (w : World) (f : MFn) : Prop := Rows w 5 f.ca f.ccap (f.code.map Ins.cells) ∧ Rows w 2 f.sa f.scap (f.sels.map MSel.cells) ∧ (∀ x ∈ f.code, x.wf) ∧ (∀ s ∈ f.sels, s.lies w) ∧ I64 f.params ∧ I64 f.regs
def MPr.lies (w : World) (p : MPr) : Prop := Rows w 2 p.va p.vcap (p.vars.map Vr.cells) ∧ Rows w 1 p.cha p.chcap (p.chans.map chCells) ∧ Rows w 4 p.fa p.fcap (p.fns.map MFn.cells) ∧
  (∀ x ∈ p.vars, I64 x.init) ∧ I64 p.locks ∧ (∀ x ∈ p.chans, I64 x) ∧ ∀ f ∈ p.fns, f.lies w
theorem MSel.lies.later {w w' : World} {s : MSel} (h : s.lies w) (hb : Below w.heap.size w w') : s.lies w' := ⟨h.1.later hb, h.2⟩
theorem MFn.lies.later {w w' : World} {f : MFn} (h : f.lies w) (hb : Below w.heap.size w w') : f.lies w' := ⟨h.1.later hb, h.2.1.later hb, h.2.2.1, fun s hs => (h.2.2.2.1 s hs).later hb, h.2.2.2.2⟩
theorem MPr.lies.later {w w' : World} {p : MPr} (h : p.lies w) (hb : Below w.heap.size w w') : p.lies w' := ⟨h.1.later hb, h.2.1.later hb, h.2.2.1.later hb, h.2.2.2.1, h.2.2.2.2.1, h.2.2.2.2.2.1, fun f hf => (h.2.2.2.2.2.2 f hf).later hb⟩
/-- Cells of a row, one by one. -/
theorem Rows.row {w : World} {k : Nat} {a : Option Addr} {cap : Nat} {L : List (List Value)} (h : Rows w k a cap L) {i : Nat} {row : List Value} (hi : L[i]? = some row) :
    ∃ b off, a = some ⟨b, off, none⟩ ∧ b < w.heap.size ∧ ∀ j u, row[j]? = some u → w.cell? ⟨b, off + (i * k + j), none⟩ = some u := by
  rcases h.2.2.2 with h0 | ⟨b, off, ha, hlt, hc⟩
  · subst h0; simp at hi
  · exact ⟨b, off, ha, hlt, (hc i row hi).2⟩
theorem ins_at {w : World} {a : Option Addr} {cap : Nat} {l : List Ins} (h : Rows w 5 a cap (l.map Ins.cells)) (i : Nat) (x : Ins) (hi : l[i]? = some x) :
    ∃ b off, a = some ⟨b, off, none⟩ ∧ b < w.heap.size ∧ w.cell? ⟨b, off + i * 5, none⟩ = some (.int .i64 x.op) ∧ w.cell? ⟨b, off + (i * 5 + 1), none⟩ = some (.int .i64 x.a) ∧ w.cell? ⟨b, off + (i * 5 + 2), none⟩ = some (.int .i64 x.b) ∧
      w.cell? ⟨b, off + (i * 5 + 3), none⟩ = some (.int .i64 x.c) ∧ w.cell? ⟨b, off + (i * 5 + 4), none⟩ = some (.int .i64 x.n) := by
  obtain ⟨b, off, ha, hlt, hc⟩ := h.row (i := i) (row := x.cells) (by simp [hi])
  exact ⟨b, off, ha, hlt, hc 0 _ rfl, hc 1 _ rfl, hc 2 _ rfl, hc 3 _ rfl, hc 4 _ rfl⟩
theorem cas_at {w : World} {a : Option Addr} {cap : Nat} {l : List Cas} (h : Rows w 4 a cap (l.map Cas.cells)) (i : Nat) (x : Cas) (hi : l[i]? = some x) :
    ∃ b off, a = some ⟨b, off, none⟩ ∧ b < w.heap.size ∧ w.cell? ⟨b, off + i * 4, none⟩ = some (.bool x.send) ∧ w.cell? ⟨b, off + (i * 4 + 1), none⟩ = some (.int .i64 x.ch) ∧ w.cell? ⟨b, off + (i * 4 + 2), none⟩ = some (.int .i64 x.reg) ∧
      w.cell? ⟨b, off + (i * 4 + 3), none⟩ = some (.int .i64 x.to) := by
  obtain ⟨b, off, ha, hlt, hc⟩ := h.row (i := i) (row := x.cells) (by simp [hi])
  exact ⟨b, off, ha, hlt, hc 0 _ rfl, hc 1 _ rfl, hc 2 _ rfl, hc 3 _ rfl⟩
theorem sel_at {w : World} {a : Option Addr} {cap : Nat} {l : List MSel} (h : Rows w 2 a cap (l.map MSel.cells)) (i : Nat) (x : MSel) (hi : l[i]? = some x) :
    ∃ b off, a = some ⟨b, off, none⟩ ∧ b < w.heap.size ∧ w.cell? ⟨b, off + i * 2, none⟩ = some (.slice x.at_ x.cases.length x.cap) ∧ w.cell? ⟨b, off + (i * 2 + 1), none⟩ = some (.int .i64 x.els) := by
  obtain ⟨b, off, ha, hlt, hc⟩ := h.row (i := i) (row := x.cells) (by simp [hi])
  exact ⟨b, off, ha, hlt, hc 0 _ rfl, hc 1 _ rfl⟩
theorem vr_at {w : World} {a : Option Addr} {cap : Nat} {l : List Vr} (h : Rows w 2 a cap (l.map Vr.cells)) (i : Nat) (x : Vr) (hi : l[i]? = some x) :
    ∃ b off, a = some ⟨b, off, none⟩ ∧ b < w.heap.size ∧ w.cell? ⟨b, off + i * 2, none⟩ = some (.bool x.atomic) ∧ w.cell? ⟨b, off + (i * 2 + 1), none⟩ = some (.int .i64 x.init) := by
  obtain ⟨b, off, ha, hlt, hc⟩ := h.row (i := i) (row := x.cells) (by simp [hi])
  exact ⟨b, off, ha, hlt, hc 0 _ rfl, hc 1 _ rfl⟩
theorem ch_at {w : World} {a : Option Addr} {cap : Nat} {l : List Int} (h : Rows w 1 a cap (l.map chCells)) (i : Nat) (x : Int) (hi : l[i]? = some x) :
    ∃ b off, a = some ⟨b, off, none⟩ ∧ b < w.heap.size ∧ w.cell? ⟨b, off + i, none⟩ = some (.int .i64 x) := by
  obtain ⟨b, off, ha, hlt, hc⟩ := h.row (i := i) (row := chCells x) (by simp [hi])
  exact ⟨b, off, ha, hlt, by have := hc 0 _ rfl; simpa using this⟩
theorem fn_at {w : World} {a : Option Addr} {cap : Nat} {l : List MFn} (h : Rows w 4 a cap (l.map MFn.cells)) (i : Nat) (x : MFn) (hi : l[i]? = some x) :
    ∃ b off, a = some ⟨b, off, none⟩ ∧ b < w.heap.size ∧ w.cell? ⟨b, off + i * 4, none⟩ = some (.int .i64 x.params) ∧ w.cell? ⟨b, off + (i * 4 + 1), none⟩ = some (.int .i64 x.regs) ∧
      w.cell? ⟨b, off + (i * 4 + 2), none⟩ = some (.slice x.ca x.code.length x.ccap) ∧ w.cell? ⟨b, off + (i * 4 + 3), none⟩ = some (.slice x.sa x.sels.length x.scap) := by
  obtain ⟨b, off, ha, hlt, hc⟩ := h.row (i := i) (row := x.cells) (by simp [hi])
  exact ⟨b, off, ha, hlt, hc 0 _ rfl, hc 1 _ rfl, hc 2 _ rfl, hc 3 _ rfl⟩
/-- An element that is there. -/
theorem get_lt {α : Type} (l : List α) (i : Nat) (h : i < l.length) : ∃ x, l[i]? = some x ∧ x ∈ l := ⟨l[i], List.getElem?_eq_getElem h, List.getElem_mem h⟩
end Go.Proofs.Ytklpifammbnldaa.pg
/- A program that came in, opened: where its lists lie, and what lies there. -/
namespace Go.Proofs.Ytklpifammbnldaa.pg
open Go.ChangeShapes Go.WideShapes Go.ChangeAt Go.RowKit
set_option linter.unusedVariables false
section
variable {H : Type} {enc : TypeId × Value → H} {P : Program} {w : World} {base : Nat} {spare : Nat → Bool} {held : Bool}
theorem add_none (b off j : Nat) : (⟨b, off, none⟩ : Addr).add j = ⟨b, off + j, none⟩ := by
  by_cases hj : j = 0
  · subst hj; rfl
  · simp [Addr.add, hj]
/-- A list, opened: its elements' cells are as the elements' own readings tell. -/
theorem rows_in {α : Type} (dflt : α) {t e : TypeId} {k fuel : Nat} {a : Option Addr} {len cap : Nat} {x : DataW H × List MemPlace} (C : α → List Value) (Q : α → Prop) (ht : P.underlying t = some (.slice e)) (hk : P.cellsOf e = k) (hk0 : 0 < k)
    (hel : ∀ n cs y, cs.length = k → DataW.trod enc P w base spare held n e cs = some y → ∃ x, cs = C x ∧ Q x)
    (h : DataW.trod enc P w base spare held fuel t [.slice a len cap] = some x) : ∃ l : List α, l.length = len ∧ Rows w k a cap (l.map C) ∧ ∀ x ∈ l, Q x := by
  rcases Go.Deep.open_slice ht h with ⟨hcs, _⟩ | ⟨ad, len', cap', m, n, D, Pl, hcs, _, hl, hm, hmm, _, hx⟩
  · simp only [List.cons.injEq, Value.slice.injEq, and_true] at hcs
    obtain ⟨rfl, rfl, rfl⟩ := hcs
    exact ⟨[], rfl, ⟨by simp, by simp, by simp, .inl rfl⟩, by simp⟩
  · simp only [List.cons.injEq, Value.slice.injEq, and_true] at hcs
    obtain ⟨rfl, rfl, rfl⟩ := hcs
    unfold maxLen at hm
    have hlm : len ≤ m := by rw [hmm]; split <;> omega
    have each : ∀ i, i < len → ∃ y : α, Q y ∧ (C y).length = k ∧ ∀ j u, (C y)[j]? = some u → w.cell? (ad.add (i * k + j)) = some u := fun i hi => by
      obtain ⟨cs', h1, h2⟩ := hx i (by omega)
      rw [hk] at h1
      obtain ⟨_, hlen, hcell⟩ := World.cells?_some h1
      obtain ⟨y, rfl, hQ⟩ := hel n cs' _ hlen h2
      refine ⟨y, hQ, hlen, fun j u hj => ?_⟩
      have hjk : j < k := by have := (List.getElem?_eq_some_iff.mp hj).1; omega
      have := hcell j hjk
      rw [Go.Deep.add_add] at this
      rw [this, hj]
    have inh : Inhabited α := ⟨dflt⟩
    obtain ⟨f, hf⟩ := Go.Deep.choose_lt each
    refine ⟨(List.range len).map f, by simp, ⟨by simpa using hl, by omega, by simp, ?_⟩, fun y hy => ?_⟩
    · by_cases h0 : len = 0
      · subst h0; exact .inl rfl
      right
      obtain ⟨b, off, spot⟩ := ad
      obtain ⟨_, hl0, hc0⟩ := hf 0 (by omega)
      have hcell0 : w.cell? ((⟨b, off, spot⟩ : Addr).add (0 * k + 0)) = some ((C (f 0))[0]'(by omega)) := hc0 0 _ (List.getElem?_eq_getElem (by omega))
      have hs : spot = none := by simpa [Addr.add] using World.cell?_spot hcell0
      subst hs
      rw [add_none] at hcell0
      refine ⟨b, off, rfl, World.block_lt_of_cell? _ _ hcell0, fun i row hi => ?_⟩
      simp only [List.map_map, List.getElem?_map, Option.map_eq_some_iff] at hi
      obtain ⟨i', hi', rfl⟩ := hi
      have hil : i < len ∧ i' = i := by
        have h1 := (List.getElem?_eq_some_iff.mp hi').1
        have h2 := (List.getElem?_eq_some_iff.mp hi').2
        simp at h1 h2
        exact ⟨h1, h2.symm⟩
      obtain ⟨hil, rfl⟩ := hil
      obtain ⟨_, h1, h2⟩ := hf i' hil
      exact ⟨h1, fun j u hj => by rw [← add_none]; exact h2 j u hj⟩
    · simp only [List.mem_map, List.mem_range] at hy
      obtain ⟨i, hi, rfl⟩ := hy
      exact (hf i hi).1
theorem int_in {t : TypeId} (ht : P.underlying t = some (.int .i64)) {n : Nat} {v : Value} {y : DataW H × List MemPlace} (h : DataW.trod enc P w base spare held n t [v] = some y) : ∃ z, v = .int .i64 z ∧ I64 z := by
  obtain ⟨z, e, _, b⟩ := DataW.trod_int ht h
  simp only [List.cons.injEq, and_true] at e
  refine ⟨z, e, ?_⟩
  show _ ∧ _
  simpa [Lit.wf, IntKind.min, IntKind.max, IntKind.bits, IntKind.signed] using b
theorem bool_in {t : TypeId} (ht : P.underlying t = some .bool) {n : Nat} {v : Value} {y : DataW H × List MemPlace} (h : DataW.trod enc P w base spare held n t [v] = some y) : ∃ z, v = .bool z := by
  obtain ⟨z, e, _⟩ := DataW.trod_bool ht h
  simp only [List.cons.injEq, and_true] at e
  exact ⟨z, e⟩
theorem slice_in {t e : TypeId} (ht : P.underlying t = some (.slice e)) {n : Nat} {v : Value} {y : DataW H × List MemPlace} (h : DataW.trod enc P w base spare held n t [v] = some y) : ∃ a len cap, v = .slice a len cap := by
  rcases Go.Deep.open_slice ht h with ⟨hcs, _⟩ | ⟨ad, len', cap', m, n, D, Pl, hcs, _⟩
  · exact ⟨_, _, _, by simpa using hcs⟩
  · exact ⟨_, _, _, by simpa using hcs⟩
/-- A field of one cell. -/
theorem field_in {t : TypeId} {fs : Array Field} {fuel : Nat} {cs : List Value} {x : DataW H × List MemPlace} (ht : P.underlying t = some (.struct fs)) (h : DataW.trod enc P w base spare held fuel t cs = some x)
    (i : Nat) (f : Field) (hi : fs[i]? = some f) (ho : f.offset = i) (hc : P.cellsOf f.type = 1) (hl : i < cs.length) : ∃ v y n, cs[i]? = some v ∧ DataW.trod enc P w base spare held n f.type [v] = some y := by
  obtain ⟨xs, n, _, _, _, hlen, hf⟩ := DataW.trod_struct ht h
  have h1 := hf i f hi
  have hlt : i < xs.length := by rw [hlen]; exact (Array.getElem?_eq_some_iff.mp hi).1
  rw [ho, hc, List.getElem?_eq_getElem hlt] at h1
  refine ⟨cs[i], xs[i], n, List.getElem?_eq_getElem hl, ?_⟩
  rw [← h1]
  congr 1
  rw [List.drop_eq_getElem_cons hl]
  rfl
end
section
variable {H : Type} {enc : TypeId × Value → H} {w : World} {base : Nat} {spare : Nat → Bool} {held : Bool}
theorem list1 {α : Type} {cs : List α} (h : cs.length = 1) {a : α} (h0 : cs[0]? = some a) : cs = [a] := by
  match cs, h with
  | [_], _ => simp_all
theorem list2 {α : Type} {cs : List α} (h : cs.length = 2) {a b : α} (h0 : cs[0]? = some a) (h1 : cs[1]? = some b) : cs = [a, b] := by
  match cs, h with
  | [_, _], _ => simp_all
theorem list4 {α : Type} {cs : List α} (h : cs.length = 4) {a b c d : α} (h0 : cs[0]? = some a) (h1 : cs[1]? = some b) (h2 : cs[2]? = some c) (h3 : cs[3]? = some d) : cs = [a, b, c, d] := by
  match cs, h with
  | [_, _, _, _], _ => simp_all
theorem list5 {α : Type} {cs : List α} (h : cs.length = 5) {a b c d e : α} (h0 : cs[0]? = some a) (h1 : cs[1]? = some b) (h2 : cs[2]? = some c) (h3 : cs[3]? = some d) (h4 : cs[4]? = some e) : cs = [a, b, c, d, e] := by
  match cs, h with
  | [_, _, _, _, _], _ => simp_all
end
end Go.Proofs.Ytklpifammbnldaa.pg
