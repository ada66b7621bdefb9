/- Goroutines, channels, states as plain data: their cells; and how a goroutine's local instructions are run. -/
import Derived.Test.YtjcmhaaohdmjpaaDoorM1
import Derived.Test.YtjcmhaaohdmjpaaDoorM4
namespace Go.Proofs.YtjcmhaaohdmjpaaDoor.pg
open Go.ChangeShapes Go.WideShapes Go.ChangeAt Go.RowKit
set_option linter.unusedVariables false
abbrev ints (l : List Int) : List Value := l.map fun x => .int .i64 x
/-- A goroutine. -/
structure Gr where
  st : Int
  fn : Int
  pc : Int
  why : Int
  rg : List Int
/-- A channel. -/
structure Chc where
  buf : List Int
  ln : Int
  shut : Bool
  off : Int
  frm : Int
  val : Int
/-- A state. -/
structure Sts where
  vars : List Int
  own : List Int
  ch : List Chc
  gos : List Gr
  cnt : Int
def Gr.cells (g : Gr) : List Value := [.int .i64 g.st, .int .i64 g.fn, .int .i64 g.pc, .int .i64 g.why] ++ ints g.rg
def Chc.cells (c : Chc) : List Value := ints c.buf ++ [.int .i64 c.ln, .bool c.shut, .int .i64 c.off, .int .i64 c.frm, .int .i64 c.val]
def Sts.cells (s : Sts) : List Value := ints s.vars ++ (ints s.own ++ ((s.ch.map Chc.cells).flatten ++ ((s.gos.map Gr.cells).flatten ++ [.int .i64 s.cnt])))
def AllI (l : List Int) : Prop := ∀ x ∈ l, I64 x
def Gr.wf (g : Gr) : Prop := I64 g.st ∧ I64 g.fn ∧ I64 g.pc ∧ I64 g.why ∧ g.rg.length = 8 ∧ AllI g.rg
def Chc.wf (c : Chc) : Prop := I64 c.ln ∧ I64 c.off ∧ I64 c.frm ∧ I64 c.val ∧ c.buf.length = 4 ∧ AllI c.buf
structure Sts.wf (s : Sts) : Prop where
  lv : s.vars.length = 8
  lo : s.own.length = 4
  lc : s.ch.length = 4
  lg : s.gos.length = 6
  av : AllI s.vars
  ao : AllI s.own
  ac : ∀ c ∈ s.ch, c.wf
  ag : ∀ g ∈ s.gos, g.wf
  cn : I64 s.cnt
theorem Gr.len {g : Gr} (h : g.wf) : g.cells.length = 12 := by simp [Gr.cells, h.2.2.2.2.1]
theorem Chc.len {c : Chc} (h : c.wf) : c.cells.length = 9 := by simp [Chc.cells, h.2.2.2.2.1]
theorem flat_len {α : Type} (C : α → List Value) (k : Nat) : ∀ (l : List α), (∀ x ∈ l, (C x).length = k) → (l.map C).flatten.length = l.length * k
  | [], _ => by simp
  | x :: t, h => by
    rw [List.map_cons, List.flatten_cons, List.length_append, h x (by simp), flat_len C k t fun y hy => h y (by simp [hy]), List.length_cons, Nat.add_mul]
    omega
theorem Sts.len {s : Sts} (h : s.wf) : s.cells.length = 121 := by
  simp only [Sts.cells, List.length_append, List.length_map, h.lv, h.lo, flat_len Chc.cells 9 s.ch fun c hc => Chc.len (h.ac c hc), flat_len Gr.cells 12 s.gos fun g hg => Gr.len (h.ag g hg), h.lc, h.lg, List.length_cons, List.length_nil]
theorem ints_inj : ∀ {a b : List Int}, ints a = ints b → a = b
  | [], [], _ => rfl
  | [], _ :: _, h => by simp at h
  | _ :: _, [], h => by simp at h
  | x :: a, y :: b, h => by
    simp only [List.map_cons, List.cons.injEq, Value.int.injEq, true_and] at h
    rw [h.1, ints_inj h.2]
theorem Gr.inj {a b : Gr} (h : a.cells = b.cells) : a = b := by
  cases a; cases b
  simp only [Gr.cells, List.cons_append, List.cons.injEq, Value.int.injEq, true_and, List.nil_append] at h
  obtain ⟨h1, h2, h3, h4, h5⟩ := h
  rw [h1, h2, h3, h4, ints_inj h5]
theorem Chc.inj {a b : Chc} (ha : a.wf) (hb : b.wf) (h : a.cells = b.cells) : a = b := by
  have l1 := ha.2.2.2.2.1
  have l2 := hb.2.2.2.2.1
  cases a; cases b
  simp only at l1 l2
  have := List.append_inj h (by simp [l1, l2])
  simp only [List.cons.injEq, Value.int.injEq, Value.bool.injEq, true_and, and_true] at this
  obtain ⟨h0, h1, h2, h3, h4, h5⟩ := this
  rw [ints_inj h0, h1, h2, h3, h4, h5]
theorem flat_inj {α : Type} (C : α → List Value) (k : Nat) (inj : ∀ a b, (C a).length = k → (C b).length = k → C a = C b → a = b) : ∀ {l m : List α}, (∀ x ∈ l, (C x).length = k) → (∀ x ∈ m, (C x).length = k) → l.length = m.length → (l.map C).flatten = (m.map C).flatten → l = m
  | [], [], _, _, _, _ => rfl
  | [], _ :: _, _, _, h, _ => by simp at h
  | _ :: _, [], _, _, h, _ => by simp at h
  | x :: l, y :: m, h1, h2, hl, h => by
    rw [List.map_cons, List.map_cons, List.flatten_cons, List.flatten_cons] at h
    have hx := h1 x (by simp)
    have hy := h2 y (by simp)
    obtain ⟨e1, e2⟩ := List.append_inj h (by rw [hx, hy])
    rw [inj x y hx hy e1, flat_inj C k inj (fun z hz => h1 z (by simp [hz])) (fun z hz => h2 z (by simp [hz])) (by simpa using hl) e2]
theorem chs_inj : ∀ {l m : List Chc}, (∀ x ∈ l, x.wf) → (∀ x ∈ m, x.wf) → l.length = m.length → (l.map Chc.cells).flatten = (m.map Chc.cells).flatten → l = m
  | [], [], _, _, _, _ => rfl
  | [], _ :: _, _, _, h, _ => by simp at h
  | _ :: _, [], _, _, h, _ => by simp at h
  | x :: l, y :: m, h1, h2, hl, h => by
    rw [List.map_cons, List.map_cons, List.flatten_cons, List.flatten_cons] at h
    have hx := h1 x (by simp)
    have hy := h2 y (by simp)
    obtain ⟨e1, e2⟩ := List.append_inj h (by rw [Chc.len hx, Chc.len hy])
    rw [Chc.inj hx hy e1, chs_inj (fun z hz => h1 z (by simp [hz])) (fun z hz => h2 z (by simp [hz])) (by simpa using hl) e2]
theorem Sts.inj {a b : Sts} (ha : a.wf) (hb : b.wf) (h : a.cells = b.cells) : a = b := by
  obtain ⟨h1, h2⟩ := List.append_inj h (by simp [ha.lv, hb.lv])
  obtain ⟨h3, h4⟩ := List.append_inj h2 (by simp [ha.lo, hb.lo])
  obtain ⟨h5, h6⟩ := List.append_inj h4 (by rw [flat_len Chc.cells 9 _ fun c hc => Chc.len (ha.ac c hc), flat_len Chc.cells 9 _ fun c hc => Chc.len (hb.ac c hc), ha.lc, hb.lc])
  obtain ⟨h7, h8⟩ := List.append_inj h6 (by rw [flat_len Gr.cells 12 _ fun c hc => Gr.len (ha.ag c hc), flat_len Gr.cells 12 _ fun c hc => Gr.len (hb.ag c hc), ha.lg, hb.lg])
  have e1 := ints_inj h1
  have e2 := ints_inj h3
  have e3 := chs_inj ha.ac hb.ac (by rw [ha.lc, hb.lc]) h5
  have e4 := flat_inj Gr.cells 12 (fun _ _ _ _ q => Gr.inj q) (fun g hg => Gr.len (ha.ag g hg)) (fun g hg => Gr.len (hb.ag g hg)) (by rw [ha.lg, hb.lg]) h7
  cases a; cases b
  simp only [List.cons.injEq, Value.int.injEq, true_and, and_true] at h8
  simp only at e1 e2 e3 e4 h8
  rw [e1, e2, e3, e4, h8]
/-- A register. -/
def Gr.get (g : Gr) (a : Int) : Int := g.rg.getD a.toNat 0
def Gr.set (g : Gr) (a x : Int) : Gr := { g with rg := g.rg.set a.toNat x }
def Gr.adv (g : Gr) : Gr := { g with pc := g.pc + 1 }
def zero8 : List Int := [0, 0, 0, 0, 0, 0, 0, 0]
/-- One that has ended where it stands. -/
def Gr.end (g : Gr) (st why : Int) : Gr := ⟨st, g.fn, g.pc, why, zero8⟩
/-- Behind one local instruction; ap: what an operation makes, and why it makes nothing. -/
def loc1 (ap : Int → Int → Int → Int × Int) (g : Gr) (i : Ins) : Gr :=
  if i.op = 40 then (g.set i.a i.n).adv
  else if i.op = 41 then (g.set i.a (g.get i.b)).adv
  else if i.op = 42 then { g with pc := i.a }
  else if i.op = 43 then (if g.get i.a = 0 then g.adv else { g with pc := i.b })
  else if i.op = 44 then (if g.get i.a = 0 then g.end 4 1 else g.adv)
  else if i.op = 45 then g.end 3 0
  else if (ap i.op (g.get i.b) (g.get i.c)).2 = 20 then g.end 4 2
  else if (ap i.op (g.get i.b) (g.get i.c)).2 = 21 then g.end 4 3
  else (g.set i.a (ap i.op (g.get i.b) (g.get i.c)).1).adv
/-- The instruction at a place. -/
def insAt (code : List Ins) (pc : Int) : Ins := code.getD pc.toNat ⟨0, 0, 0, 0, 0⟩
/-- Behind its local instructions, as far as the fuel goes. -/
def runG (ap : Int → Int → Int → Int × Int) (lc : Int → Bool) (code : List Ins) : Nat → Gr → Gr
  | 0, g => if g.st = 1 ∧ lc (insAt code g.pc).op = true then { g with st := 5 } else g
  | f + 1, g => if g.st = 1 ∧ lc (insAt code g.pc).op = true then runG ap lc code f (loc1 ap g (insAt code g.pc)) else g
end Go.Proofs.YtjcmhaaohdmjpaaDoor.pg
/- How a goroutine is run: pure lemmas. -/
namespace Go.Proofs.YtjcmhaaohdmjpaaDoor.pg
open Go.ChangeShapes Go.WideShapes Go.ChangeAt Go.RowKit
set_option linter.unusedVariables false
section
variable {ap : Int → Int → Int → Int × Int} {lc : Int → Bool} {code : List Ins}
theorem runG_stop {g : Gr} (h : ¬ (g.st = 1 ∧ lc (insAt code g.pc).op = true)) : ∀ f, runG ap lc code f g = g
  | 0 => by rw [runG, if_neg h]
  | _ + 1 => by rw [runG, if_neg h]
theorem runG_zero {g : Gr} (h : g.st = 1 ∧ lc (insAt code g.pc).op = true) : runG ap lc code 0 g = { g with st := 5 } := by rw [runG, if_pos h]
theorem runG_step {g : Gr} (h : g.st = 1 ∧ lc (insAt code g.pc).op = true) (f : Nat) : runG ap lc code (f + 1) g = runG ap lc code f (loc1 ap g (insAt code g.pc)) := by rw [runG, if_pos h]
theorem loc1_st (g : Gr) (i : Ins) (h : g.st = 1) : (loc1 ap g i).st = 1 ∨ (loc1 ap g i).st = 3 ∨ (loc1 ap g i).st = 4 := by
  unfold loc1
  repeat' split
  all_goals first
    | exact .inl h
    | exact .inr (.inl rfl)
    | exact .inr (.inr rfl)
theorem loc1_fn (g : Gr) (i : Ins) : (loc1 ap g i).fn = g.fn := by
  unfold loc1
  repeat' split
  all_goals rfl
theorem runG_fn : ∀ (f : Nat) (g : Gr), (runG ap lc code f g).fn = g.fn
  | 0, g => by rw [runG]; split <;> rfl
  | f + 1, g => by
    rw [runG]
    split
    · rw [runG_fn f, loc1_fn]
    · rfl
/-- One that is spun is live again. -/
def wake (g : Gr) : Gr := if g.st = 5 then { g with st := 1 } else g
theorem wake_not {g : Gr} (h : g.st ≠ 5) : wake g = g := by rw [wake, if_neg h]
theorem wake_fn (g : Gr) : (wake g).fn = g.fn := by unfold wake; split <;> rfl
/-- Fuel adds up. -/
theorem runG_more : ∀ (a b : Nat) (g : Gr), g.st ≠ 5 → runG ap lc code b (wake (runG ap lc code a g)) = runG ap lc code (a + b) g
  | 0, b, g, h => by
    by_cases c : g.st = 1 ∧ lc (insAt code g.pc).op = true
    · rw [runG_zero c, Nat.zero_add]
      have : wake { g with st := 5 } = g := by
        rw [wake, if_pos rfl]
        have := c.1
        cases g
        simp only at this ⊢
        rw [this]
      rw [this]
    · rw [runG_stop c, wake_not h, Nat.zero_add]
  | a + 1, b, g, h => by
    by_cases c : g.st = 1 ∧ lc (insAt code g.pc).op = true
    · rw [runG_step c, Nat.add_right_comm, runG_step c]
      refine runG_more a b _ ?_
      rcases loc1_st (ap := ap) g (insAt code g.pc) c.1 with q | q | q <;> omega
    · rw [runG_stop c, wake_not h, runG_stop c, runG_stop c]
theorem wake_ne (g : Gr) : (wake g).st ≠ 5 := by
  unfold wake
  split
  · show (1 : Int) ≠ 5
    omega
  · assumption
end
end Go.Proofs.YtjcmhaaohdmjpaaDoor.pg
/- Where package prog's order and the document's own agree on what is right. -/
namespace Go.Proofs.YtjcmhaaohdmjpaaDoor.pg
set_option linter.unusedVariables false
theorem par_nonneg (P : Pr) (h : ∀ f ∈ P.fns, 0 ≤ f.params) (b : Int) : 0 ≤ P.par b := by
  unfold Pr.par
  split
  · rename_i f hf
    exact h f (List.mem_of_getElem? hf)
  · exact Int.le_refl 0
theorem room_iff (k c regs : Int) (h : 0 ≤ k) : roomP k c regs ↔ roomR k c regs := by
  unfold roomP roomR
  by_cases h0 : k = 0
  · subst h0
    simp
  · rw [if_neg h0]
    by_cases hc : c < 0
    · rw [if_pos hc]; constructor
      · exact fun q => q.elim
      · intro q; exact q (.inr ⟨by omega, .inl hc⟩)
    · rw [if_neg hc]; constructor
      · intro q; rintro (q' | q') <;> omega
      · intro q
        apply Classical.byContradiction
        intro q'
        exact q (.inr ⟨by omega, .inr (by omega)⟩)
theorem opndE_congr {r r' : Prop} [Decidable r] [Decidable r'] (h : r ↔ r') (P : Pr) (f : Fn) (l x : Int) : opndE r P f l x = opndE r' P f l x := by
  unfold opndE
  by_cases q : r
  · rw [if_pos q, if_pos (h.mp q)]
  · rw [if_neg q, if_neg (fun t => q (h.mpr t))]
theorem insE_congr {r r' : Prop} [Decidable r] [Decidable r'] (h : r ↔ r') (P : Pr) (f : Fn) (i : Ins) : insE r P f i = insE r' P f i := by
  unfold insE
  rw [opndE_congr h, opndE_congr h, opndE_congr h, opndE_congr h]
theorem ins_eq (P : Pr) (h : ∀ f ∈ P.fns, 0 ≤ f.params) (f : Fn) (i : Ins) : insP P f i = insR P f i := insE_congr (room_iff _ _ _ (par_nonneg P h i.b)) P f i
theorem fnE_congr {ins ins' : Pr → Fn → Ins → Int} {P : Pr} (h : ∀ f i, ins P f i = ins' P f i) (n : Nat) (f : Fn) : fnE ins P n f = fnE ins' P n f := by
  have : ins P f = ins' P f := funext fun i => h f i
  unfold fnE; rw [this]
theorem fnsE_congr {ins ins' : Pr → Fn → Ins → Int} {P : Pr} (h : ∀ f i, ins P f i = ins' P f i) (l : List Fn) (n : Nat) : fnsE ins P l n = fnsE ins' P l n := by
  induction l generalizing n with
  | nil => rfl
  | cons x t ih => simp only [fnsE]; rw [fnE_congr h, ih]
/-- Both tell the same of a program none of whose functions has fewer than no parameters. -/
theorem chk_eq (P : Pr) (h : ∀ f ∈ P.fns, 0 ≤ f.params) : chk insP P = chk insR P := by
  unfold chk; rw [fnsE_congr (ins_eq P h)]
theorem fnE_shaped {ins : Pr → Fn → Ins → Int} {P : Pr} {n : Nat} {f : Fn} (h : (fnE ins P n f).1 = 0) : shaped f ∧ (n = 0 → f.params = 0) := by
  apply Classical.byContradiction
  intro q
  unfold fnE at h
  rw [if_neg q] at h
  simp at h
theorem fnsE_each {ins : Pr → Fn → Ins → Int} {P : Pr} (l : List Fn) (j : Nat) (h : (fnsE ins P l j).1 = 0) : ∀ i f, l[i]? = some f → (fnE ins P (j + i) f).1 = 0 := by
  induction l generalizing j with
  | nil => intro i f hf; simp at hf
  | cons x t ih =>
    simp only [fnsE] at h
    by_cases hx : (fnE ins P j x).1 = 0
    · rw [if_pos hx] at h
      intro i f hf
      cases i with
      | zero => simp at hf; subst hf; rw [Nat.add_zero]; exact hx
      | succ i => simp at hf; have := ih (j + 1) h i f hf; rwa [show j + 1 + i = j + (i + 1) by omega] at this
    · rw [if_neg hx] at h; exact absurd h hx
theorem chk_sizes0 {ins : Pr → Fn → Ins → Int} {P : Pr} (h : (chk ins P).1 = 0) : sizesE P = 0 := by
  apply Classical.byContradiction
  intro q
  unfold chk at h
  rw [if_neg q] at h
  exact q h
theorem chk_each {ins : Pr → Fn → Ins → Int} {P : Pr} (h : (chk ins P).1 = 0) (i : Nat) (f : Fn) (hf : P.fns[i]? = some f) : (fnE ins P i f).1 = 0 := by
  have h0 := chk_sizes0 h
  unfold chk at h
  rw [if_pos h0] at h
  have := fnsE_each P.fns 0 h i f hf
  rwa [Nat.zero_add] at this
theorem chk_shaped {ins : Pr → Fn → Ins → Int} {P : Pr} (h : (chk ins P).1 = 0) (f : Fn) (hf : f ∈ P.fns) : shaped f := by
  obtain ⟨i, hi, rfl⟩ := List.getElem_of_mem hf
  exact (fnE_shaped (chk_each h i _ (List.getElem?_eq_getElem hi))).1
/-- A program is right. -/
def right (P : Pr) : Prop := (chk insP P).1 = 0
theorem right_iff (P : Pr) : (chk insP P).1 = 0 ↔ (chk insR P).1 = 0 := by
  constructor
  · intro h; rw [← chk_eq P (fun f hf => (chk_shaped h f hf).2.1.1)]; exact h
  · intro h; rw [chk_eq P (fun f hf => (chk_shaped h f hf).2.1.1)]; exact h
theorem sizes_ok {P : Pr} (h : sizesE P = 0) : P.vars.length ≤ 8 ∧ (0 ≤ P.locks ∧ P.locks ≤ 4) ∧ P.chans.length ≤ 4 ∧ (1 ≤ P.fns.length ∧ P.fns.length ≤ 8) := by
  apply Classical.byContradiction
  intro q
  unfold sizesE at h
  rw [if_neg q] at h
  simp at h
end Go.Proofs.YtjcmhaaohdmjpaaDoor.pg
