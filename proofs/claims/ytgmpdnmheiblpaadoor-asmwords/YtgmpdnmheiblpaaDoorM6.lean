/- What a right program's code is, for one that is run: registers and places are there. -/
import Derived.Test.YtgmpdnmheiblpaaDoorM4
import Derived.Test.YtgmpdnmheiblpaaDoorM5
namespace Go.Proofs.YtgmpdnmheiblpaaDoor.pg
set_option linter.unusedVariables false
set_option linter.unusedSimpArgs false
/-- A local operation. -/
abbrev locP (op : Int) : Prop := (1 ≤ op ∧ op ≤ 36) ∨ (40 ≤ op ∧ op ≤ 45)
structure GoodI (rg : Int) (n : Nat) (i : Ins) : Prop where
  a : (1 ≤ i.op ∧ i.op ≤ 36) ∨ i.op = 40 ∨ i.op = 41 ∨ i.op = 43 ∨ i.op = 44 → inR i.a rg
  b : (1 ≤ i.op ∧ i.op ≤ 36) ∨ i.op = 41 → inR i.b rg
  c : (1 ≤ i.op ∧ i.op ≤ 36) → inR i.c rg
  j : i.op = 42 → inR i.a n
  t : i.op = 43 → inR i.b n
structure GoodC (rg : Int) (code : List Ins) : Prop where
  r0 : 0 ≤ rg
  r8 : rg ≤ 8
  l1 : 1 ≤ code.length
  l64 : code.length ≤ 64
  each : ∀ i ∈ code, GoodI rg code.length i
  last : ∀ i, code[code.length - 1]? = some i → i.op = 42 ∨ i.op = 45 ∨ i.op = 61
theorem ltOne (op : Int) (h : (1 ≤ op ∧ op ≤ 15)) : lt op 0 = 114 ∧ lt op 1 = 114 ∧ lt op 2 = 45 := by unfold lt formOf; rw [if_pos h]; exact ⟨rfl, rfl, rfl⟩
theorem ltTwo (op : Int) (h : (16 ≤ op ∧ op ≤ 36)) : lt op 0 = 114 ∧ lt op 1 = 114 ∧ lt op 2 = 114 := by unfold lt formOf; rw [if_neg (by omega), if_pos h]; exact ⟨rfl, rfl, rfl⟩
theorem ins_used {r : Prop} [Decidable r] {P : Pr} {f : Fn} {i : Ins} (h : insE r P f i = 0) : ¬ unused i := by
  intro q
  have hk := ins_known h
  unfold insE at h
  rw [if_pos hk, if_pos q] at h
  simp at h
theorem good_ins {r : Prop} [Decidable r] {P : Pr} {f : Fn} {i : Ins} (h : insE r P f i = 0) : GoodI f.regs f.code.length i := by
  have hu := ins_used h
  have ho := ins_opnds h
  have o0 := ho 0 (by omega)
  have o1 := ho 1 (by omega)
  have o2 := ho 2 (by omega)
  have x0 : i.x 0 = i.a := rfl
  have x1 : i.x 1 = i.b := rfl
  have x2 : i.x 2 = i.c := rfl
  rw [x0] at o0
  rw [x1] at o1
  rw [x2] at o2
  have ha : (1 ≤ i.op ∧ i.op ≤ 36) ∨ i.op = 40 ∨ i.op = 41 ∨ i.op = 43 ∨ i.op = 44 → inR i.a f.regs := fun q => by
    have : lt i.op 0 = 114 := by
      rcases q with q | q | q | q | q
      · by_cases c : i.op ≤ 15
        · exact (ltOne _ ⟨q.1, c⟩).1
        · exact (ltTwo _ ⟨by omega, q.2⟩).1
      all_goals rw [q]; rfl
    rw [this] at o0
    exact opnd_r o0 (.inl rfl)
  have hb : (1 ≤ i.op ∧ i.op ≤ 36) ∨ i.op = 41 → inR i.b f.regs := fun q => by
    have : lt i.op 1 = 114 := by
      rcases q with q | q
      · by_cases c : i.op ≤ 15
        · exact (ltOne _ ⟨q.1, c⟩).2.1
        · exact (ltTwo _ ⟨by omega, q.2⟩).2.1
      · rw [q]; rfl
    rw [this] at o1
    exact opnd_r o1 (.inl rfl)
  refine ⟨ha, hb, fun q => ?_, fun q => ?_, fun q => ?_⟩
  · by_cases c : i.op ≤ 15
    · have h2 := (ltOne _ ⟨q.1, c⟩).2.2
      have hc : i.c = 0 := Classical.byContradiction fun e => hu (.inr (.inr (.inl ⟨h2, e⟩)))
      have := ha (.inl q)
      exact ⟨by omega, by omega⟩
    · rw [(ltTwo _ ⟨by omega, q.2⟩).2.2] at o2
      exact opnd_r o2 (.inl rfl)
  · rw [show lt i.op 0 = 116 by rw [q]; rfl] at o0
    exact opnd_t o0
  · rw [show lt i.op 1 = 116 by rw [q]; rfl] at o1
    exact opnd_t o1
theorem good_of {P : Pr} (h : (chk insP P).1 = 0) (f : Fn) (hf : f ∈ P.fns) : GoodC f.regs f.code := by
  obtain ⟨k, hk, hfk⟩ := List.getElem_of_mem hf
  have he := chk_each h k f (by rw [← hfk]; exact List.getElem?_eq_getElem hk)
  have hs := fnE_shaped he
  obtain ⟨_, h2, h3⟩ := chk_parts h f hf
  refine ⟨hs.1.1.1, hs.1.1.2, hs.1.2.2.1.1, hs.1.2.2.1.2, fun i hi => good_ins (h2 i hi), fun i hi => ?_⟩
  unfold lastOp at h3
  rw [List.getLast?_eq_getElem?, hi] at h3
  exact h3
/-- A place in the code, and the registers. -/
structure GrIn (code : List Ins) (g : Gr) : Prop where
  p0 : 0 ≤ g.pc
  p1 : g.pc < code.length
  rl : g.rg.length = 8
  ri : AllI g.rg
theorem insAt_mem {code : List Ins} {pc : Int} (h0 : 0 ≤ pc) (h1 : pc < code.length) : code[pc.toNat]? = some (insAt code pc) ∧ insAt code pc ∈ code := by
  have hl : pc.toNat < code.length := by omega
  unfold insAt
  rw [List.getD_eq_getElem?_getD, List.getElem?_eq_getElem hl]
  exact ⟨rfl, List.getElem_mem hl⟩
theorem AllI.set {l : List Int} (h : AllI l) (k : Nat) (x : Int) (hx : I64 x) : AllI (l.set k x) := fun y hy => by
  rcases List.mem_or_eq_of_mem_set hy with q | q
  · exact h y q
  · rw [q]; exact hx
theorem AllI.get {l : List Int} (h : AllI l) (k : Nat) : I64 (l.getD k 0) := by
  rw [List.getD_eq_getElem?_getD]
  by_cases c : k < l.length
  · rw [List.getElem?_eq_getElem c]; exact h _ (List.getElem_mem c)
  · rw [List.getElem?_eq_none (by omega)]; exact ⟨by decide, by decide⟩
theorem zero8_all : AllI zero8 := fun x hx => by
  have : x = 0 := by simpa [zero8] using hx
  rw [this]; exact ⟨by decide, by decide⟩
/-- What is behind one local instruction stands in the code. -/
theorem loc1_in {ap : Int → Int → Int → Int × Int} {rg : Int} {code : List Ins} (hc : GoodC rg code) {g : Gr} (hg : GrIn code g) (hl : locP (insAt code g.pc).op) (hn : I64 (insAt code g.pc).n)
    (ha : 1 ≤ (insAt code g.pc).op → (insAt code g.pc).op ≤ 36 → I64 (ap (insAt code g.pc).op (g.get (insAt code g.pc).b) (g.get (insAt code g.pc).c)).1) : GrIn code (loc1 ap g (insAt code g.pc)) := by
  obtain ⟨hm1, hm2⟩ := insAt_mem hg.p0 hg.p1
  have gi := hc.each _ hm2
  have gb := hg.ri.get
  have nx : ∀ (h : (insAt code g.pc).op ≠ 42 ∧ (insAt code g.pc).op ≠ 45), g.pc + 1 < code.length := fun h => by
    apply Classical.byContradiction
    intro q
    have hp1 := hg.p1
    have hp0 := hg.p0
    have e : g.pc.toNat = code.length - 1 := by omega
    rw [e] at hm1
    have := hc.last _ hm1
    omega
  have hp0 := hg.p0
  generalize insAt code g.pc = i at *
  unfold loc1
  repeat' split
  all_goals first
    | exact ⟨by show 0 ≤ g.pc + 1; omega, by show g.pc + 1 < _; exact nx (by omega), by simp [Gr.adv, Gr.set, hg.rl], by first | exact hg.ri.set _ _ hn | exact hg.ri.set _ _ (gb _) | exact hg.ri.set _ _ (ha (by omega) (by omega))⟩
    | exact ⟨(gi.j (by assumption)).1, (gi.j (by assumption)).2, hg.rl, hg.ri⟩
    | exact ⟨(gi.t (by assumption)).1, (gi.t (by assumption)).2, hg.rl, hg.ri⟩
    | exact ⟨by show 0 ≤ g.pc + 1; omega, by show g.pc + 1 < _; exact nx (by omega), hg.rl, hg.ri⟩
    | exact ⟨hg.p0, hg.p1, rfl, zero8_all⟩
end Go.Proofs.YtgmpdnmheiblpaaDoor.pg
/- When a state is one of a program, as plain mathematics; what settling keeps. -/
namespace Go.Proofs.YtgmpdnmheiblpaaDoor.pg
set_option linter.unusedVariables false
set_option linter.unusedSimpArgs false
/-- Nothing but noughts from a place on. -/
def tz (l : List Int) (k : Nat) : Prop := ∀ i, k ≤ i → l.getD i 0 = 0
/-- May an operation fail for a reason? -/
def failB (op why : Int) : Prop := (why = 1 ∧ op = 44) ∨ (why = 2 ∧ (op = 19 ∨ op = 20)) ∨ (why = 3 ∧ (op = 25 ∨ op = 26 ∨ op = 27)) ∨ (why = 4 ∧ (op = 58 ∨ op = 61)) ∨ (why = 5 ∧ op = 60) ∨ (why = 6 ∧ op = 56) ∨ (why = 7 ∧ op = 63) ∨ (why = 8 ∧ op = 62)
/-- Can a goroutine be so where it stands in its function? -/
def standF (f : Fn) (g : Gr) : Prop := 0 ≤ g.pc ∧ g.pc < f.code.length ∧
  (((g.st = 1 ∨ g.st = 2) ∧ g.why = 0 ∧ tz g.rg f.regs.toNat) ∨ (g.st = 5 ∧ g.why = 0 ∧ tz g.rg f.regs.toNat ∧ locP (insAt f.code g.pc).op) ∨
   (g.st = 3 ∧ g.why = 0 ∧ tz g.rg 0 ∧ (insAt f.code g.pc).op = 45) ∨ (g.st = 4 ∧ tz g.rg 0 ∧ failB (insAt f.code g.pc).op g.why))
def fnAt (P : Pr) (n : Int) : Fn := P.fns.getD n.toNat ⟨0, 0, [], []⟩
def stands (P : Pr) (g : Gr) : Prop := 0 ≤ g.fn ∧ g.fn < P.fns.length ∧ standF (fnAt P g.fn) g
/-- Can a channel be so by itself? -/
def holdsC (c : Chc) (room : Int) : Prop := 0 ≤ c.ln ∧ c.ln ≤ room ∧ tz c.buf c.ln.toNat ∧
  ((c.off = 0 ∧ c.frm = 0 ∧ c.val = 0) ∨ (c.off = 1 ∧ room = 0 ∧ c.shut = false) ∨ (c.off = 2 ∧ room = 0 ∧ c.val = 0) ∨ (c.off = 3 ∧ room = 0 ∧ c.val = 0 ∧ c.shut = true))
/-- Does a goroutine wait at a send on a channel? -/
def sendsC (P : Pr) (g : Gr) (n : Int) : Prop := g.st = 2 ∧ (insAt (fnAt P g.fn).code g.pc).op = 58 ∧ (insAt (fnAt P g.fn).code g.pc).a = n
def zeroG : Gr := ⟨0, 0, 0, 0, zero8⟩
def zeroC : Chc := ⟨[0, 0, 0, 0], 0, false, 0, 0, 0⟩
def goAt (s : Sts) (n : Int) : Gr := s.gos.getD n.toNat zeroG
def chAt (s : Sts) (n : Nat) : Chc := s.ch.getD n zeroC
/-- How many offers of the first k channels are a goroutine's. -/
def offs (s : Sts) (g : Int) : Nat → Int
  | 0 => 0
  | k + 1 => offs s g k + (if (chAt s k).off ≠ 0 ∧ (chAt s k).frm = g then 1 else 0)
structure fitsS (P : Pr) (s : Sts) : Prop where
  c1 : 1 ≤ s.cnt
  c6 : s.cnt ≤ 6
  g : ∀ i, s.cnt.toNat ≤ i → i < 6 → s.gos.getD i zeroG = zeroG
  v : tz s.vars P.vars.length
  o : tz s.own P.locks.toNat
  c : ∀ i, P.chans.length ≤ i → i < 4 → s.ch.getD i zeroC = zeroC
def offered (P : Pr) (s : Sts) : Prop := (∀ n, n < 4 → (chAt s n).off ≠ 0 → 0 ≤ (chAt s n).frm ∧ (chAt s n).frm < s.cnt ∧ sendsC P (goAt s (chAt s n).frm) n) ∧ ∀ g, g < 6 → (s.gos.getD g zeroG).st = 2 → offs s g 4 = 1
structure validS (P : Pr) (s : Sts) : Prop where
  r : (chk insP P).1 = 0
  f : fitsS P s
  g : ∀ i, i < s.cnt.toNat → stands P (s.gos.getD i zeroG)
  o : ∀ x ∈ s.own, 0 ≤ x ∧ x ≤ s.cnt
  h : ∀ n, n < P.chans.length → holdsC (chAt s n) (P.chans.getD n 0)
  w : offered P s
/-- A goroutine settled. -/
def settleG (ap : Int → Int → Int → Int × Int) (code : List Ins) (fuel : Nat) (g : Gr) : Gr := runG ap (fun o => decide (locP o)) code fuel (wake g)
theorem tz_set {l : List Int} {k a : Nat} {x : Int} (h : tz l k) (ha : a < k) : tz (l.set a x) k := fun i hi => by
  have := h i hi
  rw [List.getD_eq_getElem?_getD] at this ⊢
  rw [List.getElem?_set_ne (by omega)]
  exact this
theorem tz_mono {l : List Int} {k m : Nat} (h : tz l k) (hm : k ≤ m) : tz l m := fun i hi => h i (by omega)
theorem tz_zero8 (k : Nat) : tz zero8 k := fun i _ => by
  match i with
  | 0 | 1 | 2 | 3 | 4 | 5 | 6 | 7 => rfl
  | i + 8 => rfl
section
variable {ap : Int → Int → Int → Int × Int} (hap : ∀ k a b, 1 ≤ k → k ≤ 36 → I64 a → I64 b → I64 (ap k a b).1 ∧ ((ap k a b).2 = 20 → k = 19 ∨ k = 20) ∧ ((ap k a b).2 = 21 → k = 25 ∨ k = 26 ∨ k = 27))
include hap
/-- Behind one local instruction it can be so. -/
theorem loc1_stand {f : Fn} (hc : GoodC f.regs f.code) {g : Gr} (hg : GrIn f.code g) (h1 : g.st = 1) (h0 : g.why = 0) (ht : tz g.rg f.regs.toNat) (hl : locP (insAt f.code g.pc).op) (hn : I64 (insAt f.code g.pc).n) :
    GrIn f.code (loc1 ap g (insAt f.code g.pc)) ∧ (((loc1 ap g (insAt f.code g.pc)).st = 1 ∧ (loc1 ap g (insAt f.code g.pc)).why = 0 ∧ tz (loc1 ap g (insAt f.code g.pc)).rg f.regs.toNat) ∨
      ((loc1 ap g (insAt f.code g.pc)).st ≠ 1 ∧ (loc1 ap g (insAt f.code g.pc)).st ≠ 2 ∧ (loc1 ap g (insAt f.code g.pc)).st ≠ 5 ∧ standF f (loc1 ap g (insAt f.code g.pc)))) := by
  have hgb := hg.ri.get
  constructor
  · exact loc1_in hc hg hl hn fun q1 q2 => (hap _ _ _ q1 q2 (hgb _) (hgb _)).1
  · obtain ⟨hm1, hm2⟩ := insAt_mem hg.p0 hg.p1
    have gi := hc.each _ hm2
    have r0 := hc.r0
    have pe : ∀ (st why : Int), insAt f.code (g.end st why).pc = insAt f.code g.pc := fun _ _ => rfl
    have hst : ∀ (a x : Int), inR a f.regs → tz (g.rg.set a.toNat x) f.regs.toNat := fun a x ha => tz_set ht (by omega)
    have hap2 := hap (insAt f.code g.pc).op (g.get (insAt f.code g.pc).b) (g.get (insAt f.code g.pc).c)
    unfold loc1
    repeat' split
    all_goals first
      | exact .inl ⟨h1, h0, hst _ _ (gi.a (by omega))⟩
      | exact .inl ⟨h1, h0, ht⟩
      | (refine .inr ⟨by show (4 : Int) ≠ 1; decide, by show (4 : Int) ≠ 2; decide, by show (4 : Int) ≠ 5; decide, hg.p0, hg.p1, .inr (.inr (.inr ⟨rfl, tz_zero8 _, ?_⟩))⟩
         rw [pe]
         first
           | exact .inl ⟨rfl, by assumption⟩
           | exact .inr (.inl ⟨rfl, (hap2 (by omega) (by omega) (hgb _) (hgb _)).2.1 (by assumption)⟩)
           | exact .inr (.inr (.inl ⟨rfl, (hap2 (by omega) (by omega) (hgb _) (hgb _)).2.2 (by assumption)⟩)))
      | (refine .inr ⟨by show (3 : Int) ≠ 1; decide, by show (3 : Int) ≠ 2; decide, by show (3 : Int) ≠ 5; decide, hg.p0, hg.p1, .inr (.inr (.inl ⟨rfl, rfl, tz_zero8 _, ?_⟩))⟩
         rw [pe]
         assumption)
theorem runG_stand {f : Fn} (hc : GoodC f.regs f.code) (hn : ∀ i ∈ f.code, I64 i.n) : ∀ (n : Nat) {g : Gr}, GrIn f.code g → g.st = 1 → g.why = 0 → tz g.rg f.regs.toNat →
    GrIn f.code (runG ap (fun o => decide (locP o)) f.code n g) ∧ standF f (runG ap (fun o => decide (locP o)) f.code n g) ∧ (runG ap (fun o => decide (locP o)) f.code n g).st ≠ 2
  | n, g, hg, h1, h0, ht => by
    by_cases c : g.st = 1 ∧ decide (locP (insAt f.code g.pc).op) = true
    · have hl : locP (insAt f.code g.pc).op := of_decide_eq_true c.2
      cases n with
      | zero =>
        rw [runG_zero c]
        exact ⟨⟨hg.p0, hg.p1, hg.rl, hg.ri⟩, ⟨hg.p0, hg.p1, .inr (.inl ⟨rfl, h0, ht, hl⟩)⟩, by show (5 : Int) ≠ 2; decide⟩
      | succ n =>
        rw [runG_step c]
        obtain ⟨q1, q2⟩ := loc1_stand hap hc hg h1 h0 ht hl (hn _ (insAt_mem hg.p0 hg.p1).2)
        rcases q2 with ⟨a1, a2, a3⟩ | ⟨a1, a2, a3, a4⟩
        · exact runG_stand hc hn n q1 a1 a2 a3
        · rw [runG_stop (fun q => a1 q.1)]
          exact ⟨q1, a4, a2⟩
    · rw [runG_stop c]
      exact ⟨hg, ⟨hg.p0, hg.p1, .inl ⟨.inl h1, h0, ht⟩⟩, by omega⟩
end
end Go.Proofs.YtgmpdnmheiblpaaDoor.pg
/- Settling leaves a state of the program; a program's first state is one. -/
namespace Go.Proofs.YtgmpdnmheiblpaaDoor.pg
set_option linter.unusedVariables false
set_option linter.unusedSimpArgs false
/-- A state with another goroutine at a place. -/
def setG (s : Sts) (g : Nat) (x : Gr) : Sts := { s with gos := s.gos.set g x }
theorem setG_wf {s : Sts} (h : s.wf) (g : Nat) {x : Gr} (hx : x.wf) : (setG s g x).wf :=
  ⟨h.lv, h.lo, h.lc, by show (s.gos.set g x).length = 6; rw [List.length_set]; exact h.lg, h.av, h.ao, h.ac, fun y hy => by
    rcases List.mem_or_eq_of_mem_set hy with q | q
    · exact h.ag y q
    · rw [q]; exact hx, h.cn⟩
theorem getD_set {α : Type} (l : List α) (g i : Nat) (x d : α) (hg : g < l.length) : (l.set g x).getD i d = if i = g then x else l.getD i d := by
  rw [List.getD_eq_getElem?_getD, List.getElem?_set, List.getD_eq_getElem?_getD]
  by_cases c : i = g
  · subst c; simp [hg]
  · simp [c, Ne.symm c]
theorem stand_wf {f : Fn} (hc : GoodC f.regs f.code) {g : Gr} (hg : GrIn f.code g) (hs : standF f g) (hf : I64 g.fn) : g.wf := by
  have h64 := hc.l64
  have p0 := hg.p0
  have p1 := hg.p1
  have hst : I64 g.st := by
    have : g.st = 1 ∨ g.st = 2 ∨ g.st = 3 ∨ g.st = 4 ∨ g.st = 5 := by
      rcases hs.2.2 with q | q | q | q
      · omega
      · omega
      · omega
      · omega
    unfold I64; omega
  have hw : I64 g.why := by
    have : 0 ≤ g.why ∧ g.why ≤ 8 := by
      rcases hs.2.2 with q | q | q | q
      · omega
      · omega
      · omega
      · have := q.2.2; unfold failB at this; omega
    unfold I64; omega
  exact ⟨hst, hf, by unfold I64; omega, hw, hg.rl, hg.ri⟩
theorem fnAt_mem {P : Pr} {n : Int} (h0 : 0 ≤ n) (h1 : n < P.fns.length) : P.fns[n.toNat]? = some (fnAt P n) ∧ fnAt P n ∈ P.fns := by
  have hl : n.toNat < P.fns.length := by omega
  unfold fnAt
  rw [List.getD_eq_getElem?_getD, List.getElem?_eq_getElem hl]
  exact ⟨rfl, List.getElem_mem hl⟩
def PrI (P : Pr) : Prop := ∀ f ∈ P.fns, ∀ i ∈ f.code, I64 i.n
section
variable {ap : Int → Int → Int → Int × Int} (hap : ∀ k a b, 1 ≤ k → k ≤ 36 → I64 a → I64 b → I64 (ap k a b).1 ∧ ((ap k a b).2 = 20 → k = 19 ∨ k = 20) ∧ ((ap k a b).2 = 21 → k = 25 ∨ k = 26 ∨ k = 27))
theorem settleG_same {code : List Ins} {fuel : Nat} {g : Gr} (h1 : g.st ≠ 1) (h5 : g.st ≠ 5) : settleG ap code fuel g = g := by
  unfold settleG
  rw [wake_not h5]
  exact runG_stop (fun q => h1 q.1) fuel
include hap
/-- One that stands in a right program, settled: it stands there, and is no more or less than live where it was. -/
theorem settleG_stands {P : Pr} (hr : (chk insP P).1 = 0) (hi : PrI P) {g : Gr} (hw : g.wf) (hs : stands P g) (fuel : Nat) :
    stands P (settleG ap (fnAt P g.fn).code fuel g) ∧ (settleG ap (fnAt P g.fn).code fuel g).wf ∧ (settleG ap (fnAt P g.fn).code fuel g).fn = g.fn ∧ ((g.st = 1 ∨ g.st = 5) → (settleG ap (fnAt P g.fn).code fuel g).st ≠ 2) := by
  have hfn : (settleG ap (fnAt P g.fn).code fuel g).fn = g.fn := by unfold settleG; rw [runG_fn, wake_fn]
  obtain ⟨n0, n1, hsf⟩ := hs
  obtain ⟨m1, m2⟩ := fnAt_mem n0 n1
  have hc := good_of hr _ m2
  by_cases c : g.st = 1 ∨ g.st = 5
  · have hin : GrIn (fnAt P g.fn).code (wake g) := by
      unfold wake
      split
      · exact ⟨hsf.1, hsf.2.1, hw.2.2.2.2.1, hw.2.2.2.2.2⟩
      · exact ⟨hsf.1, hsf.2.1, hw.2.2.2.2.1, hw.2.2.2.2.2⟩
    have h1 : (wake g).st = 1 := by unfold wake; split <;> simp_all
    have h0 : (wake g).why = 0 := by
      have : g.why = 0 := by rcases hsf.2.2 with q | q | q | q <;> omega
      unfold wake; split <;> exact this
    have ht : tz (wake g).rg (fnAt P g.fn).regs.toNat := by
      have : tz g.rg (fnAt P g.fn).regs.toNat := by
        rcases hsf.2.2 with q | q | q | q
        · exact q.2.2
        · exact q.2.2.1
        · omega
        · omega
      unfold wake; split <;> exact this
    obtain ⟨a1, a2, a3⟩ := runG_stand hap hc (hi _ m2) fuel hin h1 h0 ht
    have a2' : standF (fnAt P g.fn) (settleG ap (fnAt P g.fn).code fuel g) := a2
    refine ⟨⟨by rw [hfn]; exact n0, by rw [hfn]; exact n1, by rw [hfn]; exact a2'⟩, stand_wf hc a1 a2 ?_, hfn, fun _ => a3⟩
    rw [hfn]
    exact hw.2.1
  · rw [settleG_same (by omega) (by omega)]
    exact ⟨⟨n0, n1, hsf⟩, hw, rfl, fun q => absurd q c⟩
/-- A state settled is one of the program. -/
theorem settle_valid {P : Pr} (hi : PrI P) {s : Sts} (hw : s.wf) (hv : validS P s) {g : Nat} (hg : g < s.cnt.toNat) (fuel : Nat) :
    validS P (setG s g (settleG ap (fnAt P (s.gos.getD g zeroG).fn).code fuel (s.gos.getD g zeroG))) := by
  have c6 := hv.f.c6
  have hgl : g < s.gos.length := by rw [hw.lg]; omega
  have hst := hv.g g hg
  have hgw : (s.gos.getD g zeroG).wf := by
    rw [List.getD_eq_getElem?_getD, List.getElem?_eq_getElem hgl]
    exact hw.ag _ (List.getElem_mem hgl)
  obtain ⟨k1, k2, k3, k4⟩ := settleG_stands hap hv.r hi hgw hst fuel
  by_cases c : (s.gos.getD g zeroG).st = 1 ∨ (s.gos.getD g zeroG).st = 5
  · have k5 := k4 c
    generalize settleG ap (fnAt P (s.gos.getD g zeroG).fn).code fuel (s.gos.getD g zeroG) = x at *
    have each : ∀ i, (setG s g x).gos.getD i zeroG = if i = g then x else s.gos.getD i zeroG := fun i => getD_set _ _ _ _ _ hgl
    refine ⟨hv.r, ⟨hv.f.c1, c6, fun i h1 h2 => ?_, hv.f.v, hv.f.o, hv.f.c⟩, fun i h => ?_, hv.o, hv.h, ?_, ?_⟩
    · rw [each, if_neg (by have h1' : s.cnt.toNat ≤ i := h1; omega)]
      exact hv.f.g i h1 h2
    · rw [each]
      split
      · exact k1
      · exact hv.g i h
    · intro n hn ho
      obtain ⟨q1, q2, q3⟩ := hv.w.1 n hn ho
      refine ⟨q1, q2, ?_⟩
      have hne : (chAt s n).frm.toNat ≠ g := fun e => by
        have := q3.1
        unfold goAt at this
        rw [e] at this
        omega
      show sendsC P ((s.gos.set g x).getD (chAt s n).frm.toNat zeroG) n
      rw [getD_set _ _ _ _ _ hgl, if_neg hne]
      exact q3
    · intro i h1 h2
      rw [each] at h2
      have hio : offs (setG s g x) i 4 = offs s i 4 := rfl
      rw [hio]
      split at h2
      · exact absurd h2 k5
      · exact hv.w.2 i h1 h2
  · rw [settleG_same (by omega) (by omega)]
    have e : setG s g (s.gos.getD g zeroG) = s := by
      unfold setG
      rw [List.getD_eq_getElem?_getD, List.getElem?_eq_getElem hgl]
      show Sts.mk _ _ _ (s.gos.set g s.gos[g]) _ = s
      rw [List.set_getElem_self]
    rw [e]
    exact hv
end
end Go.Proofs.YtgmpdnmheiblpaaDoor.pg
