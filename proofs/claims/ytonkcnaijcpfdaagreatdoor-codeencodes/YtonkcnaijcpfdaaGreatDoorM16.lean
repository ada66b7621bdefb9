/- The reader of package code, as plain mathematics: what was written is read. -/
import Derived.Test.YtonkcnaijcpfdaaGreatDoorM14
import Derived.Test.YtonkcnaijcpfdaaGreatDoorM15
import Derived.Test.YtonkcnaijcpfdaaGreatDoorM11
namespace Go.Proofs.YtonkcnaijcpfdaaGreatDoor.pg
set_option linter.unusedVariables false
set_option linter.unusedSimpArgs false
/-- A function's bytes, a program's, without places. -/
def lisB {α : Type} (B : α → List Nat) (l : List α) : List Nat := putB l.length ++ l.flatMap B
def fnBp (f : Fn) : List Nat := putB f.params.toNat ++ (putB f.regs.toNat ++ (lisB selB f.sels ++ lisB insB f.code))
def encP (P : Pr) : List Nat := lisB varB P.vars ++ (putB P.locks.toNat ++ (lisB chB P.chans ++ lisB fnBp P.fns))
theorem fnB_fn (m : MFn) : fnB m = fnBp m.fn := by
  unfold fnB fnHead fnBp lisB MFn.fn
  simp only [List.length_map, List.flatMap_map, List.append_assoc]
theorem encB_pr (M : MPr) : encB M = magicB ++ encP M.pr := by
  unfold encB encH encP lisB MPr.pr
  rw [show (fnB : MFn → List Nat) = fun m => fnBp m.fn from funext fnB_fn]
  simp only [List.length_map, List.flatMap_map, List.append_assoc]
section
variable {f : Nat → Nat} {n : Nat}
/-- What was written is read. -/
def Fwd {α : Type} (f : Nat → Nat) (n : Nat) (rd : RS → α × RS) (L : List Nat) (x : α) : Prop := ∀ k a, Has f n k L → ∃ a', rd ⟨k, 0, a⟩ = (x, ⟨k + L.length, 0, a'⟩)
theorem fwd_U (x : Nat) (hx : x < 18446744073709551616) : Fwd f n (rdU f n) (putB x) (x : Int) := fun k a h => by
  refine ⟨k, ?_⟩
  unfold rdU
  rw [if_pos rfl, gotten_has h hx, if_pos rfl, putB_len]
  rfl
theorem fwd_S (y : Int) (hy : I64 y) : Fwd f n (rdS f n) (sgnB y) y := fun k a h => by
  have hz := octet.zg_bd y hy.1 hy.2
  obtain ⟨a', e⟩ := fwd_U (f := f) (n := n) (octet.zg y).toNat (by omega) k a h
  refine ⟨a', ?_⟩
  unfold rdS
  rw [e, Int.toNat_of_nonneg hz.1, octet.zb_zg]
  rfl
theorem fwd_num (x : Int) (h0 : 0 ≤ x) (h1 : x ≤ 2147483647) : Fwd f n (rdNum f n) (putB x.toNat) x := fun k a h => by
  obtain ⟨a', e⟩ := fwd_U (f := f) (n := n) x.toNat (by omega) k a h
  refine ⟨a', ?_⟩
  unfold rdNum
  rw [e, Int.toNat_of_nonneg h0, if_neg (by show ¬ 2147483647 < x; omega)]
theorem fwd_cnt (m : Int) (l : Nat) (h : (l : Int) ≤ m) (h2 : l ≤ 1000) : Fwd f n (rdCnt f n m) (putB l) (l : Int) := fun k a hh => by
  obtain ⟨a', e⟩ := fwd_U (f := f) (n := n) l (by omega) k a hh
  refine ⟨a', ?_⟩
  unfold rdCnt
  rw [e, if_neg (by show ¬ m < (l : Int); omega)]
theorem fwd_flag (b : Bool) : Fwd f n (rdFlag f n) (flagB b) b := fun k a h => by
  obtain ⟨a', e⟩ := fwd_U (f := f) (n := n) (if b then 1 else 0) (by split <;> omega) k a h
  refine ⟨a', ?_⟩
  unfold rdFlag
  rw [e]
  cases b <;> rfl
theorem fwd_many {α : Type} {rd : RS → α × RS} {B : α → List Nat} {l : List α} (hl : ∀ x ∈ l, Fwd f n rd (B x) x) (j : Nat) (hj : j ≤ l.length) : Fwd f n (rdMany rd j) ((l.take j).flatMap B) (l.take j) := by
  induction j with
  | zero => exact fun k a h => ⟨a, by simp [rdMany]⟩
  | succ j ih =>
    intro k a h
    obtain ⟨x, hx, hxm⟩ := get_lt l j (by omega)
    rw [take_flat_one B l j x hx] at h ⊢
    obtain ⟨h1, h2⟩ := Has.app.mp h
    obtain ⟨a1, e1⟩ := ih (by omega) k a h1
    obtain ⟨a2, e2⟩ := hl x hxm _ a1 h2
    refine ⟨a2, ?_⟩
    simp only [rdMany, e1, e2, List.length_append, take_one l j x hx, Nat.add_assoc]
theorem fwd_list {α : Type} {rd : RS → α × RS} {B : α → List Nat} {l : List α} {m : Int} (hl : ∀ x ∈ l, Fwd f n rd (B x) x) (h : (l.length : Int) ≤ m) (hm : m ≤ 1000) : Fwd f n (rdList f n m rd) (lisB B l) l := fun k a hh => by
  obtain ⟨h1, h2⟩ := Has.app.mp hh
  obtain ⟨a1, e1⟩ := fwd_cnt m l.length h (by omega) k a h1
  obtain ⟨a2, e2⟩ := fwd_many hl l.length (Nat.le_refl _) _ a1 (by rw [List.take_length]; exact h2)
  rw [List.take_length] at e2
  refine ⟨a2, ?_⟩
  simp only [rdList, e1, Int.toNat_natCast, e2, lisB, List.length_append, Nat.add_assoc]
theorem fwd_var (v : Vr) (h : I64 v.init) : Fwd f n (rdVar f n) (varB v) v := fun k a hh => by
  obtain ⟨h1, h2⟩ := Has.app.mp hh
  obtain ⟨a1, e1⟩ := fwd_flag v.atomic k a h1
  obtain ⟨a2, e2⟩ := fwd_S v.init h _ a1 h2
  refine ⟨a2, ?_⟩
  simp only [rdVar, e1, e2, varB, List.length_append, Nat.add_assoc]
theorem fwd_cas (c : Cas) (h : casOk c) : Fwd f n (rdCas f n) (casB c) c := fun k a hh => by
  obtain ⟨h1, hh⟩ := Has.app.mp hh
  obtain ⟨h2, hh⟩ := Has.app.mp hh
  obtain ⟨h3, h4⟩ := Has.app.mp hh
  obtain ⟨a1, e1⟩ := fwd_flag c.send k a h1
  obtain ⟨a2, e2⟩ := fwd_num c.ch h.1.1 (by omega) _ a1 h2
  obtain ⟨a3, e3⟩ := fwd_num (c.reg + 1) (by omega) (by omega) _ a2 h3
  obtain ⟨a4, e4⟩ := fwd_num c.to h.2.2.1 (by omega) _ a3 h4
  refine ⟨a4, ?_⟩
  simp only [rdCas, e1, e2, e3, e4, Int.add_sub_cancel]
  simp only [casB, List.length_append, Nat.add_assoc]
theorem fwd_sel (s : Sel) (h : ∀ c ∈ s.cases, casOk c) (hl : s.cases.length ≤ 4) (he : -1 ≤ s.els ∧ s.els ≤ 1000) : Fwd f n (rdSel f n) (selB s) s := fun k a hh => by
  obtain ⟨h1, h2⟩ := Has.app.mp hh
  obtain ⟨a1, e1⟩ := fwd_list (B := casB) (m := 4) (fun c hc => fwd_cas c (h c hc)) (by omega) (by omega) k a h1
  obtain ⟨a2, e2⟩ := fwd_num (s.els + 1) (by omega) (by omega) _ a1 h2
  refine ⟨a2, ?_⟩
  have e2' := e2
  simp only [rdSel, e1]
  rw [show (lisB casB s.cases) = putB s.cases.length ++ s.cases.flatMap casB from rfl, e2']
  simp only [selB, List.length_append, Nat.add_assoc, Int.add_sub_cancel]
theorem fwd_op (i : Ins) (j : Nat) (h : opOk i j) (h0 : lt i.op j = 45 → i.x j = 0) : Fwd f n (rdOp f n (lt i.op j)) (opB i.op j (i.x j)) (i.x j) := fun k a hh => by
  unfold opB at hh
  unfold rdOp opB
  by_cases h1 : lt i.op j = 45
  · rw [if_pos h1, if_pos h1, h0 h1]; exact ⟨a, rfl⟩
  · rw [if_neg h1] at hh
    rw [if_neg h1, if_neg h1]
    by_cases h2 : lt i.op j = 111
    · rw [if_pos h2] at hh
      rw [if_pos h2, if_pos h2]
      obtain ⟨a1, e1⟩ := fwd_num (i.x j + 1) (by omega) (by omega) k a hh
      exact ⟨a1, by rw [e1, Int.add_sub_cancel]⟩
    · rw [if_neg h2] at hh
      rw [if_neg h2, if_neg h2]
      by_cases h3 : lt i.op j = 110
      · rw [if_pos h3] at hh
        rw [if_pos h3, if_pos h3]
        exact fwd_S _ (by rcases h with h | h | h | h; exact absurd h h1; exact absurd h.1 h2; exact h.2; exact absurd h3 h.2.2.1) k a hh
      · rw [if_neg h3] at hh
        rw [if_neg h3, if_neg h3]
        exact fwd_num _ (by omega) (by omega) k a hh
theorem fwd_ins (i : Ins) (h : insOk i) (hu : ¬ unused i) : Fwd f n (rdIns f n) (insB i) i := fun k a hh => by
  obtain ⟨hop, hk, hok⟩ := h
  have hz : ∀ j, j < 4 → lt i.op j = 45 → i.x j = 0 := fun j hj h => Classical.byContradiction fun hx => hu ((unused_iff i).mpr ⟨j, hj, h, hx⟩)
  have eB : insB i = putB i.op.toNat ++ opB i.op 0 (i.x 0) ++ opB i.op 1 (i.x 1) ++ opB i.op 2 (i.x 2) ++ opB i.op 3 (i.x 3) := rfl
  rw [eB] at hh
  obtain ⟨hh, h4⟩ := Has.app.mp hh
  obtain ⟨hh, h3⟩ := Has.app.mp hh
  obtain ⟨hh, h2⟩ := Has.app.mp hh
  obtain ⟨h0, h1⟩ := Has.app.mp hh
  obtain ⟨a0, e0⟩ := fwd_num i.op hop.1 (by omega) k a h0
  obtain ⟨a1, e1⟩ := fwd_op i 0 (hok 0 (by omega)) (hz 0 (by omega)) _ a0 h1
  simp only [List.length_append, ← Nat.add_assoc] at h2 h3 h4
  obtain ⟨a2, e2⟩ := fwd_op i 1 (hok 1 (by omega)) (hz 1 (by omega)) _ a1 h2
  obtain ⟨a3, e3⟩ := fwd_op i 2 (hok 2 (by omega)) (hz 2 (by omega)) _ a2 h3
  obtain ⟨a4, e4⟩ := fwd_op i 3 (hok 3 (by omega)) (hz 3 (by omega)) _ a3 h4
  refine ⟨a4, ?_⟩
  simp only [rdIns, e0, if_neg hk, e1, e2, e3, e4]
  simp only [eB, List.length_append, Nat.add_assoc, Ins.x]
/-- What a program that is right is, as far as the reader needs it. -/
abbrev selOk (s : Sel) : Prop := (∀ c ∈ s.cases, casOk c) ∧ s.cases.length ≤ 4 ∧ -1 ≤ s.els ∧ s.els ≤ 1000
abbrev fnOkP (f : Fn) : Prop := (0 ≤ f.params ∧ f.params ≤ 1000) ∧ (0 ≤ f.regs ∧ f.regs ≤ 1000) ∧ f.code.length ≤ 64 ∧ (∀ x ∈ f.code, insOk x ∧ ¬ unused x) ∧ f.sels.length ≤ 4 ∧ ∀ x ∈ f.sels, selOk x
abbrev prOkP (P : Pr) : Prop := (P.vars.length ≤ 8 ∧ ∀ x ∈ P.vars, I64 x.init) ∧ (0 ≤ P.locks ∧ P.locks ≤ 1000) ∧ (P.chans.length ≤ 4 ∧ ∀ x ∈ P.chans, 0 ≤ x ∧ x ≤ 1000) ∧ P.fns.length ≤ 8 ∧ ∀ f ∈ P.fns, fnOkP f
theorem fwd_fn (g : Fn) (h : fnOkP g) : Fwd f n (rdFn f n) (fnBp g) g := fun k a hh => by
  obtain ⟨hp, hr, hc, hi, hs, hsl⟩ := h
  obtain ⟨h1, hh⟩ := Has.app.mp hh
  obtain ⟨h2, hh⟩ := Has.app.mp hh
  obtain ⟨h3, h4⟩ := Has.app.mp hh
  obtain ⟨a1, e1⟩ := fwd_num g.params hp.1 (by omega) k a h1
  obtain ⟨a2, e2⟩ := fwd_num g.regs hr.1 (by omega) _ a1 h2
  obtain ⟨a3, e3⟩ := fwd_list (rd := rdSel f n) (B := selB) (m := 4) (fun s hs => fwd_sel s (hsl s hs).1 (hsl s hs).2.1 (hsl s hs).2.2) (by omega) (by omega) _ a2 h3
  obtain ⟨a4, e4⟩ := fwd_list (rd := rdIns f n) (B := insB) (m := 64) (fun s hs => fwd_ins s (hi s hs).1 (hi s hs).2) (by omega) (by omega) _ a3 h4
  refine ⟨a4, ?_⟩
  simp only [rdFn, e1, e2, e3, e4]
  simp only [fnBp, List.length_append, Nat.add_assoc]
theorem fwd_pr (P : Pr) (h : prOkP P) : Fwd f n (rdPr f n) (encP P) P := fun k a hh => by
  obtain ⟨⟨v1, v2⟩, hl, ⟨c1, c2⟩, f1, f2⟩ := h
  obtain ⟨h1, hh⟩ := Has.app.mp hh
  obtain ⟨h2, hh⟩ := Has.app.mp hh
  obtain ⟨h3, h4⟩ := Has.app.mp hh
  obtain ⟨a1, e1⟩ := fwd_list (rd := rdVar f n) (B := varB) (m := 8) (fun s hs => fwd_var s (v2 s hs)) (by omega) (by omega) k a h1
  obtain ⟨a2, e2⟩ := fwd_num P.locks hl.1 (by omega) _ a1 h2
  obtain ⟨a3, e3⟩ := fwd_list (rd := rdNum f n) (B := chB) (m := 4) (fun s hs => fwd_num s (c2 s hs).1 (by have := (c2 s hs).2; omega)) (by omega) (by omega) _ a2 h3
  obtain ⟨a4, e4⟩ := fwd_list (rd := rdFn f n) (B := fnBp) (m := 8) (fun s hs => fwd_fn s (f2 s hs)) (by omega) (by omega) _ a3 h4
  refine ⟨a4, ?_⟩
  simp only [rdPr, e1, e2, e3, e4]
  simp only [encP, List.length_append, Nat.add_assoc]
end
end Go.Proofs.YtonkcnaijcpfdaaGreatDoor.pg
/- The reader of package code, as plain mathematics: what was read stands there just as it is written. -/
namespace Go.Proofs.YtonkcnaijcpfdaaGreatDoor.pg
set_option linter.unusedVariables false
set_option linter.unusedSimpArgs false
section
variable {f : Nat → Nat} {n : Nat}
/-- From s to t these bytes were read, and nothing was wrong. -/
def Got (f : Nat → Nat) (n : Nat) (s t : RS) (L : List Nat) : Prop := s.e = 0 ∧ Has f n s.k L ∧ t.k = s.k + L.length
theorem Got.trans {s t u : RS} {L M : List Nat} (h : Got f n s t L) (g : Got f n t u M) : Got f n s u (L ++ M) := by
  refine ⟨h.1, Has.app.mpr ⟨h.2.1, h.2.2 ▸ g.2.1⟩, ?_⟩
  rw [g.2.2, h.2.2, List.length_append, Nat.add_assoc]
theorem Got.le {s t : RS} {L : List Nat} (h : Got f n s t L) : t.k ≤ n := by have := h.2.1.1; have := h.2.2; omega
def Bwd {α : Type} (f : Nat → Nat) (n : Nat) (rd : RS → α × RS) (B : α → List Nat) : Prop := ∀ s, s.k ≤ n → (rd s).2.k ≤ n ∧ ((rd s).2.e = 0 → Got f n s (rd s).2 (B (rd s).1))
theorem RS.fail_k (s : RS) (e : Int) : (s.fail e).k = s.k := by unfold RS.fail; split <;> rfl
theorem bwd_U (hf : ∀ i, f i < 256) : Bwd f n (rdU f n) (fun x => putB x.toNat) := fun s hs => by
  unfold rdU
  by_cases h1 : s.e = 0
  · rw [if_pos h1]
    by_cases h2 : (octet.gotten f n s.k).2.2 = 0
    · rw [if_pos h2]
      obtain ⟨x, e1, e2, e3, e4⟩ := gotten_once hf (n := n) (k := s.k) (X := (octet.gotten f n s.k).1) (E := (octet.gotten f n s.k).2.1) (by rw [← h2])
      refine ⟨?_, fun h => ⟨h1, ?_, ?_⟩⟩
      · show (octet.gotten f n s.k).2.1.toNat ≤ n
        have := e4.1
        rw [putB_len] at this
        rw [e3, Int.toNat_natCast]; exact this
      · show Has f n s.k (putB (octet.gotten f n s.k).1.toNat)
        rw [e1, Int.toNat_natCast]; exact e4
      · show (octet.gotten f n s.k).2.1.toNat = s.k + (putB (octet.gotten f n s.k).1.toNat).length
        rw [e1, e3, Int.toNat_natCast, Int.toNat_natCast, putB_len]
    · rw [if_neg h2]; exact ⟨hs, fun h => absurd h h2⟩
  · rw [if_neg h1]; exact ⟨hs, fun h => absurd h h1⟩
theorem bwd_S (hf : ∀ i, f i < 256) : Bwd f n (rdS f n) sgnB := fun s hs => by
  obtain ⟨h1, h2⟩ := bwd_U hf s hs
  refine ⟨h1, fun h => ?_⟩
  have := h2 h
  unfold rdS sgnB
  rw [octet.zg_zb _ (rdU_range hf s).1]
  exact this
theorem bwd_num (hf : ∀ i, f i < 256) : Bwd f n (rdNum f n) (fun x => putB x.toNat) := fun s hs => by
  unfold rdNum
  by_cases h1 : 2147483647 < (rdU f n s).1
  · rw [if_pos h1]; exact ⟨by show (RS.fail _ _).k ≤ n; rw [RS.fail_k]; exact (bwd_U hf s hs).1, fun h => absurd h (RS.fail_e (by decide))⟩
  · rw [if_neg h1]; exact bwd_U hf s hs
theorem bwd_cnt (hf : ∀ i, f i < 256) (m : Int) : Bwd f n (rdCnt f n m) (fun x => putB x.toNat) := fun s hs => by
  unfold rdCnt
  by_cases h1 : m < (rdU f n s).1
  · rw [if_pos h1]; exact ⟨by show (RS.fail _ _).k ≤ n; rw [RS.fail_k]; exact (bwd_U hf s hs).1, fun h => absurd h (RS.fail_e (by decide))⟩
  · rw [if_neg h1]; exact bwd_U hf s hs
theorem bwd_flag (hf : ∀ i, f i < 256) : Bwd f n (rdFlag f n) flagB := fun s hs => by
  unfold rdFlag
  obtain ⟨h2, h3⟩ := bwd_U hf s hs
  by_cases h1 : 1 < (rdU f n s).1
  · simp only [if_pos h1]; exact ⟨by rw [RS.fail_k]; exact h2, fun h => absurd h (RS.fail_e (by decide))⟩
  · simp only [if_neg h1]
    refine ⟨h2, fun h => ?_⟩
    have h4 := (rdU_range hf (n := n) s).1
    have : flagB (decide ((rdU f n s).1 = 1)) = putB (rdU f n s).1.toNat := by
      unfold flagB
      have : (rdU f n s).1 = 0 ∨ (rdU f n s).1 = 1 := by omega
      rcases this with q | q <;> rw [q] <;> rfl
    rw [this]
    exact h3 h
theorem bwd_many {α : Type} {rd : RS → α × RS} {B : α → List Nat} (h : Bwd f n rd B) (m : Nat) : Bwd f n (fun s => rdMany rd m s) (fun l => l.flatMap B) := by
  induction m with
  | zero => exact fun s hs => ⟨hs, fun he => ⟨he, Has.nil hs, rfl⟩⟩
  | succ m ih =>
    intro s hs
    obtain ⟨i1, i2⟩ := ih s hs
    obtain ⟨j1, j2⟩ := h _ i1
    refine ⟨j1, fun he => ?_⟩
    have g2 := j2 he
    have g1 := i2 g2.1
    simp only [rdMany]
    rw [List.flatMap_append]
    simp only [List.flatMap_cons, List.flatMap_nil, List.append_nil]
    exact g1.trans g2
theorem bwd_list {α : Type} {rd : RS → α × RS} {B : α → List Nat} (hf : ∀ i, f i < 256) (h : Bwd f n rd B) (m : Int) : Bwd f n (rdList f n m rd) (lisB B) := fun s hs => by
  obtain ⟨i1, i2⟩ := bwd_cnt hf m s hs
  obtain ⟨j1, j2⟩ := bwd_many h (rdCnt f n m s).1.toNat _ i1
  refine ⟨j1, fun he => ?_⟩
  have g2 := j2 he
  have g1 := i2 g2.1
  unfold lisB rdList
  rw [many_len]
  exact g1.trans g2
theorem bwd_var (hf : ∀ i, f i < 256) : Bwd f n (rdVar f n) varB := fun s hs => by
  obtain ⟨i1, i2⟩ := bwd_flag hf s hs
  obtain ⟨j1, j2⟩ := bwd_S hf _ i1
  exact ⟨j1, fun he => (i2 (j2 he).1).trans (j2 he)⟩
theorem bwd_cas (hf : ∀ i, f i < 256) : Bwd f n (rdCas f n) casB := fun s hs => by
  obtain ⟨i1, i2⟩ := bwd_flag hf s hs
  obtain ⟨j1, j2⟩ := bwd_num hf _ i1
  obtain ⟨k1, k2⟩ := bwd_num hf _ j1
  obtain ⟨l1, l2⟩ := bwd_num hf _ k1
  refine ⟨l1, fun he => ?_⟩
  have g4 := l2 he
  have g3 := k2 g4.1
  have g2 := j2 g3.1
  have g1 := i2 g2.1
  simp only [rdCas, casB, Int.sub_add_cancel]
  exact g1.trans (g2.trans (g3.trans g4))
theorem bwd_sel (hf : ∀ i, f i < 256) : Bwd f n (rdSel f n) selB := fun s hs => by
  obtain ⟨i1, i2⟩ := bwd_list hf (bwd_cas hf) 4 s hs
  obtain ⟨j1, j2⟩ := bwd_num hf _ i1
  refine ⟨j1, fun he => ?_⟩
  have g2 := j2 he
  have g1 := i2 g2.1
  simp only [rdSel, selB, Int.sub_add_cancel]
  exact g1.trans g2
theorem bwd_op (hf : ∀ i, f i < 256) (op : Int) (j : Nat) : Bwd f n (rdOp f n (lt op j)) (opB op j) := fun s hs => by
  unfold rdOp opB
  by_cases h1 : lt op j = 45
  · simp only [if_pos h1]; exact ⟨hs, fun he => ⟨he, Has.nil hs, rfl⟩⟩
  · simp only [if_neg h1]
    by_cases h2 : lt op j = 111
    · simp only [if_pos h2, Int.sub_add_cancel]; exact bwd_num hf s hs
    · simp only [if_neg h2]
      by_cases h3 : lt op j = 110
      · simp only [if_pos h3]; exact bwd_S hf s hs
      · simp only [if_neg h3]; exact bwd_num hf s hs
theorem bwd_ins (hf : ∀ i, f i < 256) : Bwd f n (rdIns f n) insB := fun s hs => by
  obtain ⟨i1, i2⟩ := bwd_num hf s hs
  obtain ⟨a1, a2⟩ := bwd_op hf (rdNum f n s).1 0 _ i1
  obtain ⟨b1, b2⟩ := bwd_op hf (rdNum f n s).1 1 _ a1
  obtain ⟨c1, c2⟩ := bwd_op hf (rdNum f n s).1 2 _ b1
  obtain ⟨d1, d2⟩ := bwd_op hf (rdNum f n s).1 3 _ c1
  unfold rdIns
  by_cases h : formOf (rdNum f n s).1 = []
  · simp only [if_pos h]; exact ⟨by rw [RS.fail_k]; exact i1, fun h => absurd h (RS.fail_e (by decide))⟩
  · simp only [if_neg h]
    refine ⟨d1, fun he => ?_⟩
    have g4 := d2 he
    have g3 := c2 g4.1
    have g2 := b2 g3.1
    have g1 := a2 g2.1
    have g0 := i2 g1.1
    exact ((((g0.trans g1).trans g2).trans g3).trans g4)
theorem bwd_fn (hf : ∀ i, f i < 256) : Bwd f n (rdFn f n) fnBp := fun s hs => by
  obtain ⟨i1, i2⟩ := bwd_num hf s hs
  obtain ⟨j1, j2⟩ := bwd_num hf _ i1
  obtain ⟨k1, k2⟩ := bwd_list hf (bwd_sel hf) 4 _ j1
  obtain ⟨l1, l2⟩ := bwd_list hf (bwd_ins hf) 64 _ k1
  refine ⟨l1, fun he => ?_⟩
  have g4 := l2 he
  have g3 := k2 g4.1
  have g2 := j2 g3.1
  have g1 := i2 g2.1
  exact g1.trans (g2.trans (g3.trans g4))
theorem bwd_pr (hf : ∀ i, f i < 256) : Bwd f n (rdPr f n) encP := fun s hs => by
  obtain ⟨i1, i2⟩ := bwd_list hf (bwd_var hf) 8 s hs
  obtain ⟨j1, j2⟩ := bwd_num hf _ i1
  obtain ⟨k1, k2⟩ := bwd_list (B := chB) hf (bwd_num hf) 4 _ j1
  obtain ⟨l1, l2⟩ := bwd_list hf (bwd_fn hf) 8 _ k1
  refine ⟨l1, fun he => ?_⟩
  have g4 := l2 he
  have g3 := k2 g4.1
  have g2 := j2 g3.1
  have g1 := i2 g2.1
  exact g1.trans (g2.trans (g3.trans g4))
end
end Go.Proofs.YtonkcnaijcpfdaaGreatDoor.pg
/- A program that is right is one that the writer and the reader take. -/
namespace Go.Proofs.YtonkcnaijcpfdaaGreatDoor.pg
set_option linter.unusedVariables false
set_option linter.unusedSimpArgs false
theorem lt_letters (op : Int) (k : Nat) (hk : k < 4) (h : known op) : lt op k = 45 ∨ lt op k = 97 ∨ lt op k = 99 ∨ lt op k = 102 ∨ lt op k = 108 ∨ lt op k = 110 ∨ lt op k = 111 ∨ lt op k = 112 ∨ lt op k = 114 ∨ lt op k = 115 ∨ lt op k = 116 ∨ lt op k = 118 ∨ lt op k = 119 := by
  by_cases ho : 0 ≤ op ∧ op < 66
  · obtain ⟨m, rfl⟩ : ∃ m : Nat, op = (m : Int) := ⟨op.toNat, by omega⟩
    have key : ∀ m : Fin 66, known ((m.val : Nat) : Int) → ∀ k : Fin 4, lt ((m.val : Nat) : Int) k.val = 45 ∨ lt ((m.val : Nat) : Int) k.val = 97 ∨ lt ((m.val : Nat) : Int) k.val = 99 ∨ lt ((m.val : Nat) : Int) k.val = 102 ∨ lt ((m.val : Nat) : Int) k.val = 108 ∨ lt ((m.val : Nat) : Int) k.val = 110 ∨ lt ((m.val : Nat) : Int) k.val = 111 ∨ lt ((m.val : Nat) : Int) k.val = 112 ∨ lt ((m.val : Nat) : Int) k.val = 114 ∨ lt ((m.val : Nat) : Int) k.val = 115 ∨ lt ((m.val : Nat) : Int) k.val = 116 ∨ lt ((m.val : Nat) : Int) k.val = 118 ∨ lt ((m.val : Nat) : Int) k.val = 119 := by decide
    exact key ⟨m, by omega⟩ h ⟨k, hk⟩
  · exact absurd (formOf_big op ho) h
theorem opnd_range {r : Prop} [Decidable r] {P : Pr} {f : Fn} {l x : Int} (h : opndE r P f l x = 0) (h1 : f.regs ≤ 8) (h2 : P.vars.length ≤ 8) (h3 : P.locks ≤ 4) (h4 : P.chans.length ≤ 4) (h5 : f.sels.length ≤ 4) (h6 : P.fns.length ≤ 8) (h7 : f.code.length ≤ 64)
    (hl : l = 97 ∨ l = 99 ∨ l = 102 ∨ l = 108 ∨ l = 114 ∨ l = 115 ∨ l = 116 ∨ l = 118 ∨ l = 119) : 0 ≤ x ∧ x ≤ 1000 := by
  unfold opndE at h
  rcases hl with rfl | rfl | rfl | rfl | rfl | rfl | rfl | rfl | rfl
  all_goals
    simp only [Int.reduceEq, false_and, or_false, false_or, if_false, if_true, or_self, or_true] at h
    split at h
    · rename_i q; omega
    · simp at h
theorem par_range {P : Pr} (h : ∀ g ∈ P.fns, 0 ≤ g.params ∧ g.params ≤ 8) (b : Int) : 0 ≤ P.par b ∧ P.par b ≤ 8 := by
  unfold Pr.par
  split
  · rename_i g hg; exact h g (List.mem_of_getElem? hg)
  · omega
theorem right_ins {P : Pr} {f : Fn} {i : Ins} (h : insP P f i = 0) (h1 : f.regs ≤ 8) (h2 : P.vars.length ≤ 8) (h3 : P.locks ≤ 4) (h4 : P.chans.length ≤ 4) (h5 : f.sels.length ≤ 4) (h6 : P.fns.length ≤ 8) (h7 : f.code.length ≤ 64) (hp : ∀ g ∈ P.fns, 0 ≤ g.params ∧ g.params ≤ 8) (hn : I64 i.n) : insOk i ∧ ¬ unused i := by
  have hk := ins_known h
  have ho := ins_opnds h
  have hop : 0 ≤ i.op ∧ i.op < 66 := Classical.byContradiction fun q => hk (formOf_big _ q)
  have hu : ¬ unused i := fun hu => by unfold insP insE at h; rw [if_pos hk, if_pos hu] at h; simp at h
  refine ⟨⟨by omega, hk, fun k hk4 => ?_⟩, hu⟩
  have hx := ho k hk4
  rcases lt_letters i.op k hk4 hk with q | q | q | q | q | q | q | q | q | q | q | q | q
  · exact .inl q
  · have := opnd_range hx h1 h2 h3 h4 h5 h6 h7 (by omega); exact .inr (.inr (.inr ⟨by omega, by omega, by omega, by omega, by omega⟩))
  · have := opnd_range hx h1 h2 h3 h4 h5 h6 h7 (by omega); exact .inr (.inr (.inr ⟨by omega, by omega, by omega, by omega, by omega⟩))
  · have := opnd_range hx h1 h2 h3 h4 h5 h6 h7 (by omega); exact .inr (.inr (.inr ⟨by omega, by omega, by omega, by omega, by omega⟩))
  · have := opnd_range hx h1 h2 h3 h4 h5 h6 h7 (by omega); exact .inr (.inr (.inr ⟨by omega, by omega, by omega, by omega, by omega⟩))
  · have : k = 3 := by
      have key : ∀ m : Fin 66, ∀ k : Fin 4, lt ((m.val : Nat) : Int) k.val = 110 → k.val = 3 := by decide
      have := key ⟨i.op.toNat, by omega⟩ ⟨k, hk4⟩
      simp only [Int.toNat_of_nonneg hop.1] at this
      exact this q
    subst this
    exact .inr (.inr (.inl ⟨q, hn⟩))
  · rw [q] at hx
    have := opnd_o hx
    exact .inr (.inl ⟨q, by omega, by omega⟩)
  · rw [q] at hx
    have hr := opnd_p hx
    have hk2 := (p_where _ _ q).1
    subst hk2
    have hpr := par_range hp i.b
    have := room_from hr hpr.1
    have hc : 0 ≤ i.x 2 ∧ i.x 2 ≤ 8 := by show 0 ≤ i.c ∧ i.c ≤ 8; omega
    exact .inr (.inr (.inr ⟨by omega, by omega, by omega, by omega, by omega⟩))
  · have := opnd_range hx h1 h2 h3 h4 h5 h6 h7 (by omega); exact .inr (.inr (.inr ⟨by omega, by omega, by omega, by omega, by omega⟩))
  · have := opnd_range hx h1 h2 h3 h4 h5 h6 h7 (by omega); exact .inr (.inr (.inr ⟨by omega, by omega, by omega, by omega, by omega⟩))
  · have := opnd_range hx h1 h2 h3 h4 h5 h6 h7 (by omega); exact .inr (.inr (.inr ⟨by omega, by omega, by omega, by omega, by omega⟩))
  · have := opnd_range hx h1 h2 h3 h4 h5 h6 h7 (by omega); exact .inr (.inr (.inr ⟨by omega, by omega, by omega, by omega, by omega⟩))
  · have := opnd_range hx h1 h2 h3 h4 h5 h6 h7 (by omega); exact .inr (.inr (.inr ⟨by omega, by omega, by omega, by omega, by omega⟩))
theorem right_cas {P : Pr} {f : Fn} {c : Cas} (h : casE P f c = 0) (h1 : f.regs ≤ 8) (h4 : P.chans.length ≤ 4) (h7 : f.code.length ≤ 64) : casOk c := by
  have q1 : inR c.ch P.chans.length := Classical.byContradiction fun q => by rw [casE_obj q] at h; simp at h
  have q2 : inR c.reg f.regs ∨ c.reg = -1 ∧ c.send = false := Classical.byContradiction fun q => by rw [casE_reg q1 q] at h; simp at h
  have q3 : ¬ (c.send = true ∧ P.room c.ch = 0) := fun q => by rw [casE_kind q1 q2 q] at h; simp at h
  have q4 : inR c.to f.code.length := Classical.byContradiction fun q => by rw [casE_target q1 q2 q3 q] at h; simp at h
  refine ⟨by omega, by omega, by omega⟩
theorem right_sel {P : Pr} {f : Fn} {s : Sel} (h : selE P f s = 0) (h1 : f.regs ≤ 8) (h4 : P.chans.length ≤ 4) (h7 : f.code.length ≤ 64) (hl : s.cases.length ≤ 4) : selOk s := by
  unfold selE at h
  by_cases h0 : firstE (casE P f) s.cases = 0
  · rw [if_pos h0] at h
    have he : s.els = -1 ∨ inR s.els f.code.length := Classical.byContradiction fun q => by rw [if_neg q] at h; simp at h
    exact ⟨fun c hc => right_cas ((firstE_iff _ _).mp h0 c hc) h1 h4 h7, hl, by omega, by omega⟩
  · rw [if_neg h0] at h; exact absurd h h0
theorem right_ok {P : Pr} (h : (chk insP P).1 = 0) (hv : ∀ x ∈ P.vars, I64 x.init) (hi : ∀ f ∈ P.fns, ∀ i ∈ f.code, I64 i.n) : prOkP P := by
  have hs : sizesE P = 0 := Classical.byContradiction fun q => by unfold chk at h; rw [if_neg q] at h; exact q h
  obtain ⟨s1, s2, s3, s4⟩ := sizes_ok hs
  have hch : ∀ x ∈ P.chans, 0 ≤ x ∧ x ≤ 4 := by
    unfold sizesE at hs
    rw [if_pos ⟨s1, s2, s3, s4⟩] at hs
    intro x hx
    have := (firstE_iff _ _).mp hs x hx
    apply Classical.byContradiction
    intro q
    rw [if_neg q] at this
    simp at this
  have hsh : ∀ f ∈ P.fns, shaped f := fun f hf => by
    obtain ⟨i, hi, rfl⟩ := List.getElem_of_mem hf
    exact (fnE_shaped (chk_each h i _ (List.getElem?_eq_getElem hi))).1
  have hp : ∀ g ∈ P.fns, 0 ≤ g.params ∧ g.params ≤ 8 := fun g hg => by have := hsh g hg; omega
  refine ⟨⟨s1, hv⟩, by omega, ⟨s3, fun x hx => by have := hch x hx; omega⟩, s4.2, fun f hf => ?_⟩
  obtain ⟨p1, p2, _⟩ := chk_parts h f hf
  obtain ⟨f1, f2, f3, f4, f5⟩ := hsh f hf
  exact ⟨by omega, by omega, f3.2, fun x hx => right_ins (p2 x hx) f1.2 s1 s2.2 s3 f4 s4.2 f3.2 hp (hi f hf x hx), f4, fun x hx => right_sel (p1 x hx) f1.2 s3 f3.2 (f5 x hx).2⟩
/-- The same of a program in memory, as the writer wants it. -/
theorem pr_ok {M : MPr} (h : prOkP M.pr) : prOk M := by
  obtain ⟨⟨_, v2⟩, hl, ⟨_, c2⟩, f1, f2⟩ := h
  refine ⟨v2, hl, c2, by have : (M.pr.fns).length = M.fns.length := by simp [MPr.pr]
                         omega, fun f hf => ?_⟩
  obtain ⟨p1, p2, p3, p4, p5, p6⟩ := f2 f.fn (List.mem_map_of_mem hf)
  have q3 : f.code.length ≤ 64 := p3
  refine ⟨p1, p2, by omega, fun x hx => (p4 x hx).1, fun x hx => ?_⟩
  obtain ⟨r1, _, r3⟩ := p6 x.sel (List.mem_map_of_mem hx)
  exact ⟨r1, r3⟩
theorem right_mem {M : MPr} {w : World} (h : (chk insP M.pr).1 = 0) (hl : M.lies w) : prOkP M.pr := by
  refine right_ok h hl.2.2.2.1 fun f hf i hi => ?_
  obtain ⟨g, hg, rfl⟩ := List.mem_map.mp hf
  exact ((hl.2.2.2.2.2.2 g hg).2.2.1 i hi).2.2.2.2
/-- Its bytes are few. -/
theorem sz_le (x : Nat) (h : x < 18446744073709551616) : (putB x).length ≤ 10 := by rw [putB_len]; exact (octet.szN_bd x h).2
theorem flat_le {α : Type} (B : α → List Nat) (l : List α) (k : Nat) (h : ∀ x ∈ l, (B x).length ≤ k) : (l.flatMap B).length ≤ l.length * k := by
  induction l with
  | nil => simp
  | cons x t ih =>
    rw [List.flatMap_cons, List.length_append, List.length_cons, Nat.add_mul]
    have := h x (by simp)
    have := ih fun y hy => h y (by simp [hy])
    omega
theorem lis_le {α : Type} (B : α → List Nat) (l : List α) (k m : Nat) (h : ∀ x ∈ l, (B x).length ≤ k) (hl : l.length ≤ m) (hm : m ≤ 1000) : (lisB B l).length ≤ 10 + m * k := by
  have h1 := flat_le B l k h
  have h2 := sz_le l.length (by omega)
  have h3 : l.length * k ≤ m * k := Nat.mul_le_mul_right k hl
  unfold lisB
  rw [List.length_append]
  omega
theorem cas_le (c : Cas) (h : casOk c) : (casB c).length ≤ 40 := by
  unfold casB flagB
  simp only [List.length_append]
  have h1 := sz_le (if c.send = true then 1 else 0) (by split <;> omega)
  have h2 := sz_le c.ch.toNat (by omega)
  have h3 := sz_le (c.reg + 1).toNat (by omega)
  have h4 := sz_le c.to.toNat (by omega)
  omega
theorem sgn_le (y : Int) (h : I64 y) : (sgnB y).length ≤ 10 := sz_le _ (by have := octet.zg_bd y h.1 h.2; omega)
theorem op_le (i : Ins) (k : Nat) (h : opOk i k) : (opB i.op k (i.x k)).length ≤ 10 := by
  unfold opB
  split
  · simp
  · split
    · exact sz_le _ (by omega)
    · split
      · exact sgn_le _ (by rcases h with h | h | h | h; omega; omega; exact h.2; omega)
      · exact sz_le _ (by omega)
theorem ins_le (i : Ins) (h : insOk i) : (insB i).length ≤ 50 := by
  have eB : insB i = putB i.op.toNat ++ opB i.op 0 (i.x 0) ++ opB i.op 1 (i.x 1) ++ opB i.op 2 (i.x 2) ++ opB i.op 3 (i.x 3) := rfl
  rw [eB]
  simp only [List.length_append]
  have := sz_le i.op.toNat (by have := h.1; omega)
  have := op_le i 0 (h.2.2 0 (by omega))
  have := op_le i 1 (h.2.2 1 (by omega))
  have := op_le i 2 (h.2.2 2 (by omega))
  have := op_le i 3 (h.2.2 3 (by omega))
  omega
theorem sel_le (s : Sel) (h : selOk s) : (selB s).length ≤ 180 := by
  have h1 := lis_le casB s.cases 40 4 (fun c hc => cas_le c (h.1 c hc)) h.2.1 (by omega)
  have h2 := sz_le (s.els + 1).toNat (by have := h.2.2; omega)
  have : selB s = lisB casB s.cases ++ putB (s.els + 1).toNat := rfl
  rw [this, List.length_append]
  omega
theorem fn_le (f : Fn) (h : fnOkP f) : (fnBp f).length ≤ 4000 := by
  obtain ⟨p1, p2, p3, p4, p5, p6⟩ := h
  have h1 := sz_le f.params.toNat (by omega)
  have h2 := sz_le f.regs.toNat (by omega)
  have h3 := lis_le selB f.sels 180 4 (fun s hs => sel_le s (p6 s hs)) p5 (by omega)
  have h4 := lis_le insB f.code 50 64 (fun s hs => ins_le s (p4 s hs).1) p3 (by omega)
  unfold fnBp
  simp only [List.length_append]
  omega
theorem enc_le (P : Pr) (h : prOkP P) : (encP P).length ≤ 40000 := by
  obtain ⟨⟨v1, v2⟩, hl, ⟨c1, c2⟩, f1, f2⟩ := h
  have h1 := lis_le varB P.vars 20 8 (fun v hv => by
    unfold varB flagB
    rw [List.length_append]
    have := sgn_le v.init (v2 v hv)
    have := sz_le (if v.atomic = true then 1 else 0) (by split <;> omega)
    omega) v1 (by omega)
  have h2 := sz_le P.locks.toNat (by omega)
  have h3 := lis_le chB P.chans 10 4 (fun c hc => sz_le _ (by have := c2 c hc; omega)) c1 (by omega)
  have h4 := lis_le fnBp P.fns 4000 8 (fun f hf => fn_le f (f2 f hf)) f1 (by omega)
  unfold encP
  simp only [List.length_append]
  omega
end Go.Proofs.YtonkcnaijcpfdaaGreatDoor.pg
