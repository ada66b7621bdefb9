/- One instruction of a right program is spoilt: what is told, as plain mathematics. -/
import Derived.Test.YtpcobaoiglhkkaaDoorChkB
namespace Go.Proofs.YtpcobaoiglhkkaaDoor.pg
set_option linter.unusedVariables false
/-- Two programs of the same measures. -/
def Alike (P Q : Pr) : Prop := P.vars = Q.vars ∧ P.locks = Q.locks ∧ P.chans = Q.chans ∧ P.fns.length = Q.fns.length ∧ ∀ b, P.par b = Q.par b
def AlikeF (f g : Fn) : Prop := f.params = g.params ∧ f.regs = g.regs ∧ f.sels = g.sels ∧ f.code.length = g.code.length
theorem opndE_alike {r : Prop} [Decidable r] {P Q : Pr} {f g : Fn} (h : Alike P Q) (k : AlikeF f g) (l x : Int) : opndE r P f l x = opndE r Q g l x := by
  unfold opndE Pr.atom
  rw [h.1, h.2.1, h.2.2.1, h.2.2.2.1, k.2.1, k.2.2.1, k.2.2.2]
theorem insP_alike {P Q : Pr} {f g : Fn} (h : Alike P Q) (k : AlikeF f g) (i : Ins) : insP P f i = insP Q g i := by
  unfold insP
  have e : roomP (P.par i.b) i.c f.regs ↔ roomP (Q.par i.b) i.c g.regs := by rw [h.2.2.2.2, k.2.1]
  by_cases hr : roomP (P.par i.b) i.c f.regs
  · have hr2 := e.mp hr
    unfold insE
    simp only [opndE_alike h k]
    unfold opndE
    simp only [hr, hr2]
  · have hr2 : ¬ roomP (Q.par i.b) i.c g.regs := fun q => hr (e.mpr q)
    unfold insE
    simp only [opndE_alike h k]
    unfold opndE
    simp only [hr, hr2]
theorem selE_alike {P Q : Pr} {f g : Fn} (h : Alike P Q) (k : AlikeF f g) (s : Sel) : selE P f s = selE Q g s := by
  have hc : ∀ c, casE P f c = casE Q g c := fun c => by
    unfold casE Pr.room
    rw [h.2.2.1, k.2.1, k.2.2.2]
  have : casE P f = casE Q g := funext hc
  unfold selE
  rw [this, k.2.2.2]
theorem sizesE_alike {P Q : Pr} (h : Alike P Q) : sizesE P = sizesE Q := by
  unfold sizesE
  rw [h.1, h.2.1, h.2.2.1, h.2.2.2.1]
theorem fnE_alike {P Q : Pr} (h : Alike P Q) (n : Nat) (f : Fn) : fnE insP P n f = fnE insP Q n f := by
  have k : AlikeF f f := ⟨rfl, rfl, rfl, rfl⟩
  have e1 : insP P f = insP Q f := funext (insP_alike h k)
  have e2 : selE P f = selE Q f := funext (selE_alike h k)
  unfold fnE
  rw [e1, e2]
theorem fnsE_all {ins : Pr → Fn → Ins → Int} {P : Pr} : ∀ (l : List Fn) (j : Nat), (fnsE ins P l j).1 = 0 → ∀ i f, l[i]? = some f → (fnE ins P (j + i) f).1 = 0
  | [], _, _, i, f, h => by simp at h
  | x :: t, j, h0, i, f, h => by
    by_cases hx : (fnE ins P j x).1 = 0
    · cases i with
      | zero =>
        simp at h
        subst h
        exact hx
      | succ i =>
        simp only [fnsE, hx, if_true] at h0
        have := fnsE_all t (j + 1) h0 i f (by simpa using h)
        rwa [show j + 1 + i = j + (i + 1) by omega] at this
    · simp only [fnsE, hx, if_false] at h0
/-- The program with one instruction put in another's place. -/
def Fn.put (f : Fn) (pc : Nat) (i : Ins) : Fn := { f with code := f.code.set pc i }
def Pr.put (P : Pr) (n pc : Nat) (F : Fn) (i : Ins) : Pr := { P with fns := P.fns.set n (F.put pc i) }
theorem alike_put {P : Pr} {n pc : Nat} {F : Fn} {i : Ins} (hF : P.fns[n]? = some F) : Alike (P.put n pc F i) P := by
  refine ⟨rfl, rfl, rfl, by simp [Pr.put], fun b => ?_⟩
  unfold Pr.par Pr.put
  simp only
  by_cases hb : b.toNat = n
  · subst hb
    have := (List.getElem?_eq_some_iff.mp hF).1
    rw [List.getElem?_set_self this, hF]
    rfl
  · rw [List.getElem?_set_ne (fun q => hb q.symm)]
theorem alikeF_put (F : Fn) (pc : Nat) (i : Ins) : AlikeF (F.put pc i) F := ⟨rfl, rfl, rfl, by simp [Fn.put]⟩
/-- A right program in which one instruction is spoilt is told there. -/
theorem spoil {P : Pr} (h0 : (chk insP P).1 = 0) {n pc : Nat} {F : Fn} {i : Ins} (hF : P.fns[n]? = some F) (hpc : pc < F.code.length) {e : Int} (he : e ≠ 0) (hi : insP P F i = e) :
    chk insP (P.put n pc F i) = (e, (n : Int), (pc : Int)) := by
  have hA := alike_put (pc := pc) (i := i) hF
  have hB := alikeF_put F pc i
  have hs : sizesE P = 0 := by
    apply Classical.byContradiction
    intro q
    unfold chk at h0
    rw [if_neg q] at h0
    exact q h0
  have hall : ∀ k f, P.fns[k]? = some f → (fnE insP P k f).1 = 0 := fun k f hf => by
    unfold chk at h0
    rw [if_pos hs] at h0
    have := fnsE_all P.fns 0 h0 k f hf
    rwa [Nat.zero_add] at this
  have hn := (List.getElem?_eq_some_iff.mp hF).1
  have hgood := hall n F hF
  have hfn : fnE insP (P.put n pc F i) n (F.put pc i) = (e, (pc : Int)) := by
    have e1 : insP (P.put n pc F i) (F.put pc i) = insP P F := funext (insP_alike hA hB)
    have e2 : selE (P.put n pc F i) (F.put pc i) = selE P F := funext (selE_alike hA hB)
    have hsh : shaped F ∧ (n = 0 → F.params = 0) := by
      apply Classical.byContradiction
      intro q
      unfold fnE at hgood
      rw [if_neg q] at hgood
      exact absurd hgood (by decide)
    have hse : firstE (selE P F) F.sels = 0 := by
      apply Classical.byContradiction
      intro q
      unfold fnE at hgood
      rw [if_pos hsh, if_neg q] at hgood
      exact q hgood
    have hin : ∀ y ∈ F.code, insP P F y = 0 := by
      apply (firstE_iff _ _).mp
      apply Classical.byContradiction
      intro q
      unfold fnE at hgood
      rw [if_pos hsh, if_pos hse, if_neg q, firstAt_fst] at hgood
      exact q hgood
    have hsh2 : shaped (F.put pc i) ∧ (n = 0 → (F.put pc i).params = 0) := by
      refine ⟨⟨hsh.1.1, hsh.1.2.1, ?_, hsh.1.2.2.2⟩, hsh.2⟩
      rw [hB.2.2.2]
      exact hsh.1.2.2.1
    have hat : (F.put pc i).code[pc]? = some i := by simp [Fn.put, hpc]
    have hbe : ∀ k y, k < pc → (F.put pc i).code[k]? = some y → insP P F y = 0 := fun k y hk hy => by
      unfold Fn.put at hy
      simp only at hy
      rw [List.getElem?_set_ne (by omega)] at hy
      exact hin y (List.mem_of_getElem? hy)
    have h1 := firstAt_hit (insP P F) (F.put pc i).code 0 pc i hat hbe (by rw [hi]; exact he)
    have h2 := firstE_hit (insP P F) (F.put pc i).code pc i hat hbe (by rw [hi]; exact he)
    unfold fnE
    rw [if_pos hsh2, e1, e2, if_pos (show firstE (selE P F) (F.put pc i).sels = 0 from hse), if_neg (by rw [h2, hi]; exact he), h1, hi, Nat.zero_add]
  unfold chk
  rw [sizesE_alike hA, if_pos hs]
  have hat : (P.put n pc F i).fns[n]? = some (F.put pc i) := by simp [Pr.put, hn]
  have := fnsE_hit insP (P.put n pc F i) (P.put n pc F i).fns 0 n (F.put pc i) hat (fun k f hk hf => by
    rw [Nat.zero_add, fnE_alike hA]
    unfold Pr.put at hf
    simp only at hf
    rw [List.getElem?_set_ne (by omega)] at hf
    exact hall k f hf) (by rw [Nat.zero_add, hfn]; exact he)
  rw [this, Nat.zero_add, hfn]
end Go.Proofs.YtpcobaoiglhkkaaDoor.pg
