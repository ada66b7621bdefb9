/- What every statement of package code asks first. -/
import Derived.Test.YtonkcnaijcpfdaaGreatDoorM25
import Derived.Test.YtonkcnaijcpfdaaGreatDoorM8
namespace Go.Proofs.YtonkcnaijcpfdaaGreatDoor.pg
open Go.ChangeShapes Go.WideShapes Go.ChangeAt Go.RowKit
set_option linter.unusedVariables false
set_option linter.unusedSimpArgs false
set_option maxRecDepth 100000
theorem step_g0 {P : Program} {ops : Array Oper} {o : Oper} {a : Act} {w : World} {K : Act → World → Prop} {Q : Exit → Act → World → Prop} {E : Prop} (hw : Region.wanted o (yielded ops a.tmps) = true) (f : FuncId)
    (ho : o.op = .call { callee := .value (.func f), args := #[], argTypes := #[] }) (hcf : (callFunc f #[]).run P w = .ok (.enter f #[]) w) (R : Ending → World → Prop) (hc : Calls P f #[] w R)
    (hK : ∀ e w', R e w' → ∃ v, e = .returned v ∧ K (a.put o.dst v) w') :
    if Region.wanted o (yielded ops a.tmps) = true then Oper.wp P o a w K Q else E := by
  rw [if_pos hw]
  have hrun : (execOp a.eval o).run P w = .ok (.enter f #[]) w := by
    have hf : a.eval (.func f) = .func (.func f) #[] #[] := rfl
    simp [execOp, ho, resolve, invoke, hf, Deferred.ofValue, hcf]
  unfold Oper.wp
  rw [hrun, Oper.upon_enter]
  refine hc.mono fun e w' h => ?_
  obtain ⟨v, rfl, hk⟩ := hK e w' h
  exact hk
theorem step_g1 {P : Program} {ops : Array Oper} {o : Oper} {a : Act} {w : World} {K : Act → World → Prop} {Q : Exit → Act → World → Prop} {E : Prop} (hw : Region.wanted o (yielded ops a.tmps) = true) (f : FuncId) (x : Operand) (t : TypeId)
    (ho : o.op = .call { callee := .value (.func f), args := #[x], argTypes := #[t] }) (vx : Value) (hx : a.eval x = vx) (hcf : (callFunc f #[vx]).run P w = .ok (.enter f #[vx]) w) (R : Ending → World → Prop) (hc : Calls P f #[vx] w R)
    (hK : ∀ e w', R e w' → ∃ v, e = .returned v ∧ K (a.put o.dst v) w') :
    if Region.wanted o (yielded ops a.tmps) = true then Oper.wp P o a w K Q else E := by
  rw [if_pos hw]
  have hrun : (execOp a.eval o).run P w = .ok (.enter f #[vx]) w := by
    have hf : a.eval (.func f) = .func (.func f) #[] #[] := rfl
    simp [execOp, ho, resolve, invoke, hx, hf, Deferred.ofValue, hcf]
  unfold Oper.wp
  rw [hrun, Oper.upon_enter]
  refine hc.mono fun e w' h => ?_
  obtain ⟨v, rfl, hk⟩ := hK e w' h
  exact hk
theorem step_g2 {P : Program} {ops : Array Oper} {o : Oper} {a : Act} {w : World} {K : Act → World → Prop} {Q : Exit → Act → World → Prop} {E : Prop} (hw : Region.wanted o (yielded ops a.tmps) = true) (f : FuncId) (x y : Operand) (t u : TypeId)
    (ho : o.op = .call { callee := .value (.func f), args := #[x, y], argTypes := #[t, u] }) (vx vy : Value) (hx : a.eval x = vx) (hy : a.eval y = vy) (hcf : (callFunc f #[vx, vy]).run P w = .ok (.enter f #[vx, vy]) w) (R : Ending → World → Prop) (hc : Calls P f #[vx, vy] w R)
    (hK : ∀ e w', R e w' → ∃ v, e = .returned v ∧ K (a.put o.dst v) w') :
    if Region.wanted o (yielded ops a.tmps) = true then Oper.wp P o a w K Q else E := by
  rw [if_pos hw]
  have hrun : (execOp a.eval o).run P w = .ok (.enter f #[vx, vy]) w := by
    have hf : a.eval (.func f) = .func (.func f) #[] #[] := rfl
    simp [execOp, ho, resolve, invoke, hx, hy, hf, Deferred.ofValue, hcf]
  unfold Oper.wp
  rw [hrun, Oper.upon_enter]
  refine hc.mono fun e w' h => ?_
  obtain ⟨v, rfl, hk⟩ := hK e w' h
  exact hk
theorem cf_least (args : Array Value) (w : World) : (callFunc 26 args).run Tryz.prog w = .ok (.enter 26 args) w := cf_any Tryz.func26 (by kernel_rfl) (by kernel_rfl) args w
theorem cf_rsame (args : Array Value) (w : World) : (callFunc 14 args).run Tryz.prog w = .ok (.enter 14 args) w := cf_any Tryz.func14 (by kernel_rfl) (by kernel_rfl) args w
section
variable {w : World}
theorem decode_full (P : Pr) (hok : prOkP P) (B C : Int) (hck : chk insP P = (0, B, C)) (va : Option Addr) (vc : Nat) (hR : Rows w 1 va vc ((fullB P).map u8c)) (hbl : ∀ b ∈ blk va, b < w.heap.size) (hF : prog.Forms w) :
    Calls Tryz.prog 27 #[.slice va (fullB P).length vc] w fun e w' => ∃ m : MPr, e = .returned (.tuple #[m.val, .int .i64 0, .int .i64 0]) ∧ m.pr = P ∧ m.lies w' ∧ Below w.heap.size w w' := by
  have hr := rows_row hR (full_bt P)
  have h1 := hR.1
  rw [List.length_map] at h1
  have h2 := hR.2.1
  have h3 : va = none → (fullB P).length = 0 ∧ vc = 0 := fun e => by
    have := hR.2.2.1 e
    exact ⟨by simpa using congrArg List.length this.1, this.2⟩
  obtain ⟨d1, d2⟩ := dec_enc P hok
  have hl := full_len P hok
  refine (decode_ok hr h3 (.inr hbl) (by omega) h1 (by omega) (fun wx h => hF.later h) d2 0 B C (by rw [d1]; exact hck) rfl).mono fun e w' ⟨m, he, hp, ho, hb⟩ => ?_
  have hw := wf_pr hr.2.1 (n := (fullB P).length) (rdMag (fl (fullB P)) (fullB P).length)
  exact ⟨m, he, hp.trans d1, own_lies ho (by rw [hp]; exact hw), hb⟩
theorem decode_nil (hF : prog.Forms w) : Calls Tryz.prog 27 #[.slice none 0 0] w fun e w' => e = .returned (.tuple #[zeroP.val, .int .i64 40, .int .i64 0]) ∧ Below w.heap.size w w' := by
  obtain ⟨h1, h2⟩ := nil_dS (fun _ => 0)
  have := decode_wrong (row_none w) (fun _ => ⟨rfl, rfl⟩) (.inl rfl) (by omega) (Nat.le_refl _) (by decide) (fun wx h => hF.later h) (by rw [h1]; decide)
  rw [h1, h2] at this
  exact this
theorem encode_full (M : MPr) (hl : M.lies w) (hF : prog.Forms w) (P : Pr) (hP : M.pr = P) (B C : Int) (hA : chk insP P = (0, B, C)) (n : Nat) (hn : (fullB P).length = n) :
    Calls Tryz.prog 6 #[M.val] w fun e w' => ∃ va vc, e = .returned (.tuple #[.slice va n vc, .int .i64 0]) ∧ Rows w' 1 va vc ((fullB P).map u8c) ∧ (∀ b ∈ blk va, b < w'.heap.size) ∧ Below w.heap.size w w' := by
  refine (encode_ok hl hF B C (by rw [hP]; exact hA)).mono fun e w' ⟨va, vc, he, ho, hb⟩ => ?_
  rw [full_M, hP] at ho
  rw [full_M, hP, hn] at he
  exact ⟨va, vc, he, own_rows ho (u8_len _), fun b hb => (blk_lt ho b hb).2, hb⟩
theorem least_is (w : World) : Calls Tryz.prog 26 #[] w fun e w' => ∃ M : MPr, e = .returned M.val ∧ M.pr = leastP ∧ M.lies w' ∧ Below w.heap.size w w' :=
  (least_any w).mono fun e w' ⟨b, he, hl, hb⟩ => ⟨leastM b, he, leastM_pr b, hl, hb⟩
set_option maxHeartbeats 800000 in
theorem speaks_any (hF : prog.Forms w) : Calls Tryz.prog 15 #[] w fun e w' => e = .returned (.bool true) ∧ Below w.heap.size w w' := by
  have c1 := least_is w
  obtain ⟨L, hL⟩ : ∃ L, Hid (fullB leastP = L) := ⟨_, rfl⟩
  obtain ⟨P0, hP0⟩ : ∃ P0, Hid (leastP = P0) := ⟨_, rfl⟩
  have c2 : ∀ wx (M : MPr), Below w.heap.size w wx → M.pr = P0 → M.lies wx → Calls Tryz.prog 6 #[M.val] wx fun e w' => ∃ va vc, e = .returned (.tuple #[.slice va 18 vc, .int .i64 0]) ∧ Rows w' 1 va vc (L.map u8c) ∧ (∀ b ∈ blk va, b < w'.heap.size) ∧ Below wx.heap.size wx w' := fun wx M hx hp hl => by
    rw [← hL.out]
    exact encode_full M hl (hF.later hx) leastP (hp.trans hP0.out.symm) 0 0 least_chk 18 least_len
  have c3 : ∀ wx va vc, Below w.heap.size w wx → Rows wx 1 va vc (L.map u8c) → (∀ b ∈ blk va, b < wx.heap.size) → Calls Tryz.prog 27 #[.slice va 18 vc] wx fun e w' => ∃ m : MPr, e = .returned (.tuple #[m.val, .int .i64 0, .int .i64 0]) ∧ m.pr = P0 ∧ m.lies w' ∧ Below wx.heap.size wx w' := fun wx va vc hx hr hb => by
    have := decode_full leastP least_ok 0 0 least_chk va vc (by rw [hL.out]; exact hr) hb (hF.later hx)
    rw [least_len, hP0.out] at this
    exact this
  have c4 : ∀ wx, Below w.heap.size w wx → Calls Tryz.prog 27 #[.slice none 0 0] wx _ := fun wx hx => decode_nil (hF.later hx)
  have c5 : ∀ wx, Calls Tryz.prog 26 #[] wx fun e w' => ∃ M : MPr, e = .returned M.val ∧ M.pr = P0 ∧ M.lies w' ∧ Below wx.heap.size wx w' := fun wx => by have := least_is wx; rw [hP0.out] at this; exact this
  have c6 : ∀ wx (m M : MPr), m.pr = P0 → M.pr = P0 → m.lies wx → M.lies wx → Calls Tryz.prog 14 #[m.val, M.val] wx _ := fun wx m M hm hM h1 h2 => rsame_any m M wx h1 h2 true ⟨fun _ => by rw [hm, hM], fun _ => rfl⟩
  rw [hP0.out] at c1
  clear hF hL hP0
  go_enter Tryz.func15, Tryz.ntmps15
  go_wp2_with (first
    | (go_at_call 26; (with_reducible refine c1.mono ?_); rintro e w1 ⟨M, rfl, hM, hl1, b1⟩; clear c1)
    | (go_at_call 6; (with_reducible refine (c2 _ _ b1 hM hl1).mono ?_); rintro e w2 ⟨va, vc, rfl, hR2, hb2, b2⟩; (have B2 := bthen b1 b2); (have hR2H : Hid (Rows w2 1 va vc (L.map u8c)) := hR2); (have hb2H : Hid (∀ b ∈ blk va, b < w2.heap.size) := hb2); clear hR2 hb2 c2 hM hl1 b2)
    | (go_at_call 27; (with_reducible refine (c3 _ _ _ B2 hR2H.out hb2H.out).mono ?_); rintro e w3 ⟨m, rfl, hm, hl3, b3⟩; (have hmH : Hid (m.pr = P0) := hm); (have B4 : Hid (Below w.heap.size w (w3.alloc (objP m))) := bthen (bthen B2 b3) (boxed _ _)); (have p3 : Hid ((w3.alloc (objP m)).heap[w3.heap.size]? = some (objP m)) := heap_alloc_new _ _); (have hl4 : Hid (m.lies (w3.alloc (objP m))) := hl3.later (boxed _ _)); clear c3 hm hl3 b3 hR2H hb2H B2)
    | (go_at_call 27; (with_reducible refine (c4 _ B4.out).mono ?_); rintro e w5 ⟨rfl, b5⟩; (have B6 : Hid (Below w.heap.size w (w5.alloc objP0)) := bthen (bthen B4.out b5) (boxed _ _)); (have b46 : Hid (Below (w3.alloc (objP m)).heap.size (w3.alloc (objP m)) (w5.alloc objP0)) := bthen b5 (boxed _ _)); clear c4 b5))
  have hlW : Hid (m.lies (w5.alloc objP0)) := hl4.out.later b46.out
  have pW := (b46.out.block w3.heap.size (by rw [World.size_alloc]; omega)).trans p3.out
  have hBW := B6.out
  generalize w5.alloc objP0 = W at *
  have q0 := whole_cell pW 0 _ rfl
  have q1 := whole_cell pW 1 _ rfl
  have q2 := whole_cell pW 2 _ rfl
  have q3 := whole_cell pW 3 _ rfl
  have ql := (Array.getElem?_eq_some_iff.mp pW).1
  clear p3 hl4 b46 B4 B6 b1
  generalize w3.heap.size = S3 at *
  have keepS : ∀ w', Below W.heap.size W w' → (w'.cell? ⟨S3, 0, none⟩ = some (.slice m.va m.vars.length m.vcap) ∧ w'.cell? ⟨S3, 1, none⟩ = some (.int .i64 m.locks) ∧ w'.cell? ⟨S3, 2, none⟩ = some (.slice m.cha m.chans.length m.chcap) ∧ w'.cell? ⟨S3, 3, none⟩ = some (.slice m.fa m.fns.length m.fcap) ∧ Below W.heap.size W w') := fun w' hb => by
    have p := (hb.block S3 ql).trans pW
    exact ⟨whole_cell p 0 _ rfl, whole_cell p 1 _ rfl, whole_cell p 2 _ rfl, whole_cell p 3 _ rfl, hb⟩
  have keepT : ∀ w', (w'.cell? ⟨S3, 0, none⟩ = some (.slice m.va m.vars.length m.vcap) ∧ w'.cell? ⟨S3, 1, none⟩ = some (.int .i64 m.locks) ∧ w'.cell? ⟨S3, 2, none⟩ = some (.slice m.cha m.chans.length m.chcap) ∧ w'.cell? ⟨S3, 3, none⟩ = some (.slice m.fa m.fns.length m.fcap) ∧ Below W.heap.size W w') → Below W.heap.size W w' := fun w' h => h.2.2.2.2
  have keepH : Hid (∀ w', (w'.cell? ⟨S3, 0, none⟩ = some (.slice m.va m.vars.length m.vcap) ∧ w'.cell? ⟨S3, 1, none⟩ = some (.int .i64 m.locks) ∧ w'.cell? ⟨S3, 2, none⟩ = some (.slice m.cha m.chans.length m.chcap) ∧ w'.cell? ⟨S3, 3, none⟩ = some (.slice m.fa m.fns.length m.fcap) ∧ Below W.heap.size W w') → Below W.heap.size W w') := keepT
  clear q0 q1 q2 q3 keepT
  go_region_held3 (fun w' => w'.cell? ⟨S3, 0, none⟩ = some (.slice m.va m.vars.length m.vcap) ∧ w'.cell? ⟨S3, 1, none⟩ = some (.int .i64 m.locks) ∧ w'.cell? ⟨S3, 2, none⟩ = some (.slice m.cha m.chans.length m.chcap) ∧ w'.cell? ⟨S3, 3, none⟩ = some (.slice m.fa m.fns.length m.fcap) ∧ Below W.heap.size W w') ((refine keepS _ ?_; repeat (first | exact keepH.out _ (by assumption) | assumption | exact Below.refl _ _ | refine Below.drew ?_)))
    (first | (go_at_call 26; refine (c5 _).mono ?_; rintro e w6 ⟨M2, rfl, hM2, hl6, b6⟩; have hB6 : Below W.heap.size W w6 := bthen (by first | exact keepH.out _ (by assumption) | exact Below.refl _ _ | exact (Below.refl _ _).drew) b6) | (go_at_call 14; refine (c6 _ m M2 hmH.out hM2 (hlW.out.later (by first | assumption | exact hB6.drew | exact keepH.out _ (by assumption))) (by first | exact hl6 | exact hl6.later (Below.refl _ _).drew)).mono ?_; rintro e w7 ⟨rfl, b7⟩; have hB7 : Below W.heap.size W w7 := bthen hB6 (by first | exact b7 | exact below_undrew b7)))
  all_goals go_wp2
  all_goals go_ret
  all_goals exact ⟨rfl, bthen hBW hB7⟩
end
end Go.Proofs.YtonkcnaijcpfdaaGreatDoor.pg
/- The spans of a program's instructions, as plain mathematics: the first that is asked for, and what stands at its byte. -/
namespace Go.Proofs.YtonkcnaijcpfdaaGreatDoor.pg
set_option linter.unusedVariables false
set_option linter.unusedSimpArgs false
set_option maxRecDepth 100000
theorem take_mono {α : Type} (B : α → List Nat) (l : List α) {i j : Nat} (h : i ≤ j) : ((l.take i).flatMap B).length ≤ ((l.take j).flatMap B).length := by
  have : l.take i = (l.take j).take i := by rw [List.take_take, Nat.min_eq_left h]
  rw [this]
  exact take_flat B (l.take j) i
theorem spTo_mem (nf : Int) (out : List Nat) (l : List Ins) (k : Nat) : ∀ s ∈ spTo nf out l k, s.f = nf ∧ 0 ≤ s.pc ∧ s.pc < k ∧ s.pc < l.length ∧ s.bh ≤ ((out ++ (l.take k).flatMap insB).length : Nat) := by
  induction k with
  | zero => intro s hs; simp [spTo] at hs
  | succ k ih =>
    intro s hs
    have hm := take_mono insB l (show k ≤ k + 1 by omega)
    unfold spTo at hs
    rcases List.mem_append.mp hs with hs | hs
    · have := ih s hs
      simp only [List.length_append] at this ⊢
      omega
    · cases hk : l[k]? with
      | none => rw [hk] at hs; simp at hs
      | some i =>
        rw [hk] at hs
        simp only [List.mem_singleton] at hs
        subst hs
        have hl := (List.getElem?_eq_some_iff.mp hk).1
        exact ⟨rfl, by show (0 : Int) ≤ k; omega, by show (k : Int) < (k + 1 : Nat); omega, by show (k : Int) < l.length; omega, Int.le_refl _⟩
theorem spTo_more (nf : Int) (out : List Nat) (l : List Ins) (k d : Nat) : ∃ r, spTo nf out l (k + d) = spTo nf out l k ++ r := by
  induction d with
  | zero => exact ⟨[], by simp⟩
  | succ d ih =>
    obtain ⟨r, hr⟩ := ih
    have h : spTo nf out l (k + d + 1) = spTo nf out l (k + d) ++ (match l[k + d]? with | some i => [⟨nf, (k + d : Nat), ((out ++ (l.take (k + d)).flatMap insB).length : Nat), ((out ++ (l.take (k + d + 1)).flatMap insB).length : Nat)⟩] | none => []) := rfl
    rw [hr, List.append_assoc] at h
    exact ⟨_, h⟩
theorem spTo_at (nf : Int) (out : List Nat) (l : List Ins) (k : Nat) (i : Ins) (hk : l[k]? = some i) : ∃ r, spTo nf out l l.length = spTo nf out l k ++ (⟨nf, k, ((out ++ (l.take k).flatMap insB).length : Nat), ((out ++ (l.take (k + 1)).flatMap insB).length : Nat)⟩ :: r) := by
  have hl := (List.getElem?_eq_some_iff.mp hk).1
  obtain ⟨r, hr⟩ := spTo_more nf out l (k + 1) (l.length - (k + 1))
  rw [show k + 1 + (l.length - (k + 1)) = l.length by omega] at hr
  refine ⟨r, ?_⟩
  rw [hr]
  conv => lhs; unfold spTo
  rw [hk]
  simp
theorem fnSp_mem (nf : Int) (out : List Nat) (f : MFn) : ∀ s ∈ fnSp nf out f, s.f = nf ∧ 0 ≤ s.pc ∧ s.pc < f.code.length ∧ s.bh ≤ ((out ++ fnB f).length : Nat) := by
  intro s hs
  have := spTo_mem _ _ _ _ s hs
  rw [List.take_length] at this
  refine ⟨this.1, this.2.1, this.2.2.1, ?_⟩
  have e : (out ++ fnB f).length = (out ++ fnHead f ++ putB f.code.length ++ f.code.flatMap insB).length := by unfold fnB; simp only [List.length_append]; omega
  rw [e]
  exact this.2.2.2.2
theorem spF_mem (out : List Nat) (l : List MFn) (j : Nat) : ∀ s ∈ spF out l j, 0 ≤ s.f ∧ s.f < j ∧ (∃ f, l[s.f.toNat]? = some f ∧ 0 ≤ s.pc ∧ s.pc < f.code.length) ∧ s.bh ≤ ((out ++ (l.take j).flatMap fnB).length : Nat) := by
  induction j with
  | zero => intro s hs; simp [spF] at hs
  | succ j ih =>
    intro s hs
    have hm := take_mono fnB l (show j ≤ j + 1 by omega)
    unfold spF at hs
    rcases List.mem_append.mp hs with hs | hs
    · obtain ⟨h1, h2, h3, h4⟩ := ih s hs
      simp only [List.length_append] at h4 ⊢
      exact ⟨h1, by omega, h3, by omega⟩
    · cases hj : l[j]? with
      | none => rw [hj] at hs; simp at hs
      | some f =>
        rw [hj] at hs
        obtain ⟨h1, h2, h3, h4⟩ := fnSp_mem _ _ _ s hs
        refine ⟨by omega, by omega, ⟨f, by rw [h1, Int.toNat_natCast]; exact hj, h2, h3⟩, ?_⟩
        rw [take_flat_one fnB l j f hj, ← List.append_assoc]
        exact h4
theorem spF_more (out : List Nat) (l : List MFn) (k d : Nat) : ∃ r, spF out l (k + d) = spF out l k ++ r := by
  induction d with
  | zero => exact ⟨[], by simp⟩
  | succ d ih =>
    obtain ⟨r, hr⟩ := ih
    have h : spF out l (k + d + 1) = spF out l (k + d) ++ (match l[k + d]? with | some f => fnSp (k + d : Nat) (out ++ (l.take (k + d)).flatMap fnB) f | none => []) := rfl
    rw [hr, List.append_assoc] at h
    exact ⟨_, h⟩
/-- What stands ahead of an instruction. -/
def aheadB (M : MPr) (F : Nat) (f : MFn) (pc : Nat) : List Nat := encH M ++ putB M.fns.length ++ (M.fns.take F).flatMap fnB ++ fnHead f ++ putB f.code.length ++ (f.code.take pc).flatMap insB
theorem enc_at (M : MPr) (F : Nat) (f : MFn) (hF : M.fns[F]? = some f) (pc : Nat) (i : Ins) (hi : f.code[pc]? = some i) :
    ∃ pre post, encSp M = pre ++ (⟨F, pc, ((aheadB M F f pc).length : Nat), ((aheadB M F f pc ++ insB i).length : Nat)⟩ :: post) ∧ ∀ s : Spn, s ∈ pre → ¬ (s.f = ((F : Nat) : Int) ∧ s.pc = ((pc : Nat) : Int)) ∧ s.bh ≤ (((aheadB M F f pc).length : Nat) : Int) := by
  have hl := (List.getElem?_eq_some_iff.mp hF).1
  obtain ⟨r, hr⟩ := spF_more (encH M ++ putB M.fns.length) M.fns (F + 1) (M.fns.length - (F + 1))
  rw [show F + 1 + (M.fns.length - (F + 1)) = M.fns.length by omega] at hr
  have h1 : spF (encH M ++ putB M.fns.length) M.fns (F + 1) = spF (encH M ++ putB M.fns.length) M.fns F ++ fnSp F (encH M ++ putB M.fns.length ++ (M.fns.take F).flatMap fnB) f := by
    conv => lhs; unfold spF
    rw [hF]
  obtain ⟨r2, hr2⟩ := spTo_at F (encH M ++ putB M.fns.length ++ (M.fns.take F).flatMap fnB ++ fnHead f ++ putB f.code.length) f.code pc i hi
  have h2 : fnSp F (encH M ++ putB M.fns.length ++ (M.fns.take F).flatMap fnB) f = spTo F (encH M ++ putB M.fns.length ++ (M.fns.take F).flatMap fnB ++ fnHead f ++ putB f.code.length) f.code pc ++ (⟨F, pc, ((aheadB M F f pc).length : Nat), ((aheadB M F f pc ++ insB i).length : Nat)⟩ :: r2) := by
    show spTo _ _ _ _ = _
    rw [hr2, take_flat_one insB f.code pc i hi, ← List.append_assoc]
    rfl
  refine ⟨spF (encH M ++ putB M.fns.length) M.fns F ++ spTo F (encH M ++ putB M.fns.length ++ (M.fns.take F).flatMap fnB ++ fnHead f ++ putB f.code.length) f.code pc, r2 ++ r, ?_, fun s hs => ?_⟩
  · show spF _ _ _ = _
    rw [hr, h1, h2]
    simp only [List.append_assoc, List.cons_append]
  · rcases List.mem_append.mp hs with hs | hs
    · obtain ⟨a1, a2, _, a4⟩ := spF_mem _ _ _ s hs
      refine ⟨fun q => by omega, Int.le_trans a4 ?_⟩
      unfold aheadB
      simp only [List.length_append]
      omega
    · obtain ⟨a1, a2, a3, _, a5⟩ := spTo_mem _ _ _ _ s hs
      exact ⟨fun q => by omega, a5⟩
/-- No span is of what is not there. -/
theorem enc_none (M : MPr) (F pc : Int) (h : ¬ (0 ≤ F ∧ ∃ f, M.fns[F.toNat]? = some f ∧ 0 ≤ pc ∧ pc < f.code.length)) : ∀ s ∈ encSp M, ¬ (s.f = F ∧ s.pc = pc) := fun s hs q => by
  obtain ⟨a1, _, ⟨f, h1, h2, h3⟩, _⟩ := spF_mem _ _ _ s hs
  rw [q.1] at a1 h1
  rw [q.2] at h2 h3
  exact h ⟨a1, f, h1, h2, h3⟩
end Go.Proofs.YtonkcnaijcpfdaaGreatDoor.pg
/- The contract of the document's own Sum. -/
namespace Go.Proofs.YtonkcnaijcpfdaaGreatDoor.octet
open Go.ChangeShapes Go.WideShapes Go.ChangeAt Go.RowKit
open wrapped
set_option linter.unusedVariables false
set_option maxHeartbeats 1000000 in
theorem refsum_any (a : Option Addr) (len cap : Nat) (f : Nat → Nat) (w : World) (hr : Row w a len f) :
    Calls Tryz.prog 24 #[.slice a len cap] w fun e w' => e = .returned (.int .u32 ((4294967295 - crc f len : Nat) : Int)) ∧ w' = w := by
  obtain ⟨hlen, hf, hcells⟩ := hr
  go_enter Tryz.func24, Tryz.ntmps24
  go_wp2
  go_loop [3, 4] (fun c i => ∃ (k C : Nat), k ≤ len ∧ i = .int .i64 k ∧ c = .int .u32 C ∧ C < 4294967296 ∧ Hid (C = crc f k)) (fun _ i => len - (intOf i).toNat)
  case atStart => exact ⟨0, 4294967295, Nat.zero_le _, rfl, rfl, by decide, rfl⟩
  case round =>
    obtain ⟨k, C, hk, rfl, rfl, hC, hCk⟩ := hrel
    by_cases hlt : k < len
    · rcases hcells with h0 | ⟨b, off, rfl, hcell⟩
      · omega
      · have hc := hcell k hlt
        have hfk := hf k
        have e0 : bits .xor .u32 (C : Int) ((f k : Nat) : Int) = ((C ^^^ f k : Nat) : Int) := u32_xor_nat C (f k) hC (by omega)
        obtain ⟨D0, hD0⟩ : ∃ D0, Hid (C ^^^ f k = D0) := ⟨_, rfl⟩
        have hD0l : D0 < 4294967296 := by rw [← hD0.out]; exact xor_lt32 hC (by omega)
        rw [hD0.out] at e0
        have hD0k : Hid (D0 = crc f k ^^^ f k) := by show D0 = _; rw [← hD0.out, hCk.out]
        clear hcell hD0
        go_wp2
        go_loop [3, 5] (fun c j => ∃ (m D : Nat), m ≤ 8 ∧ j = .int .i64 m ∧ c = .int .u32 D ∧ D < 4294967296 ∧ Hid (D = iter m (crc f k ^^^ f k))) (fun _ j => 8 - (intOf j).toNat)
        case atStart => exact ⟨0, D0, Nat.zero_le _, rfl, rfl, hD0l, hD0k⟩
        case round =>
          obtain ⟨m, D, hm, rfl, rfl, hD, hDm⟩ := hrel
          by_cases hm8 : m < 8
          · have hDm2 : Hid (st D = iter (m + 1) (crc f k ^^^ f k)) := by show st D = st _; rw [hDm.out]
            have hst := st_lt D hD
            rcases (by omega : D % 2 = 0 ∨ D % 2 = 1) with hp | hp
            · have e1' : ((D : Int) % 2 == 1) = false := by simp; omega
              have e2 : Hid ((D : Int) / 2 = ((st D : Nat) : Int)) := by show (D : Int) / 2 = _; rw [st_even D hp]; omega
              clear hp
              go_wp2
              go_round
              case rel => exact ⟨m + 1, st D, by omega, by go_num, by rw [← e2.out], hst, hDm2⟩
              case measure => simp [intOf]; omega
            · have e1' : ((D : Int) % 2 == 1) = true := by simp; omega
              have e2 : bits .xor .u32 ((D : Int) / 2) 3988292384 = ((st D : Nat) : Int) := by
                have := u32_xor_nat (D / 2) 3988292384 (by omega) (by omega)
                rw [← st_odd D hp] at this
                exact this
              clear hp
              go_wp2
              go_round
              case rel => exact ⟨m + 1, st D, by omega, by go_num, rfl, hst, hDm2⟩
              case measure => simp [intOf]; omega
          · go_wp2
            go_round
            case rel => exact ⟨k + 1, D, by omega, by go_num, rfl, hD, by show D = iter 8 _; rw [hDm.out, show m = 8 by omega]⟩
            case measure => simp [intOf]; omega
    · go_wp2
      go_ret
      have : k = len := by omega
      subst this
      exact ⟨ret_int (by have := hCk.out; omega), rfl⟩
end Go.Proofs.YtonkcnaijcpfdaaGreatDoor.octet
