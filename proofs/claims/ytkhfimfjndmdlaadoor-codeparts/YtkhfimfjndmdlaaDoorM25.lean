/- The spans of a program's instructions, as plain mathematics: the first that is asked for, and what stands at its byte. -/
import Derived.Test.YtkhfimfjndmdlaaDoorM24
namespace Go.Proofs.YtkhfimfjndmdlaaDoor.pg
set_option linter.unusedVariables false
set_option linter.unusedSimpArgs false
set_option maxRecDepth 100000
theorem take_mono {α : Type} (B : α → List Nat) (l : List α) {i j : Nat} (h : i ≤ j) : ((l.take i).flatMap B).length ≤ ((l.take j).flatMap B).length := by
  have : l.take i = (l.take j).take i := by rw [List.take_take, Nat.min_eq_left h]
  rw [this]
  exact take_flat B (l.take j) i
theorem spTo_mem (nf : Int) (out : List Nat) (l : List Ins) (k : Nat) : ∀ s ∈ spTo nf out l k, s.f = nf ∧ 0 ≤ s.pc ∧ s.pc < k ∧ s.pc < l.length ∧ s.bh ≤ ((out ++ (l.take k).flatMap insB).length : Nat) := by
  induction k with
  | zero => intro s hs; simp [spTo] at hs
  | succ k ih =>
    intro s hs
    have hm := take_mono insB l (show k ≤ k + 1 by omega)
    unfold spTo at hs
    rcases List.mem_append.mp hs with hs | hs
    · have := ih s hs
      simp only [List.length_append] at this ⊢
      omega
    · cases hk : l[k]? with
      | none => rw [hk] at hs; simp at hs
      | some i =>
        rw [hk] at hs
        simp only [List.mem_singleton] at hs
        subst hs
        have hl := (List.getElem?_eq_some_iff.mp hk).1
        exact ⟨rfl, by show (0 : Int) ≤ k; omega, by show (k : Int) < (k + 1 : Nat); omega, by show (k : Int) < l.length; omega, Int.le_refl _⟩
theorem spTo_more (nf : Int) (out : List Nat) (l : List Ins) (k d : Nat) : ∃ r, spTo nf out l (k + d) = spTo nf out l k ++ r := by
  induction d with
  | zero => exact ⟨[], by simp⟩
  | succ d ih =>
    obtain ⟨r, hr⟩ := ih
    have h : spTo nf out l (k + d + 1) = spTo nf out l (k + d) ++ (match l[k + d]? with | some i => [⟨nf, (k + d : Nat), ((out ++ (l.take (k + d)).flatMap insB).length : Nat), ((out ++ (l.take (k + d + 1)).flatMap insB).length : Nat)⟩] | none => []) := rfl
    rw [hr, List.append_assoc] at h
    exact ⟨_, h⟩
theorem spTo_at (nf : Int) (out : List Nat) (l : List Ins) (k : Nat) (i : Ins) (hk : l[k]? = some i) : ∃ r, spTo nf out l l.length = spTo nf out l k ++ (⟨nf, k, ((out ++ (l.take k).flatMap insB).length : Nat), ((out ++ (l.take (k + 1)).flatMap insB).length : Nat)⟩ :: r) := by
  have hl := (List.getElem?_eq_some_iff.mp hk).1
  obtain ⟨r, hr⟩ := spTo_more nf out l (k + 1) (l.length - (k + 1))
  rw [show k + 1 + (l.length - (k + 1)) = l.length by omega] at hr
  refine ⟨r, ?_⟩
  rw [hr]
  conv => lhs; unfold spTo
  rw [hk]
  simp
theorem fnSp_mem (nf : Int) (out : List Nat) (f : MFn) : ∀ s ∈ fnSp nf out f, s.f = nf ∧ 0 ≤ s.pc ∧ s.pc < f.code.length ∧ s.bh ≤ ((out ++ fnB f).length : Nat) := by
  intro s hs
  have := spTo_mem _ _ _ _ s hs
  rw [List.take_length] at this
  refine ⟨this.1, this.2.1, this.2.2.1, ?_⟩
  have e : (out ++ fnB f).length = (out ++ fnHead f ++ putB f.code.length ++ f.code.flatMap insB).length := by unfold fnB; simp only [List.length_append]; omega
  rw [e]
  exact this.2.2.2.2
theorem spF_mem (out : List Nat) (l : List MFn) (j : Nat) : ∀ s ∈ spF out l j, 0 ≤ s.f ∧ s.f < j ∧ (∃ f, l[s.f.toNat]? = some f ∧ 0 ≤ s.pc ∧ s.pc < f.code.length) ∧ s.bh ≤ ((out ++ (l.take j).flatMap fnB).length : Nat) := by
  induction j with
  | zero => intro s hs; simp [spF] at hs
  | succ j ih =>
    intro s hs
    have hm := take_mono fnB l (show j ≤ j + 1 by omega)
    unfold spF at hs
    rcases List.mem_append.mp hs with hs | hs
    · obtain ⟨h1, h2, h3, h4⟩ := ih s hs
      simp only [List.length_append] at h4 ⊢
      exact ⟨h1, by omega, h3, by omega⟩
    · cases hj : l[j]? with
      | none => rw [hj] at hs; simp at hs
      | some f =>
        rw [hj] at hs
        obtain ⟨h1, h2, h3, h4⟩ := fnSp_mem _ _ _ s hs
        refine ⟨by omega, by omega, ⟨f, by rw [h1, Int.toNat_natCast]; exact hj, h2, h3⟩, ?_⟩
        rw [take_flat_one fnB l j f hj, ← List.append_assoc]
        exact h4
theorem spF_more (out : List Nat) (l : List MFn) (k d : Nat) : ∃ r, spF out l (k + d) = spF out l k ++ r := by
  induction d with
  | zero => exact ⟨[], by simp⟩
  | succ d ih =>
    obtain ⟨r, hr⟩ := ih
    have h : spF out l (k + d + 1) = spF out l (k + d) ++ (match l[k + d]? with | some f => fnSp (k + d : Nat) (out ++ (l.take (k + d)).flatMap fnB) f | none => []) := rfl
    rw [hr, List.append_assoc] at h
    exact ⟨_, h⟩
/-- What stands ahead of an instruction. -/
def aheadB (M : MPr) (F : Nat) (f : MFn) (pc : Nat) : List Nat := encH M ++ putB M.fns.length ++ (M.fns.take F).flatMap fnB ++ fnHead f ++ putB f.code.length ++ (f.code.take pc).flatMap insB
theorem enc_at (M : MPr) (F : Nat) (f : MFn) (hF : M.fns[F]? = some f) (pc : Nat) (i : Ins) (hi : f.code[pc]? = some i) :
    ∃ pre post, encSp M = pre ++ (⟨F, pc, ((aheadB M F f pc).length : Nat), ((aheadB M F f pc ++ insB i).length : Nat)⟩ :: post) ∧ ∀ s : Spn, s ∈ pre → ¬ (s.f = ((F : Nat) : Int) ∧ s.pc = ((pc : Nat) : Int)) ∧ s.bh ≤ (((aheadB M F f pc).length : Nat) : Int) := by
  have hl := (List.getElem?_eq_some_iff.mp hF).1
  obtain ⟨r, hr⟩ := spF_more (encH M ++ putB M.fns.length) M.fns (F + 1) (M.fns.length - (F + 1))
  rw [show F + 1 + (M.fns.length - (F + 1)) = M.fns.length by omega] at hr
  have h1 : spF (encH M ++ putB M.fns.length) M.fns (F + 1) = spF (encH M ++ putB M.fns.length) M.fns F ++ fnSp F (encH M ++ putB M.fns.length ++ (M.fns.take F).flatMap fnB) f := by
    conv => lhs; unfold spF
    rw [hF]
  obtain ⟨r2, hr2⟩ := spTo_at F (encH M ++ putB M.fns.length ++ (M.fns.take F).flatMap fnB ++ fnHead f ++ putB f.code.length) f.code pc i hi
  have h2 : fnSp F (encH M ++ putB M.fns.length ++ (M.fns.take F).flatMap fnB) f = spTo F (encH M ++ putB M.fns.length ++ (M.fns.take F).flatMap fnB ++ fnHead f ++ putB f.code.length) f.code pc ++ (⟨F, pc, ((aheadB M F f pc).length : Nat), ((aheadB M F f pc ++ insB i).length : Nat)⟩ :: r2) := by
    show spTo _ _ _ _ = _
    rw [hr2, take_flat_one insB f.code pc i hi, ← List.append_assoc]
    rfl
  refine ⟨spF (encH M ++ putB M.fns.length) M.fns F ++ spTo F (encH M ++ putB M.fns.length ++ (M.fns.take F).flatMap fnB ++ fnHead f ++ putB f.code.length) f.code pc, r2 ++ r, ?_, fun s hs => ?_⟩
  · show spF _ _ _ = _
    rw [hr, h1, h2]
    simp only [List.append_assoc, List.cons_append]
  · rcases List.mem_append.mp hs with hs | hs
    · obtain ⟨a1, a2, _, a4⟩ := spF_mem _ _ _ s hs
      refine ⟨fun q => by omega, Int.le_trans a4 ?_⟩
      unfold aheadB
      simp only [List.length_append]
      omega
    · obtain ⟨a1, a2, a3, _, a5⟩ := spTo_mem _ _ _ _ s hs
      exact ⟨fun q => by omega, a5⟩
/-- No span is of what is not there. -/
theorem enc_none (M : MPr) (F pc : Int) (h : ¬ (0 ≤ F ∧ ∃ f, M.fns[F.toNat]? = some f ∧ 0 ≤ pc ∧ pc < f.code.length)) : ∀ s ∈ encSp M, ¬ (s.f = F ∧ s.pc = pc) := fun s hs q => by
  obtain ⟨a1, _, ⟨f, h1, h2, h3⟩, _⟩ := spF_mem _ _ _ s hs
  rw [q.1] at a1 h1
  rw [q.2] at h2 h3
  exact h ⟨a1, f, h1, h2, h3⟩
end Go.Proofs.YtkhfimfjndmdlaaDoor.pg
/- Where an instruction stands: the contract of Where. -/
namespace Go.Proofs.YtkhfimfjndmdlaaDoor.pg
open Go.ChangeShapes Go.WideShapes Go.ChangeAt Go.RowKit
set_option linter.unusedVariables false
set_option linter.unusedSimpArgs false
set_option maxRecDepth 100000
theorem span_ix {w : World} {a : Option Addr} {cap : Nat} {l : List Spn} (h : Rows w 4 a cap (l.map Spn.cells)) (i : Nat) (x : Spn) (hi : l[i]? = some x) :
    ∃ b o, (∀ wx, (Instr.indexAt 62 (.slice a l.length cap) (.int .i64 (i : Int))).run Tryd.prog wx = .ok (.pointer (some ⟨b, o, none⟩)) wx) ∧ b < w.heap.size ∧ w.cell? ⟨b, o, none⟩ = some (.int .i64 x.f) ∧ w.cell? ⟨b, o + 1, none⟩ = some (.int .i64 x.pc) ∧ w.cell? ⟨b, o + 2, none⟩ = some (.int .i64 x.fr) ∧ w.cell? ⟨b, o + 3, none⟩ = some (.int .i64 x.bh) := by
  obtain ⟨b, o, hr, hlt, hc⟩ := h.ix 62 82 Tryd.underlying62 (by kernel_rfl) (fun wx => Tryd.sizeOf82 wx) i (row := x.cells) (by simp [hi])
  rw [List.length_map] at hr
  exact ⟨b, o, hr, hlt, hc 0 _ rfl, hc 1 _ rfl, hc 2 _ rfl, hc 3 _ rfl⟩
theorem len4p (l : List Spn) : ∀ row ∈ l.map Spn.cells, row.length = 4 := by intro r hr; obtain ⟨x, _, rfl⟩ := List.mem_map.mp hr; rfl
abbrev objSp (x : Spn) : Obj := .cells #[.int .i64 x.f, .int .i64 x.pc, .int .i64 x.fr, .int .i64 x.bh] 82
section
variable {w : World}
theorem where_bad (M : MPr) (hl : M.lies w) (hF : prog.Forms w) (f pc A B C : Int) (hA : chk insP M.pr = (A, B, C)) (h0 : A ≠ 0) :
    Calls Tryd.prog 14 #[M.val, .int .i64 f, .int .i64 pc] w fun e w' => e = .returned (.tuple #[.int .i64 0, .int .i64 3]) ∧ Below w.heap.size w w' := by
  have hb := boxed w (objP M)
  have c1 : Calls Tryd.prog 16 #[M.val] (w.alloc (objP M)) _ := written_bad (hl.later hb) (hF.later hb) A B C hA h0
  clear hA h0 hl hF
  go_enter Tryd.func14, Tryd.ntmps14
  go_wp2_with (go_at_call 16; (with_reducible refine c1.mono ?_); rintro e w1 ⟨rfl, hb1⟩)
  go_ret2
  exact ⟨rfl, bthen hb hb1⟩
set_option maxHeartbeats 2000000 in
theorem where_ok (M : MPr) (hl : M.lies w) (hF : prog.Forms w) (f pc B C : Int) (hA : chk insP M.pr = (0, B, C)) (R E : Int)
    (hR : Hid ((∃ pre x post, encSp M = pre ++ x :: post ∧ (∀ s : Spn, s ∈ pre → ¬ (s.f = f ∧ s.pc = pc)) ∧ (x.f = f ∧ x.pc = pc) ∧ R = x.fr ∧ E = 0) ∨ ((∀ s ∈ encSp M, ¬ (s.f = f ∧ s.pc = pc)) ∧ R = 0 ∧ E = 1))) :
    Calls Tryd.prog 14 #[M.val, .int .i64 f, .int .i64 pc] w fun e w' => e = .returned (.tuple #[.int .i64 R, .int .i64 E]) ∧ Below w.heap.size w w' := by
  have hb := boxed w (objP M)
  have c1 : Calls Tryd.prog 16 #[M.val] (w.alloc (objP M)) _ := written_ok (hl.later hb) (hF.later hb) B C hA
  generalize encSp M = sp at *
  clear hA hl hF
  go_enter Tryd.func14, Tryd.ntmps14
  go_wp2_with (go_at_call 16; (with_reducible refine c1.mono ?_); rintro e w1 ⟨g, rfl, ⟨s1, ⟨hlo, oa, oc, st⟩, sa, sc, hs1, hO⟩, hb1⟩; subst hs1; (have B1 := bthen hb hb1); (have d1 := whole_cell st.bx 1 _ rfl); (have dl := (Array.getElem?_eq_some_iff.mp st.bx).1); (have hRo : Hid (Rows w1 4 sa sc (sp.map Spn.cells)) := own_rows hO (len4p _)))
  have hlen : (sp.length : Int) ≤ 9223372036854775807 := rows_len hRo.out
  clear c1 d1 dl hO st
  go_loopw [25] (fun u wr => ∃ j : Nat, j ≤ sp.length ∧ u = .int .i64 j ∧ Below w1.heap.size w1 wr ∧ Hid (∀ s ∈ sp.take j, ¬ (s.f = f ∧ s.pc = pc))) (fun u _ => sp.length - (intOf u).toNat)
  case atStart => exact ⟨0, Nat.zero_le _, rfl, Below.refl _ _, fun s hs => by simp at hs⟩
  case round =>
    obtain ⟨j, hj, rfl, hb2, hno⟩ := hrel
    by_cases hlt : j < sp.length
    · obtain ⟨x, hx, hxm⟩ := get_lt sp j hlt
      obtain ⟨b, o, hix, hbl, k0, k1, k2, k3⟩ := span_ix (hRo.out.later hb2) j x hx
      have hjI : (j : Int) < sp.length := by omega
      by_cases hm : x.f = f ∧ x.pc = pc
      · have hE : Hid (R = x.fr ∧ E = 0) := by
          rcases hR.out with ⟨pre, y, post, e1, e2, e3, e4, e5⟩ | ⟨e1, _⟩
          · have hj2 : j = pre.length := by
              rcases Nat.lt_trichotomy j pre.length with q | q | q
              · exfalso
                rw [e1, List.getElem?_append_left q] at hx
                exact e2 x (List.mem_of_getElem? hx) hm
              · exact q
              · exfalso
                refine hno.out y ?_ e3
                rw [e1, List.mem_take_iff_getElem]
                exact ⟨pre.length, by rw [List.length_append, List.length_cons]; omega, by simp⟩
            rw [e1, hj2, List.getElem?_append_right (Nat.le_refl _)] at hx
            simp at hx
            subst hx
            exact ⟨e4, e5⟩
          · exact absurd hm (e1 x hxm)
        obtain ⟨hm1, hm2⟩ := hm
        subst hm1
        subst hm2
        go_wp2
        go_ret2
        exact ⟨by rw [hE.out.1, hE.out.2]; rfl, bthen (bthen B1 hb2) (boxed _ _)⟩
      · have hno2 : Hid (∀ s ∈ sp.take (j + 1), ¬ (s.f = f ∧ s.pc = pc)) := fun s hs => by
          rw [take_one sp j x hx, List.mem_append, List.mem_singleton] at hs
          rcases hs with hs | rfl
          · exact hno.out s hs
          · exact hm
        by_cases q : x.f = f
        · have q2 : ¬ x.pc = pc := fun q2 => hm ⟨q, q2⟩
          subst q
          clear hm
          go_wp2
          go_roundw
          case rel => exact ⟨j + 1, by omega, by go_num, bthen hb2 (boxed _ (objSp x)), hno2⟩
          case measure => simp [intOf]; omega
        · clear hm
          go_wp2
          go_roundw
          case rel => exact ⟨j + 1, by omega, by go_num, bthen hb2 (boxed _ (objSp x)), hno2⟩
          case measure => simp [intOf]; omega
    · have hj2 : j = sp.length := by omega
      subst hj2
      have hE : Hid (R = 0 ∧ E = 1) := by
        rcases hR.out with ⟨pre, y, post, e1, e2, e3, e4, e5⟩ | ⟨_, e1, e2⟩
        · exact absurd e3 (hno.out y (by rw [List.take_length, e1]; simp))
        · exact ⟨e1, e2⟩
      go_wp2
      go_ret2
      exact ⟨by rw [hE.out.1, hE.out.2]; rfl, bthen B1 hb2⟩
end
end Go.Proofs.YtkhfimfjndmdlaaDoor.pg
/- The instruction that has a byte: the contract of Spot, of a program's own bytes. -/
namespace Go.Proofs.YtkhfimfjndmdlaaDoor.pg
open Go.ChangeShapes Go.WideShapes Go.ChangeAt Go.RowKit
set_option linter.unusedVariables false
set_option linter.unusedSimpArgs false
set_option maxRecDepth 100000
abbrev objT0 : Obj := .cells #[.int .i64 0, .int .i64 0] 37
theorem ahead_eq {m M : MPr} (h : m.pr = M.pr) {F : Nat} {f' f : MFn} (hf : f'.fn = f.fn) (pc : Nat) : aheadB m F f' pc = aheadB M F f pc := by
  have e1 : m.vars = M.vars := congrArg Pr.vars h
  have e2 : m.locks = M.locks := congrArg Pr.locks h
  have e3 : m.chans = M.chans := congrArg Pr.chans h
  have e4 : m.fns.map MFn.fn = M.fns.map MFn.fn := congrArg Pr.fns h
  have e5 : m.fns.length = M.fns.length := by have := congrArg List.length e4; simpa using this
  have f1 : f'.params = f.params := congrArg Fn.params hf
  have f2 : f'.regs = f.regs := congrArg Fn.regs hf
  have f3 : f'.code = f.code := congrArg Fn.code hf
  have f4 : f'.sels.map MSel.sel = f.sels.map MSel.sel := congrArg Fn.sels hf
  have f5 : f'.sels.length = f.sels.length := by have := congrArg List.length f4; simpa using this
  have g1 : (m.fns.take F).flatMap fnB = (M.fns.take F).flatMap fnB := by
    have q : ∀ l : List MFn, (l.take F).flatMap fnB = ((l.map MFn.fn).take F).flatMap fnBp := fun l => by
      rw [← List.map_take, List.flatMap_map]
      congr 1
      exact funext fnB_fn
    rw [q, q, e4]
  have g2 : fnHead f' = fnHead f := by
    unfold fnHead
    have q : ∀ l : List MSel, (l.flatMap fun y : MSel => selB y.sel) = (l.map MSel.sel).flatMap selB := fun l => by rw [List.flatMap_map]
    rw [f1, f2, f5, q, q, f4]
  have g3 : encH m = encH M := by unfold encH; rw [e1, e2, e3]
  unfold aheadB
  rw [g1, g2, g3, e5, f3]
theorem spot5 {w8 : World} {b : Nat} (h : w8.heap[b]? = some objT0) (v0 v1 : Value) (o : Obj) : (((w8.setCell ⟨b, 0, none⟩ v0).setCell ⟨b, 1, none⟩ v1).alloc o).heap[b]? = some (.cells #[v0, v1] 37 (0, 0)) := by
  have h4 := set_to (set_to h 0 v0 rfl) 1 v1 (cs' := #[v0, v1]) rfl
  exact ((boxed _ o).block b (Array.getElem?_eq_some_iff.mp h4).1).trans h4
theorem belS {w w8 : World} (h : Below w.heap.size w w8) (v0 v1 : Value) (o : Obj) : Below w.heap.size w (((w8.setCell ⟨w.heap.size, 0, none⟩ v0).setCell ⟨w.heap.size, 1, none⟩ v1).alloc o) := by
  have h4 : Below w.heap.size w ((w8.setCell ⟨w.heap.size, 0, none⟩ v0).setCell ⟨w.heap.size, 1, none⟩ v1) := (h.setCell (p := ⟨w.heap.size, 0, none⟩) (Nat.le_refl _) _).setCell (p := ⟨w.heap.size, 1, none⟩) (Nat.le_refl _) _
  exact h4.trans ((boxed _ o).mono h4.size)
section
variable {w : World}
set_option maxHeartbeats 4000000 in
theorem spot_hit (P : Pr) (hok : prOkP P) (B C : Int) (hck : chk insP P = (0, B, C)) (va : Option Addr) (vc : Nat) (hR : Rows w 1 va vc ((fullB P).map u8c)) (hbl : ∀ b ∈ blk va, b < w.heap.size) (hF : prog.Forms w) (n : Nat) (hn : (fullB P).length = n) (at_ f pc : Int)
    (hS : Hid (∀ m : MPr, m.pr = P → ∃ pre x post, encSp m = pre ++ x :: post ∧ (∀ s : Spn, s ∈ pre → s.bh ≤ at_) ∧ x.fr ≤ at_ ∧ at_ < x.bh ∧ x.f = f ∧ x.pc = pc)) :
    Calls Tryd.prog 15 #[.slice va n vc, .int .i64 at_] w fun e w' => e = .returned (.tuple #[.agg #[.int .i64 f, .int .i64 pc], .bool true]) ∧ Below w.heap.size w w' := by
  have hb := boxed w objT0
  have hbx : (w.alloc objT0).heap[w.heap.size]? = some objT0 := heap_alloc_new _ _
  have c1 : Calls Tryd.prog 10 #[.slice va n vc] (w.alloc objT0) fun e w' => ∃ m : MPr, e = .returned (.tuple #[m.val, .int .i64 0, .int .i64 0]) ∧ m.pr = P ∧ m.lies w' ∧ Below (w.alloc objT0).heap.size (w.alloc objT0) w' := by
    have := decode_full P hok B C hck va vc (hR.later hb) (fun b hb => by have := hbl b hb; rw [World.size_alloc]; omega) (hF.later hb)
    rw [hn] at this
    exact this
  have c2 : ∀ wx (m : MPr), m.pr = P → m.lies wx → Below w.heap.size w wx → Calls Tryd.prog 16 #[m.val] wx fun e w' => ∃ g, ∃ sp : List Spn, e = .returned (.tuple #[.pointer (some ⟨g, 0, none⟩), .int .i64 0]) ∧ WS w' wx.heap.size g (encB m) sp m.fns.length 0 ∧ Below wx.heap.size wx w' ∧ ∃ pre x post, sp = pre ++ x :: post ∧ (∀ s : Spn, s ∈ pre → s.bh ≤ at_) ∧ x.fr ≤ at_ ∧ at_ < x.bh ∧ x.f = f ∧ x.pc = pc := fun wx m hm h1 h2 =>
    (written_ok h1 (hF.later h2) B C (by rw [hm]; exact hck)).mono fun e w' ⟨g, he, hW, hB⟩ => ⟨g, encSp m, he, hW, hB, hS.out m hm⟩
  clear hF hR hbl hok hck hS hn
  go_enter Tryd.func15, Tryd.ntmps15
  go_wp2_with (first
    | (go_at_call 10; (with_reducible refine c1.mono ?_); rintro e w1 ⟨m, rfl, hm, hl1, b1⟩; (have hmH : Hid (m.pr = P) := hm); clear hm; (have b12 := bthen b1 (boxed w1 (objP m))); (have B2 : Hid (Below w.heap.size w (w1.alloc (objP m))) := bthen hb b12); (have hl2 : Hid (m.lies (w1.alloc (objP m))) := hl1.later (boxed _ _)); (have z2 := (b12.block w.heap.size (by rw [World.size_alloc]; omega)).trans hbx); clear c1 hl1)
    | (go_at_call 16; (with_reducible refine (c2 _ m hmH.out hl2.out B2.out).mono ?_); rintro e w3 ⟨g, sp, rfl, ⟨s1, ⟨hlo, oa, oc, st⟩, sa, sc, hs1, hO⟩, hb3, hsp⟩; subst hs1; (have hspH : Hid (∃ pre x post, sp = pre ++ x :: post ∧ (∀ s : Spn, s ∈ pre → s.bh ≤ at_) ∧ x.fr ≤ at_ ∧ at_ < x.bh ∧ x.f = f ∧ x.pc = pc) := hsp); clear hsp; (have B3 := bthen B2.out hb3); (have z3 := (hb3.block w.heap.size (Array.getElem?_eq_some_iff.mp z2).1).trans z2); (have d1 := whole_cell st.bx 1 _ rfl); (have dl := (Array.getElem?_eq_some_iff.mp st.bx).1); (have hRo : Hid (Rows w3 4 sa sc (sp.map Spn.cells)) := own_rows hO (len4p _)); clear c2))
  have hlen : (sp.length : Int) ≤ 9223372036854775807 := rows_len hRo.out
  have z3l := (Array.getElem?_eq_some_iff.mp z3).1
  clear d1 dl hO st z2 hbx hl2 B2
  go_loopw [32] (fun u wr => ∃ j : Nat, j ≤ sp.length ∧ u = .int .i64 j ∧ Below w3.heap.size w3 wr ∧ Hid (∀ s ∈ sp.take j, s.bh ≤ at_ ∨ at_ < s.fr)) (fun u _ => sp.length - (intOf u).toNat)
  case atStart => exact ⟨0, Nat.zero_le _, rfl, Below.refl _ _, fun s hs => by simp at hs⟩
  case round =>
    obtain ⟨j, hj, rfl, hb2, hno⟩ := hrel
    obtain ⟨pre, y, post, e1, e2, e3, e4, e5, e6⟩ := hspH.out
    by_cases hlt : j < sp.length
    · obtain ⟨x, hx, hxm⟩ := get_lt sp j hlt
      obtain ⟨b, o, hix, hbl, k0, k1, k2, k3⟩ := span_ix (hRo.out.later hb2) j x hx
      have hjI : (j : Int) < sp.length := by omega
      have z4 := (hb2.block w.heap.size z3l).trans z3
      by_cases hm : x.fr ≤ at_ ∧ at_ < x.bh
      · have hE : Hid (x.f = f ∧ x.pc = pc) := by
          have hj2 : j = pre.length := by
            rcases Nat.lt_trichotomy j pre.length with q | q | q
            · exfalso
              rw [e1, List.getElem?_append_left q] at hx
              have := e2 x (List.mem_of_getElem? hx)
              omega
            · exact q
            · exfalso
              have : y ∈ sp.take j := by
                rw [e1, List.mem_take_iff_getElem]
                exact ⟨pre.length, by rw [List.length_append, List.length_cons]; omega, by simp⟩
              have := hno.out y this
              omega
          rw [e1, hj2, List.getElem?_append_right (Nat.le_refl _)] at hx
          simp at hx
          subst hx
          exact ⟨e5, e6⟩
        obtain ⟨hm1, hm2⟩ := hm
        have y0 := whole_cell z4 0 _ rfl
        have y1 := whole_cell z4 1 _ rfl
        have yz := fun o => whole_frozen z4 o
        have yl := (Array.getElem?_eq_some_iff.mp z4).1
        clear e1 e2 e3 e4 e5 e6 hno
        go_wp2
        have r4 := spot5 z4 (.int .i64 x.f) (.int .i64 x.pc) (objSp x)
        refine bodyPost_ret (v := .tuple #[.agg #[.int .i64 x.f, .int .i64 x.pc], .bool true]) ?_ rfl ⟨by rw [hE.out.1, hE.out.2], belS (bthen B3 hb2) _ _ _⟩
        simp [results, Tryd.results15, go_sem, whole_cell r4 0 _ rfl, whole_cell r4 1 _ rfl]
      · have hno2 : Hid (∀ s ∈ sp.take (j + 1), s.bh ≤ at_ ∨ at_ < s.fr) := fun s hs => by
          rw [take_one sp j x hx, List.mem_append, List.mem_singleton] at hs
          rcases hs with hs | rfl
          · exact hno.out s hs
          · omega
        clear e1 e2 e3 e4 e5 e6 hno z4
        by_cases q : x.fr ≤ at_
        · have q2 : ¬ at_ < x.bh := fun q2 => hm ⟨q, q2⟩
          clear hm
          go_wp2
          go_roundw
          case rel => exact ⟨j + 1, by omega, by go_num, bthen hb2 (boxed _ (objSp x)), hno2⟩
          case measure => simp [intOf]; omega
        · clear hm
          go_wp2
          go_roundw
          case rel => exact ⟨j + 1, by omega, by go_num, bthen hb2 (boxed _ (objSp x)), hno2⟩
          case measure => simp [intOf]; omega
    · exfalso
      have hj2 : j = sp.length := by omega
      have := hno.out y (by rw [hj2, List.take_length, e1]; simp)
      omega
end
end Go.Proofs.YtkhfimfjndmdlaaDoor.pg
