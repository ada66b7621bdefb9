/- The iterator over what may come behind a place. -/
import Derived.Test.YtlcljdldhajkiaaDoorM10
import Derived.Test.YtlcljdldhajkiaaDoorM2
namespace Go.Proofs.YtlcljdldhajkiaaDoor.pg
open Go.ChangeShapes Go.WideShapes Go.ChangeAt Go.RowKit Go.Shelf
set_option linter.unusedVariables false
set_option linter.unusedSimpArgs false
set_option maxRecDepth 100000
attribute [local go_sem] Oper.semAt_some
abbrev objFn (F : MFn) : Obj := .cells #[.int .i64 F.params, .int .i64 F.regs, .slice F.ca F.code.length F.ccap, .slice F.sa F.sels.length F.scap] 62
theorem subL_cons1 {x : Int} (h : ∀ y ∈ [x], 0 ≤ y ∧ y < 64) (h1 : 0 ≤ x ∧ x < 64) : subL [x] h = [⟨x, h1⟩] := rfl
theorem subL_cons2 {x y : Int} (h : ∀ z ∈ [x, y], 0 ≤ z ∧ z < 64) (h1 : 0 ≤ x ∧ x < 64) (h2 : 0 ≤ y ∧ y < 64) : subL [x, y] h = [⟨x, h1⟩, ⟨y, h2⟩] := rfl
theorem subL_congr {l m : List Int} (e : l = m) (h : ∀ x ∈ l, 0 ≤ x ∧ x < 64) : subL l h = subL m (e ▸ h) := by subst e; rfl
set_option maxHeartbeats 2000000 in
theorem behind1_in (n : Nat) (w0 : World) (F : MFn) (hF : F.lies w0) (hfl : FlowF F.fn) (pc : Nat) (hpc : pc < F.code.length) (hto : ∀ x ∈ nxt F.fn pc, 0 ≤ x ∧ x < 64) (l OB B Bf Bp : Nat) (J Jx : List PlI → World → Prop) (hJ : AbidesFrom B J)
    (hY : ∀ m pre x W, J pre W → pre.length < (nxt F.fn pc).length → YieldAt Fence.wide m Tryd.prog l #[.int .i64 x.1] W fun e W' =>
      (e = .returned (.bool true) ∧ J (pre ++ [x]) W' ∧ KeepC w0.heap.size OB W W') ∨ (e = .returned (.bool false) ∧ Jx (pre ++ [x]) W'))
    (W : World) (hW : Below w0.heap.size w0 W) (hOB : OB < W.heap.size) (hBf : W.heap[Bf]? = some (objFn F)) (hBp : W.heap[Bp]? = some (.cells #[.int .i64 (pc : Int)] 3)) (hnp : Bp ≠ OB) (h0 : J [] W) :
    CallsIn Fence.wide n Tryd.prog 54 #[.func (.yield l) #[] #[], .pointer (some ⟨Bf, 0, none⟩), .pointer (some ⟨Bp, 0, none⟩)] W fun e W' => (∃ v, e = .returned v) ∧
      (J (subL (nxt F.fn pc) hto) W' ∨ ∃ q, Jx q W') := by
  have hl64 := hfl.l64
  have hp64 : (pc : Int) < 64 := by have : F.fn.code.length = F.code.length := rfl; omega
  obtain ⟨m1, m2⟩ := insAt_mem (code := F.code) (pc := (pc : Int)) (by omega) (by omega)
  rw [Int.toNat_natCast] at m1
  obtain ⟨ib, io, hix, hib, i0, i1, i2, i3, i4⟩ := ins_ix (hF.later hW).1 pc _ m1
  have hnx : nxt F.fn pc = nxtI F.fn (insAt F.code pc) pc := rfl
  have hsl := hfl.s pc hpc
  rw [show F.fn.code = F.code from rfl] at hsl
  have hnx' : ∀ x ∈ nxtI F.fn (insAt F.code pc) pc, 0 ≤ x ∧ x < 64 := by rw [← hnx]; exact hto
  have f2 := cell_ofF (k := 2) (v := .slice F.ca F.code.length F.ccap) hBf rfl
  have f3 := cell_ofF (k := 3) (v := .slice F.sa F.sels.length F.scap) hBf rfl
  have q0 := cell_ofF (k := 0) (v := .int .i64 (pc : Int)) hBp rfl
  have hE : Hid (J (subL (nxtI F.fn (insAt F.code pc) pc) hnx') = J (subL (nxt F.fn pc) hto)) := rfl
  have hYH : Hid (∀ m pre x W, J pre W → pre.length < (nxtI F.fn (insAt F.code pc) pc).length → YieldAt Fence.wide m Tryd.prog l #[.int .i64 x.1] W fun e W' =>
      (e = .returned (.bool true) ∧ J (pre ++ [x]) W' ∧ KeepC w0.heap.size OB W W') ∨ (e = .returned (.bool false) ∧ Jx (pre ++ [x]) W')) := hY
  generalize insAt F.code pc = i at *
  have hb1 := boxed W (.cells #[.int .i64 i.op, .int .i64 i.a, .int .i64 i.b, .int .i64 i.c, .int .i64 i.n] 70)
  have hCn : (W.alloc (.cells #[.int .i64 i.op, .int .i64 i.a, .int .i64 i.b, .int .i64 i.c, .int .i64 i.n] 70)).heap[W.heap.size]? = some (.cells #[.int .i64 i.op, .int .i64 i.a, .int .i64 i.b, .int .i64 i.c, .int .i64 i.n] 70) := heap_alloc_new W _
  have j0 := cell_ofF (k := 0) (v := .int .i64 i.op) hCn rfl
  have j1 := cell_ofF (k := 1) (v := .int .i64 i.a) hCn rfl
  have j2 := cell_ofF (k := 2) (v := .int .i64 i.b) hCn rfl
  have g3 := cell_later hb1 f3
  have g0 := cell_later hb1 q0
  have hJ1 : Hid (J [] (W.alloc (.cells #[.int .i64 i.op, .int .i64 i.a, .int .i64 i.b, .int .i64 i.c, .int .i64 i.n] 70))) := abide hJ h0 hb1
  have hW1 : Hid (Below w0.heap.size w0 (W.alloc (.cells #[.int .i64 i.op, .int .i64 i.a, .int .i64 i.b, .int .i64 i.c, .int .i64 i.n] 70))) := bthen hW hb1
  have hO1 : Hid (OB < (W.alloc (.cells #[.int .i64 i.op, .int .i64 i.a, .int .i64 i.b, .int .i64 i.c, .int .i64 i.n] 70)).heap.size) := Nat.lt_of_lt_of_le hOB hb1.size
  have hBp1 : Hid ((W.alloc (.cells #[.int .i64 i.op, .int .i64 i.a, .int .i64 i.b, .int .i64 i.c, .int .i64 i.n] 70)).heap[Bp]? = some (.cells #[.int .i64 (pc : Int)] 3)) := (hb1.block Bp (Array.getElem?_eq_some_iff.mp hBp).1).trans hBp
  have hFH : Hid (F.lies w0) := hF
  have hJH : Hid (AbidesFrom B J) := hJ
  have hflH : Hid (FlowF F.fn) := hfl
  have hpw : wrap64 ((pc : Int) + 1) = (pc : Int) + 1 := by unfold wrap64; omega
  clear hW h0 hY hJ hF hb1 hBf hBp hOB hfl m1 m2 hnx hl64 hCn
  refine callsIn_of_wp Tryd.func54 rfl trivial ?_ rfl
  simp only [Tryd.ntmps54, List.size_toArray, List.length_cons, List.length_nil, Nat.reduceAdd, Nat.reduceSub, Array.replicate_succ, Array.replicate_zero, List.push_toArray, List.append_toArray, List.nil_append, List.cons_append]
  by_cases h45 : i.op = 45
  · have hnl : nxtI F.fn i pc = [] := by unfold nxtI; rw [if_pos h45]
    have hend : Hid (subL (nxtI F.fn i pc) hnx' = []) := subL_congr hnl _
    have hJ2 : Hid (∀ V, J [] V → J (subL (nxtI F.fn i pc) hnx') V) := fun V h => by rw [hend.out]; exact h
    rw [h45] at i0 j0 hJ1
    clear hnl hend hYH hsl
    gi_wp2
    go_end0
    exact ⟨⟨_, rfl⟩, .inl (by rw [← hE.out]; exact hJ2.out _ hJ1.out)⟩
  have d45 : (i.op == 45) = false := by simpa using h45
  by_cases h42 : i.op = 42
  · have hnl : nxtI F.fn i pc = [i.a] := by unfold nxtI; rw [if_neg h45, if_pos h42]
    have hx64 : 0 ≤ i.a ∧ i.a < 64 := hnx' _ (by rw [hnl]; simp)
    have hend : Hid (subL (nxtI F.fn i pc) hnx' = [⟨i.a, hx64⟩]) := subL_congr hnl _
    obtain ⟨fn, tmps, assign, body, hy, hR⟩ := hYH.out (n - 1) [] ⟨i.a, hx64⟩ _ hJ1.out (by rw [hnl]; exact Nat.zero_lt_one)
    dsimp only at hy
    have d42 : (i.op == 42) = true := by simpa using h42
    clear hnl hYH hsl h45 h42
    gi_wp2
    refine ⟨fun h => (by cases h), hR.mono ?_⟩
    rintro e W3 (⟨rfl, hJ3, hk3⟩ | ⟨rfl, hJx3⟩)
    · have hrE : Hid (J (subL (nxtI F.fn i pc) hnx') W3) := by show J _ W3; rw [hend.out]; exact hJ3
      gi_wp2
      go_end0
      exact ⟨⟨_, rfl⟩, .inl (by rw [← hE.out]; exact hrE.out)⟩
    · gi_wp2
      go_end0
      exact ⟨⟨_, rfl⟩, .inr ⟨_, hJx3⟩⟩
  have d42 : (i.op == 42) = false := by simpa using h42
  by_cases h61 : i.op = 61
  · have hsr := hsl h61
    obtain ⟨s, hs, hsm⟩ := get_lt F.sels i.a.toNat (by have h1 := hsr.1; have h2 := hsr.2; have h3 : F.fn.sels.length = F.sels.length := (by show (F.sels.map MSel.sel).length = _; rw [List.length_map]); omega)
    have hse : selAt F.fn i.a = s.sel := by
      unfold selAt
      rw [List.getD_eq_getElem?_getD]
      show ((F.sels.map MSel.sel)[i.a.toNat]?).getD _ = _
      rw [List.getElem?_map, hs]
      rfl
    have hnl : nxtI F.fn i pc = selTo s.sel := by unfold nxtI; rw [if_neg h45, if_neg h42, if_pos h61, hse]
    have hst : ∀ x ∈ selTo s.sel, 0 ≤ x ∧ x < 64 := by rw [← hnl]; exact hnx'
    have hend : Hid (subL (nxtI F.fn i pc) hnx' = subL (selTo s.sel) hst) := subL_congr hnl _
    have hc4 : s.cases.length ≤ 4 := hflH.out.c s.sel (List.mem_map.mpr ⟨s, hsm, rfl⟩)
    obtain ⟨sb, so, hsx, hsb, e0, e1⟩ := sel_ix (hFH.out.later hW1.out).2.1 i.a.toNat s hs
    rw [show ((i.a.toNat : Nat) : Int) = i.a by have := hsr.1; omega] at hsx
    have hC := choose_in (n - 1) w0 s (hFH.out.2.2.2.1 s hsm) hc4 hst l OB B J Jx hJH.out (fun m pre x V hp hlt => hYH.out m pre x V hp (by rw [hnl]; exact hlt)) _ hW1.out hO1.out hJ1.out
    have d61 : (i.op == 61) = true := by simpa using h61
    clear hnl hse hs hsm hsl h45 h42 h61 hYH
    gi_wp2
    refine ⟨trivial, fun h => (by cases h), hC.mono ?_⟩
    rintro e W3 ⟨⟨v, rfl⟩, hr3⟩
    gi_wp2
    go_end0
    refine ⟨⟨_, rfl⟩, ?_⟩
    rcases hr3 with h | h
    · exact .inl (by rw [← hE.out, hend.out]; exact h)
    · exact .inr h
  have d61 : (i.op == 61) = false := by simpa using h61
  have hp1 : 0 ≤ (pc : Int) + 1 → True := fun _ => trivial
  by_cases h43 : i.op = 43
  · have hnl : nxtI F.fn i pc = [i.b, (pc : Int) + 1] := by unfold nxtI; rw [if_neg h45, if_neg h42, if_neg h61, if_pos h43]
    have hx64 : 0 ≤ i.b ∧ i.b < 64 := hnx' _ (by rw [hnl]; simp)
    have hy64 : 0 ≤ (pc : Int) + 1 ∧ (pc : Int) + 1 < 64 := hnx' _ (by rw [hnl]; simp)
    have hend : Hid (subL (nxtI F.fn i pc) hnx' = [⟨i.b, hx64⟩, ⟨(pc : Int) + 1, hy64⟩]) := subL_congr hnl _
    obtain ⟨fn, tmps, assign, body, hy, hR⟩ := hYH.out (n - 1) [] ⟨i.b, hx64⟩ _ hJ1.out (by rw [hnl]; exact Nat.zero_lt_succ 1)
    dsimp only at hy
    have hY2 : Hid (∀ V, J [⟨i.b, hx64⟩] V → YieldAt Fence.wide (n - 1) Tryd.prog l #[.int .i64 ((pc : Int) + 1)] V fun e W' => (e = .returned (.bool true) ∧ J ([⟨i.b, hx64⟩] ++ [⟨(pc : Int) + 1, hy64⟩]) W' ∧ KeepC w0.heap.size OB V W') ∨ (e = .returned (.bool false) ∧ Jx ([⟨i.b, hx64⟩] ++ [⟨(pc : Int) + 1, hy64⟩]) W')) := fun V hV => hYH.out (n - 1) [⟨i.b, hx64⟩] ⟨(pc : Int) + 1, hy64⟩ V hV (by rw [hnl]; exact Nat.one_lt_two)
    have d43 : (i.op == 43) = true := by simpa using h43
    clear hnl hYH hsl h45 h42 h61 h43
    gi_wp2
    refine ⟨fun h => (by cases h), hR.mono ?_⟩
    rintro e W3 (⟨rfl, hJ3, hk3⟩ | ⟨rfl, hJx3⟩)
    · have g9 : W3.cell? ⟨Bp, 0, none⟩ = some (.int .i64 (pc : Int)) := cell_ofF (hk3.2 Bp _ _ _ hnp hBp1.out) rfl
      obtain ⟨fn2, tmps2, assign2, body2, hy2, hR2⟩ := hY2.out W3 hJ3
      clear g0 g3 j0 j1 j2 hy
      gi_wp2
      refine ⟨fun h => (by cases h), hR2.mono ?_⟩
      rintro e W4 (⟨rfl, hJ4, hk4⟩ | ⟨rfl, hJx4⟩)
      · have hrE : Hid (J (subL (nxtI F.fn i pc) hnx') W4) := by show J _ W4; rw [hend.out]; exact hJ4
        gi_wp2
        go_end0
        exact ⟨⟨_, rfl⟩, .inl (by rw [← hE.out]; exact hrE.out)⟩
      · gi_wp2
        go_end0
        exact ⟨⟨_, rfl⟩, .inr ⟨_, hJx4⟩⟩
    · gi_wp2
      refine bodyPost_ret (results_none rfl _ _ _) rfl ?_
      exact ⟨⟨_, rfl⟩, .inr ⟨_, hJx3⟩⟩
  · have d43 : (i.op == 43) = false := by simpa using h43
    have hnl : nxtI F.fn i pc = [(pc : Int) + 1] := by unfold nxtI; rw [if_neg h45, if_neg h42, if_neg h61, if_neg h43]
    have hy64 : 0 ≤ (pc : Int) + 1 ∧ (pc : Int) + 1 < 64 := hnx' _ (by rw [hnl]; simp)
    have hend : Hid (subL (nxtI F.fn i pc) hnx' = [⟨(pc : Int) + 1, hy64⟩]) := subL_congr hnl _
    obtain ⟨fn, tmps, assign, body, hy, hR⟩ := hYH.out (n - 1) [] ⟨(pc : Int) + 1, hy64⟩ _ hJ1.out (by rw [hnl]; exact Nat.zero_lt_one)
    dsimp only at hy
    clear hnl hYH hsl h45 h42 h61 h43
    gi_wp2
    refine ⟨fun h => (by cases h), hR.mono ?_⟩
    rintro e W3 (⟨rfl, hJ3, hk3⟩ | ⟨rfl, hJx3⟩)
    · have hrE : Hid (J (subL (nxtI F.fn i pc) hnx') W3) := by show J _ W3; rw [hend.out]; exact hJ3
      gi_wp2
      go_end0
      exact ⟨⟨_, rfl⟩, .inl (by rw [← hE.out]; exact hrE.out)⟩
    · gi_wp2
      go_end0
      exact ⟨⟨_, rfl⟩, .inr ⟨_, hJx3⟩⟩
theorem behind_stops (n : Nat) (w0 : World) (F : MFn) (hF : F.lies w0) (hfl : FlowF F.fn) (pc : Nat) (hpc : pc < F.code.length) (hto : ∀ x ∈ nxt F.fn pc, 0 ≤ x ∧ x < 64) (OB Bf Bp : Nat) (w : World) (hW : Below w0.heap.size w0 w) (hOB : OB < w.heap.size) (hBf : w.heap[Bf]? = some (objFn F)) (hBp : w.heap[Bp]? = some (.cells #[.int .i64 (pc : Int)] 3)) (hnp : Bp ≠ OB) :
    SeqStopsK Fence.wide n Tryd.prog 54 #[.pointer (some ⟨Bf, 0, none⟩), .pointer (some ⟨Bp, 0, none⟩)] (fun x : PlI => #[Value.int .i64 x.1]) (KeepC w0.heap.size OB) (fun ys => ys = subL (nxt F.fn pc) hto) (fun _ => True) (nxt F.fn pc).length w := by
  intro l J Jx W hb hJ _ hY h0
  have h1 := behind1_in n w0 F hF hfl pc hpc hto l OB W.heap.size Bf Bp J Jx hJ (fun m pre x V hp hlt => yieldAny m (hY pre x V hp hlt)) W (bthen hW hb) (Nat.lt_of_lt_of_le hOB hb.size) ((hb.block Bf (Array.getElem?_eq_some_iff.mp hBf).1).trans hBf) ((hb.block Bp (Array.getElem?_eq_some_iff.mp hBp).1).trans hBp) hnp h0
  refine h1.mono ?_
  rintro e W' ⟨h2, h3⟩
  refine ⟨h2, ?_⟩
  rcases h3 with h | ⟨q, h⟩
  · exact .inl ⟨_, rfl, h⟩
  · exact .inr ⟨q, trivial, h⟩
theorem behind_any (F : MFn) (pc : Int) (w : World) : Calls Tryd.prog 37 #[F.val, .int .i64 pc] w fun e w' => e = .returned (.func (.func 54) #[] #[.pointer (some ⟨w.heap.size, 0, none⟩), .pointer (some ⟨w.heap.size + 1, 0, none⟩)]) ∧ w' = (w.alloc (objFn F)).alloc (.cells #[.int .i64 pc] 3) := by
  go_enter Tryd.func37, Tryd.ntmps37
  go_wp2
  go_ret
  exact ⟨rfl, rfl⟩
end Go.Proofs.YtlcljdldhajkiaaDoor.pg
/- What an instruction may touch. -/
namespace Go.Proofs.YtlcljdldhajkiaaDoor.pg
open Go.ChangeShapes Go.WideShapes Go.ChangeAt Go.RowKit
set_option linter.unusedVariables false
set_option linter.unusedSimpArgs false
set_option maxRecDepth 100000
attribute [local go_sem ↓] Go.wp_at_zero Go.wp_at_succ
theorem take_oneQ {α : Type} (l : List α) (k : Nat) (x : α) (h : l[k]? = some x) : l.take (k + 1) = l.take k ++ [x] := by
  rw [List.take_add_one, h]
  rfl
/-- What an instruction names is there. -/
structure TchR (f : Fn) (i : Ins) : Prop where
  b : i.op = 50 ∨ i.op = 52 ∨ i.op = 53 ∨ i.op = 57 ∨ i.op = 59 → 0 ≤ i.b ∧ i.b < 8
  a : i.op = 54 ∨ i.op = 51 ∨ i.op = 55 ∨ i.op = 56 ∨ i.op = 58 ∨ i.op = 60 → 0 ≤ i.a ∧ i.a < 8
  s : i.op = 61 → inR i.a f.sels.length ∧ (∀ c ∈ (selAt f i.a).cases, 0 ≤ c.ch ∧ c.ch < 8) ∧ (selAt f i.a).cases.length ≤ 4
  p : i.op = 62 → 0 ≤ i.b ∧ i.b < 8
theorem opnd_vQ {r : Prop} [Decidable r] {P : Pr} {f : Fn} {l x : Int} (h : opndE r P f l x = 0) (hl : l = 97 ∨ l = 118) : inR x P.vars.length := by
  apply Classical.byContradiction
  intro q
  unfold opndE at h
  rcases hl with rfl | rfl <;> simp [q] at h
theorem opnd_lQ {r : Prop} [Decidable r] {P : Pr} {f : Fn} {x : Int} (h : opndE r P f 108 x = 0) : inR x P.locks := by
  apply Classical.byContradiction
  intro q
  unfold opndE at h
  simp [q] at h
theorem opnd_cQ {r : Prop} [Decidable r] {P : Pr} {f : Fn} {x : Int} (h : opndE r P f 99 x = 0) : inR x P.chans.length := by
  apply Classical.byContradiction
  intro q
  unfold opndE at h
  simp [q] at h
theorem sizes_of {P : Pr} (h : (chk insP P).1 = 0) : sizesE P = 0 := by
  unfold chk at h
  by_cases q : sizesE P = 0
  · exact q
  · rw [if_neg q] at h; exact absurd h q
theorem tchR_of {P : Pr} (h : (chk insP P).1 = 0) {f : Fn} (hf : f ∈ P.fns) {i : Ins} (hi : i ∈ f.code) : TchR f i := by
  obtain ⟨v8, l4, c4, f8⟩ := sizes_ok (sizes_of h)
  obtain ⟨h1, h2, _⟩ := chk_parts h f hf
  have ho := ins_opnds (h2 i hi)
  have hfl := flow_of h f hf
  refine ⟨fun q => ?_, fun q => ?_, fun q => ?_, fun q => ?_⟩
  · have o1 := ho 1 (by omega)
    rcases q with q | q | q | q | q <;> rw [q] at o1
    · have := opnd_vQ o1 (.inr rfl); unfold inR at this; have : i.x 1 = i.b := rfl; omega
    · have := opnd_vQ o1 (.inl rfl); unfold inR at this; have : i.x 1 = i.b := rfl; omega
    · have := opnd_vQ o1 (.inl rfl); unfold inR at this; have : i.x 1 = i.b := rfl; omega
    · have := opnd_lQ o1; unfold inR at this; have : i.x 1 = i.b := rfl; omega
    · have := opnd_cQ o1; unfold inR at this; have : i.x 1 = i.b := rfl; omega
  · have o1 := ho 0 (by omega)
    rcases q with q | q | q | q | q | q <;> rw [q] at o1
    · have := opnd_vQ o1 (.inl rfl); unfold inR at this; have : i.x 0 = i.a := rfl; omega
    · have := opnd_vQ o1 (.inr rfl); unfold inR at this; have : i.x 0 = i.a := rfl; omega
    · have := opnd_lQ o1; unfold inR at this; have : i.x 0 = i.a := rfl; omega
    · have := opnd_lQ o1; unfold inR at this; have : i.x 0 = i.a := rfl; omega
    · have := opnd_cQ o1; unfold inR at this; have : i.x 0 = i.a := rfl; omega
    · have := opnd_cQ o1; unfold inR at this; have : i.x 0 = i.a := rfl; omega
  · have o1 := ho 0 (by omega)
    rw [q] at o1
    have hr : inR i.a f.sels.length := opnd_s o1
    have hsm : selAt f i.a ∈ f.sels := by
      unfold selAt
      rw [List.getD_eq_getElem?_getD, List.getElem?_eq_getElem (by have := hr.1; have := hr.2; omega)]
      exact List.getElem_mem _
    refine ⟨hr, fun c hc => ?_, hfl.c _ hsm⟩
    have := (cas_to ((sel_els (h1 _ hsm)).1 c hc)).2
    unfold inR at this
    omega
  · have o1 := ho 1 (by omega)
    rw [q] at o1
    have := opnd_f o1
    unfold inR at this
    have : i.x 1 = i.b := rfl
    omega
set_option maxHeartbeats 8000000 in
theorem instr_any (B : Nat) (O : Nat → Int) (F : MFn) (pc : Nat) (w0 w : World) (hF : F.lies w0) (h0 : Below w0.heap.size w0 w) (hB0 : w0.heap.size ≤ B) (hB : w.heap[B]? = some (objO O)) (i : Ins) (hi : F.code[pc]? = some i) (hR0 : TchR F.fn i) :
    Calls Tryd.prog 26 #[.pointer (some ⟨B, 0, none⟩), F.val, .int .i64 (pc : Int)] w fun e w' => e = .returned (.tuple #[]) ∧ ObS B w (mxL O (tchI F.fn i)) w' := by
  have hSel : Hid (∀ (wx : World) {O' : Nat → Int}, ObS B w O' wx → F.lies wx) := fun wx O' h => hF.later (h0.trans (h.f.b w0.heap.size hB0 h0.size))
  have huI : Hid (Tryd.prog.underlying 70 = _) := Tryd.underlying70
  have huC : Hid (Tryd.prog.underlying 78 = _) := Tryd.underlying78
  have hR : Hid (TchR F.fn i) := hR0
  have hb1 := boxed w (objFn F)
  have hA : (w.alloc (objFn F)).heap[w.heap.size]? = some (objFn F) := heap_alloc_new _ _
  have hBl : B < w.heap.size := (Array.getElem?_eq_some_iff.mp hB).1
  have hS1 : Hid (ObS B w O (w.alloc (objFn F))) := (ObS.refl hB).later hb1
  have hlies1 : F.lies (w.alloc (objFn F)) := hSel.out _ hS1.out
  obtain ⟨b1, o1, x1, l1, q0, q1, q2, q3, q4⟩ := ins_ix hlies1.1 pc i hi
  have hcI := rows_len hlies1.1
  obtain ⟨op, ia, ib, ic, iN⟩ := i
  have hrg : Hid ((w.alloc (objFn F)).rangeAt b1 o1 [.int .i64 op, .int .i64 ia, .int .i64 ib, .int .i64 ic, .int .i64 iN]) := fun j v hj => by
    match j, hj with
    | 0, hj => cases hj; exact q0
    | 1, hj => cases hj; exact q1
    | 2, hj => cases hj; exact q2
    | 3, hj => cases hj; exact q3
    | 4, hj => cases hj; exact q4
  have kA2 : (w.alloc (objFn F)).cell? ⟨w.heap.size, 2, none⟩ = some (.slice F.ca F.code.length F.ccap) := cell_lcQ hA rfl
  have kA : Hid (∀ (wx : World) {O' : Nat → Int}, ObS B (w.alloc (objFn F)) O' wx → wx.cell? ⟨w.heap.size, 3, none⟩ = some (.slice F.sa F.sels.length F.scap)) := fun wx O' h => cell_keepQ (cell_lcQ hA rfl) (h.f.k _ (Array.getElem?_eq_some_iff.mp hA).1 (by omega))
  have hW : Hid (ObS B w O ((w.alloc (objFn F)).alloc (.cells #[.int .i64 op, .int .i64 ia, .int .i64 ib, .int .i64 ic, .int .i64 iN] 70)) ∧ ((w.alloc (objFn F)).alloc (.cells #[.int .i64 op, .int .i64 ia, .int .i64 ib, .int .i64 ic, .int .i64 iN] 70)).heap[(w.alloc (objFn F)).heap.size]? = some (.cells #[.int .i64 op, .int .i64 ia, .int .i64 ib, .int .i64 ic, .int .i64 iN] 70)) := ⟨hS1.out.later (boxed _ _), heap_alloc_new _ _⟩
  have hWA0 : Hid (ObS B (w.alloc (objFn F)) O ((w.alloc (objFn F)).alloc (.cells #[.int .i64 op, .int .i64 ia, .int .i64 ib, .int .i64 ic, .int .i64 iN] 70))) := (ObS.refl hS1.out.o).later (boxed _ _)
  rw [World.size_alloc] at hW
  have kA : Hid (∀ (wx : World), ObS B w O wx → wx = (w.alloc (objFn F)).alloc (.cells #[.int .i64 op, .int .i64 ia, .int .i64 ib, .int .i64 ic, .int .i64 iN] 70) → wx.cell? ⟨w.heap.size, 3, none⟩ = some (.slice F.sa F.sels.length F.scap)) := fun wx _ e => by (rw [e]; exact kA.out _ hWA0.out)
  clear hF h0 hB0 hB hi hR0 hb1 hA q0 q1 q2 q3 q4 l1 hlies1 hS1 hWA0
  go_enter Tryd.func26, Tryd.ntmps26
  go_upto_region 2 with (first
    | ((with_reducible refine at_loadQ 70 _ rfl ?_); refine stopQ_out ?_; refine wpList_load_mid rfl 70 _ rfl b1 o1 rfl [.int .i64 op, .int .i64 ia, .int .i64 ib, .int .i64 ic, .int .i64 iN] _ hrg.out huI.out rfl (by kernel_rfl) ?_)
    | ((with_reducible refine at_storeQ 70 _ _ rfl ?_); refine stopQ_out ?_; refine wpList_store_new rfl 70 _ _ rfl rfl _ #[.int .i64 op, .int .i64 ia, .int .i64 ib, .int .i64 ic, .int .i64 iN] rfl (by kernel_rfl) rfl (by simp [Value.oneCell']) ?_))
  change Code.wp _ _ _ _ ((w.alloc (objFn F)).alloc (.cells #[.int .i64 op, .int .i64 ia, .int .i64 ib, .int .i64 ic, .int .i64 iN] 70))
  try simp only [Act.put, List.getElem_toArray, List.getElem_cons_succ, List.getElem_cons_zero, List.setIfInBounds_toArray, List.set_cons_zero, List.set_cons_succ, World.size_alloc]
  have kA : Hid (((w.alloc (objFn F)).alloc (.cells #[.int .i64 op, .int .i64 ia, .int .i64 ib, .int .i64 ic, .int .i64 iN] 70)).cell? ⟨w.heap.size, 3, none⟩ = some (.slice F.sa F.sels.length F.scap)) := kA.out _ hW.out.1 rfl
  generalize (w.alloc (objFn F)).alloc (.cells #[.int .i64 op, .int .i64 ia, .int .i64 ib, .int .i64 ic, .int .i64 iN] 70) = W at *
  obtain ⟨D, hD⟩ : ∃ D, w.heap.size + 1 = D := ⟨_, rfl⟩
  obtain ⟨A, hAA⟩ : ∃ A, w.heap.size = A := ⟨_, rfl⟩
  rw [hD] at hW
  rw [hAA] at kA
  rw [hD, hAA]
  clear hD hAA hrg x1 kA2 hBl
  have k0 : W.cell? ⟨D, 0, none⟩ = some (.int .i64 op) := cell_lcQ hW.out.2 rfl
  by_cases h50 : op = 50
  · subst h50
    obtain ⟨ib, rfl⟩ : ∃ k : Nat, ib = (k : Int) := ⟨ib.toNat, by have := hR.out.b (by simp); simp only at this; omega⟩
    have hn8 : ib < 8 := by (have := hR.out.b (by simp); simp only at this; omega)
    have k1 : W.cell? ⟨D, 2, none⟩ = some (.int .i64 (ib : Int)) := cell_lcQ hW.out.2 rfl
    have cT : Calls Tryd.prog 47 #[.pointer (some ⟨B, 0, none⟩), .int .i64 1, .int .i64 (ib : Int), .int .i64 1] W _ := touch_any B O 1 ib 1 W (by omega) hn8 hW.out.1.o
    have hL : Hid (mxL O (tchI F.fn ⟨50, ia, (ib : Int), ic, iN⟩) = mx1 O (1 * 8 + ib, 1)) := by
      show _ = _
      unfold tchI obs
      simp [mxL]
    clear hR hSel
    go_wp2_with (go_at_call 47; (with_reducible refine cT.mono ?_); rintro e w3 ⟨rfl, h3⟩; (have hF : Hid (ObS B w (mxL O (tchI F.fn ⟨50, ia, (ib : Int), ic, iN⟩)) w3) := (by (rw [hL.out]; exact hW.out.1.then h3))); clear h3 cT)
    go_end0
    exact ⟨rfl, hF.out⟩
  have e50 : (op == 50) = false := beq_eq_false_iff_ne.mpr h50
  by_cases h54 : op = 54
  · subst h54
    obtain ⟨ia, rfl⟩ : ∃ k : Nat, ia = (k : Int) := ⟨ia.toNat, by have := hR.out.a (by simp); simp only at this; omega⟩
    have hn8 : ia < 8 := by (have := hR.out.a (by simp); simp only at this; omega)
    have k1 : W.cell? ⟨D, 1, none⟩ = some (.int .i64 (ia : Int)) := cell_lcQ hW.out.2 rfl
    have cT : Calls Tryd.prog 47 #[.pointer (some ⟨B, 0, none⟩), .int .i64 1, .int .i64 (ia : Int), .int .i64 1] W _ := touch_any B O 1 ia 1 W (by omega) hn8 hW.out.1.o
    have hL : Hid (mxL O (tchI F.fn ⟨54, (ia : Int), ib, ic, iN⟩) = mx1 O (1 * 8 + ia, 1)) := by
      show _ = _
      unfold tchI obs
      simp [mxL]
    clear hR hSel
    go_wp2_with (go_at_call 47; (with_reducible refine cT.mono ?_); rintro e w3 ⟨rfl, h3⟩; (have hF : Hid (ObS B w (mxL O (tchI F.fn ⟨54, (ia : Int), ib, ic, iN⟩)) w3) := (by (rw [hL.out]; exact hW.out.1.then h3))); clear h3 cT)
    go_end0
    exact ⟨rfl, hF.out⟩
  have e54 : (op == 54) = false := beq_eq_false_iff_ne.mpr h54
  by_cases h51 : op = 51
  · subst h51
    obtain ⟨ia, rfl⟩ : ∃ k : Nat, ia = (k : Int) := ⟨ia.toNat, by have := hR.out.a (by simp); simp only at this; omega⟩
    have hn8 : ia < 8 := by (have := hR.out.a (by simp); simp only at this; omega)
    have k1 : W.cell? ⟨D, 1, none⟩ = some (.int .i64 (ia : Int)) := cell_lcQ hW.out.2 rfl
    have cT : Calls Tryd.prog 47 #[.pointer (some ⟨B, 0, none⟩), .int .i64 1, .int .i64 (ia : Int), .int .i64 2] W _ := touch_any B O 1 ia 2 W (by omega) hn8 hW.out.1.o
    have hL : Hid (mxL O (tchI F.fn ⟨51, (ia : Int), ib, ic, iN⟩) = mx1 O (1 * 8 + ia, 2)) := by
      show _ = _
      unfold tchI obs
      simp [mxL]
    clear hR hSel
    go_wp2_with (go_at_call 47; (with_reducible refine cT.mono ?_); rintro e w3 ⟨rfl, h3⟩; (have hF : Hid (ObS B w (mxL O (tchI F.fn ⟨51, (ia : Int), ib, ic, iN⟩)) w3) := (by (rw [hL.out]; exact hW.out.1.then h3))); clear h3 cT)
    go_end0
    exact ⟨rfl, hF.out⟩
  have e51 : (op == 51) = false := beq_eq_false_iff_ne.mpr h51
  by_cases h52 : op = 52
  · subst h52
    obtain ⟨ib, rfl⟩ : ∃ k : Nat, ib = (k : Int) := ⟨ib.toNat, by have := hR.out.b (by simp); simp only at this; omega⟩
    have hn8 : ib < 8 := by (have := hR.out.b (by simp); simp only at this; omega)
    have k1 : W.cell? ⟨D, 2, none⟩ = some (.int .i64 (ib : Int)) := cell_lcQ hW.out.2 rfl
    have cT : Calls Tryd.prog 47 #[.pointer (some ⟨B, 0, none⟩), .int .i64 1, .int .i64 (ib : Int), .int .i64 2] W _ := touch_any B O 1 ib 2 W (by omega) hn8 hW.out.1.o
    have hL : Hid (mxL O (tchI F.fn ⟨52, ia, (ib : Int), ic, iN⟩) = mx1 O (1 * 8 + ib, 2)) := by
      show _ = _
      unfold tchI obs
      simp [mxL]
    clear hR hSel
    go_wp2_with (go_at_call 47; (with_reducible refine cT.mono ?_); rintro e w3 ⟨rfl, h3⟩; (have hF : Hid (ObS B w (mxL O (tchI F.fn ⟨52, ia, (ib : Int), ic, iN⟩)) w3) := (by (rw [hL.out]; exact hW.out.1.then h3))); clear h3 cT)
    go_end0
    exact ⟨rfl, hF.out⟩
  have e52 : (op == 52) = false := beq_eq_false_iff_ne.mpr h52
  by_cases h53 : op = 53
  · subst h53
    obtain ⟨ib, rfl⟩ : ∃ k : Nat, ib = (k : Int) := ⟨ib.toNat, by have := hR.out.b (by simp); simp only at this; omega⟩
    have hn8 : ib < 8 := by (have := hR.out.b (by simp); simp only at this; omega)
    have k1 : W.cell? ⟨D, 2, none⟩ = some (.int .i64 (ib : Int)) := cell_lcQ hW.out.2 rfl
    have cT : Calls Tryd.prog 47 #[.pointer (some ⟨B, 0, none⟩), .int .i64 1, .int .i64 (ib : Int), .int .i64 2] W _ := touch_any B O 1 ib 2 W (by omega) hn8 hW.out.1.o
    have hL : Hid (mxL O (tchI F.fn ⟨53, ia, (ib : Int), ic, iN⟩) = mx1 O (1 * 8 + ib, 2)) := by
      show _ = _
      unfold tchI obs
      simp [mxL]
    clear hR hSel
    go_wp2_with (go_at_call 47; (with_reducible refine cT.mono ?_); rintro e w3 ⟨rfl, h3⟩; (have hF : Hid (ObS B w (mxL O (tchI F.fn ⟨53, ia, (ib : Int), ic, iN⟩)) w3) := (by (rw [hL.out]; exact hW.out.1.then h3))); clear h3 cT)
    go_end0
    exact ⟨rfl, hF.out⟩
  have e53 : (op == 53) = false := beq_eq_false_iff_ne.mpr h53
  by_cases h55 : op = 55
  · subst h55
    obtain ⟨ia, rfl⟩ : ∃ k : Nat, ia = (k : Int) := ⟨ia.toNat, by have := hR.out.a (by simp); simp only at this; omega⟩
    have hn8 : ia < 8 := by (have := hR.out.a (by simp); simp only at this; omega)
    have k1 : W.cell? ⟨D, 1, none⟩ = some (.int .i64 (ia : Int)) := cell_lcQ hW.out.2 rfl
    have cT : Calls Tryd.prog 47 #[.pointer (some ⟨B, 0, none⟩), .int .i64 2, .int .i64 (ia : Int), .int .i64 2] W _ := touch_any B O 2 ia 2 W (by omega) hn8 hW.out.1.o
    have hL : Hid (mxL O (tchI F.fn ⟨55, (ia : Int), ib, ic, iN⟩) = mx1 O (2 * 8 + ia, 2)) := by
      show _ = _
      unfold tchI obs
      simp [mxL]
    clear hR hSel
    go_wp2_with (go_at_call 47; (with_reducible refine cT.mono ?_); rintro e w3 ⟨rfl, h3⟩; (have hF : Hid (ObS B w (mxL O (tchI F.fn ⟨55, (ia : Int), ib, ic, iN⟩)) w3) := (by (rw [hL.out]; exact hW.out.1.then h3))); clear h3 cT)
    go_end0
    exact ⟨rfl, hF.out⟩
  have e55 : (op == 55) = false := beq_eq_false_iff_ne.mpr h55
  by_cases h56 : op = 56
  · subst h56
    obtain ⟨ia, rfl⟩ : ∃ k : Nat, ia = (k : Int) := ⟨ia.toNat, by have := hR.out.a (by simp); simp only at this; omega⟩
    have hn8 : ia < 8 := by (have := hR.out.a (by simp); simp only at this; omega)
    have k1 : W.cell? ⟨D, 1, none⟩ = some (.int .i64 (ia : Int)) := cell_lcQ hW.out.2 rfl
    have cT : Calls Tryd.prog 47 #[.pointer (some ⟨B, 0, none⟩), .int .i64 2, .int .i64 (ia : Int), .int .i64 2] W _ := touch_any B O 2 ia 2 W (by omega) hn8 hW.out.1.o
    have hL : Hid (mxL O (tchI F.fn ⟨56, (ia : Int), ib, ic, iN⟩) = mx1 O (2 * 8 + ia, 2)) := by
      show _ = _
      unfold tchI obs
      simp [mxL]
    clear hR hSel
    go_wp2_with (go_at_call 47; (with_reducible refine cT.mono ?_); rintro e w3 ⟨rfl, h3⟩; (have hF : Hid (ObS B w (mxL O (tchI F.fn ⟨56, (ia : Int), ib, ic, iN⟩)) w3) := (by (rw [hL.out]; exact hW.out.1.then h3))); clear h3 cT)
    go_end0
    exact ⟨rfl, hF.out⟩
  have e56 : (op == 56) = false := beq_eq_false_iff_ne.mpr h56
  by_cases h57 : op = 57
  · subst h57
    obtain ⟨ib, rfl⟩ : ∃ k : Nat, ib = (k : Int) := ⟨ib.toNat, by have := hR.out.b (by simp); simp only at this; omega⟩
    have hn8 : ib < 8 := by (have := hR.out.b (by simp); simp only at this; omega)
    have k1 : W.cell? ⟨D, 2, none⟩ = some (.int .i64 (ib : Int)) := cell_lcQ hW.out.2 rfl
    have cT : Calls Tryd.prog 47 #[.pointer (some ⟨B, 0, none⟩), .int .i64 2, .int .i64 (ib : Int), .int .i64 2] W _ := touch_any B O 2 ib 2 W (by omega) hn8 hW.out.1.o
    have hL : Hid (mxL O (tchI F.fn ⟨57, ia, (ib : Int), ic, iN⟩) = mx1 O (2 * 8 + ib, 2)) := by
      show _ = _
      unfold tchI obs
      simp [mxL]
    clear hR hSel
    go_wp2_with (go_at_call 47; (with_reducible refine cT.mono ?_); rintro e w3 ⟨rfl, h3⟩; (have hF : Hid (ObS B w (mxL O (tchI F.fn ⟨57, ia, (ib : Int), ic, iN⟩)) w3) := (by (rw [hL.out]; exact hW.out.1.then h3))); clear h3 cT)
    go_end0
    exact ⟨rfl, hF.out⟩
  have e57 : (op == 57) = false := beq_eq_false_iff_ne.mpr h57
  by_cases h58 : op = 58
  · subst h58
    obtain ⟨ia, rfl⟩ : ∃ k : Nat, ia = (k : Int) := ⟨ia.toNat, by have := hR.out.a (by simp); simp only at this; omega⟩
    have hn8 : ia < 8 := by (have := hR.out.a (by simp); simp only at this; omega)
    have k1 : W.cell? ⟨D, 1, none⟩ = some (.int .i64 (ia : Int)) := cell_lcQ hW.out.2 rfl
    have cT : Calls Tryd.prog 47 #[.pointer (some ⟨B, 0, none⟩), .int .i64 3, .int .i64 (ia : Int), .int .i64 2] W _ := touch_any B O 3 ia 2 W (by omega) hn8 hW.out.1.o
    have hL : Hid (mxL O (tchI F.fn ⟨58, (ia : Int), ib, ic, iN⟩) = mx1 O (3 * 8 + ia, 2)) := by
      show _ = _
      unfold tchI obs
      simp [mxL]
    clear hR hSel
    go_wp2_with (go_at_call 47; (with_reducible refine cT.mono ?_); rintro e w3 ⟨rfl, h3⟩; (have hF : Hid (ObS B w (mxL O (tchI F.fn ⟨58, (ia : Int), ib, ic, iN⟩)) w3) := (by (rw [hL.out]; exact hW.out.1.then h3))); clear h3 cT)
    go_end0
    exact ⟨rfl, hF.out⟩
  have e58 : (op == 58) = false := beq_eq_false_iff_ne.mpr h58
  by_cases h60 : op = 60
  · subst h60
    obtain ⟨ia, rfl⟩ : ∃ k : Nat, ia = (k : Int) := ⟨ia.toNat, by have := hR.out.a (by simp); simp only at this; omega⟩
    have hn8 : ia < 8 := by (have := hR.out.a (by simp); simp only at this; omega)
    have k1 : W.cell? ⟨D, 1, none⟩ = some (.int .i64 (ia : Int)) := cell_lcQ hW.out.2 rfl
    have cT : Calls Tryd.prog 47 #[.pointer (some ⟨B, 0, none⟩), .int .i64 3, .int .i64 (ia : Int), .int .i64 2] W _ := touch_any B O 3 ia 2 W (by omega) hn8 hW.out.1.o
    have hL : Hid (mxL O (tchI F.fn ⟨60, (ia : Int), ib, ic, iN⟩) = mx1 O (3 * 8 + ia, 2)) := by
      show _ = _
      unfold tchI obs
      simp [mxL]
    clear hR hSel
    go_wp2_with (go_at_call 47; (with_reducible refine cT.mono ?_); rintro e w3 ⟨rfl, h3⟩; (have hF : Hid (ObS B w (mxL O (tchI F.fn ⟨60, (ia : Int), ib, ic, iN⟩)) w3) := (by (rw [hL.out]; exact hW.out.1.then h3))); clear h3 cT)
    go_end0
    exact ⟨rfl, hF.out⟩
  have e60 : (op == 60) = false := beq_eq_false_iff_ne.mpr h60
  by_cases h59 : op = 59
  · subst h59
    obtain ⟨ib, rfl⟩ : ∃ k : Nat, ib = (k : Int) := ⟨ib.toNat, by have := hR.out.b (by simp); simp only at this; omega⟩
    have hn8 : ib < 8 := by (have := hR.out.b (by simp); simp only at this; omega)
    have k1 : W.cell? ⟨D, 2, none⟩ = some (.int .i64 (ib : Int)) := cell_lcQ hW.out.2 rfl
    have cT : Calls Tryd.prog 47 #[.pointer (some ⟨B, 0, none⟩), .int .i64 3, .int .i64 (ib : Int), .int .i64 2] W _ := touch_any B O 3 ib 2 W (by omega) hn8 hW.out.1.o
    have hL : Hid (mxL O (tchI F.fn ⟨59, ia, (ib : Int), ic, iN⟩) = mx1 O (3 * 8 + ib, 2)) := by
      show _ = _
      unfold tchI obs
      simp [mxL]
    clear hR hSel
    go_wp2_with (go_at_call 47; (with_reducible refine cT.mono ?_); rintro e w3 ⟨rfl, h3⟩; (have hF : Hid (ObS B w (mxL O (tchI F.fn ⟨59, ia, (ib : Int), ic, iN⟩)) w3) := (by (rw [hL.out]; exact hW.out.1.then h3))); clear h3 cT)
    go_end0
    exact ⟨rfl, hF.out⟩
  have e59 : (op == 59) = false := beq_eq_false_iff_ne.mpr h59
  by_cases h61 : op = 61
  · subst h61
    obtain ⟨hs1, hs2, hs3⟩ := hR.out.s rfl
    simp only at hs1
    obtain ⟨sa, rfl⟩ : ∃ k : Nat, ia = (k : Int) := ⟨ia.toNat, by have := hs1.1; omega⟩
    have hsl : sa < F.sels.length := by (have h := hs1.2; have e : F.fn.sels.length = F.sels.length := (by show (F.sels.map MSel.sel).length = _; rw [List.length_map]); omega)
    obtain ⟨s, hs⟩ : ∃ s, F.sels[sa]? = some s := ⟨_, List.getElem?_eq_getElem hsl⟩
    have hsA : selAt F.fn (sa : Int) = s.sel := by
      unfold selAt
      show (F.sels.map MSel.sel).getD _ _ = _
      rw [Int.toNat_natCast, List.getD_eq_getElem?_getD, List.getElem?_map, hs]
      rfl
    have hL : Hid (tchI F.fn ⟨61, (sa : Int), ib, ic, iN⟩ = s.cases.map fun c => (obs 3 c.ch, 2)) := by
      show _ = _
      unfold tchI
      simp only
      rw [hsA]
      simp [MSel.sel]
    have hch : Hid (∀ c ∈ s.cases, 0 ≤ c.ch ∧ c.ch < 8) := fun c hc => hs2 c (by simp only; rw [hsA]; exact hc)
    have hcl : Hid (s.cases.length ≤ 4) := by (have h := hs3; simp only at h; rw [hsA] at h; exact h)
    have hFl := hSel.out W hW.out.1
    obtain ⟨b2, o2, x2, l2, k20, k21⟩ := sel_ix hFl.2.1 sa s hs
    have hcs : Hid (∀ (wx : World) (O' : Nat → Int), ObS B w O' wx → Rows wx 4 s.at_ s.cap (s.cases.map Cas.cells)) := fun wx O' h => ((hSel.out wx h).2.2.2.1 s (List.mem_of_getElem? hs)).1
    have k1 : W.cell? ⟨D, 1, none⟩ = some (.int .i64 (sa : Int)) := cell_lcQ hW.out.2 rfl
    have kA3 : W.cell? ⟨A, 3, none⟩ = some (.slice F.sa F.sels.length F.scap) := kA.out
    have hclI : (s.cases.length : Int) ≤ 4 := by (have := hcl.out; omega)
    have hWA : Hid (ObS B w O W) := hW.out.1
    clear hR hs1 hs2 hs3 hsA hFl hs
    go_wp2_with fail
    go_loopw [77] (fun u wr => ∃ k : Nat, k ≤ s.cases.length ∧ u = .int .i64 (k : Int) ∧ Hid (ObS B w (mxL O ((s.cases.take k).map fun c => (obs 3 c.ch, 2))) wr)) (fun u _ => s.cases.length - (intOf u).toNat)
    case atStart => exact ⟨0, Nat.zero_le _, rfl, hWA.out⟩
    case round =>
      obtain ⟨k, hk, rfl, hq⟩ := hrel
      clear hW hWA k1 kA3 k20 k21 x2
      by_cases hlt : k < s.cases.length
      · have hkI : (k : Int) < s.cases.length := by omega
        obtain ⟨x, hx⟩ : ∃ x, s.cases[k]? = some x := ⟨_, List.getElem?_eq_getElem hlt⟩
        have hxr := hch.out x (List.mem_of_getElem? hx)
        obtain ⟨b3, o3, x3, l3, q0, q1, q2, q3⟩ := cas_ix (hcs.out wr _ hq.out) k x hx
        have hrg : Hid (wr.rangeAt b3 o3 [.bool x.send, .int .i64 x.ch, .int .i64 x.reg, .int .i64 x.to]) := fun j v hj => by
          match j, hj with
          | 0, hj => cases hj; exact q0
          | 1, hj => cases hj; exact q1
          | 2, hj => cases hj; exact q2
          | 3, hj => cases hj; exact q3
        have hstp : Hid ((s.cases.take (k + 1)).map (fun c => (obs 3 c.ch, (2 : Int))) = (s.cases.take k).map (fun c => (obs 3 c.ch, (2 : Int))) ++ [(obs 3 x.ch, 2)]) := by (show _ = _; rw [take_oneQ s.cases k x hx, List.map_append]; rfl)
        have hst1 : Hid (ObS B w (mxL O ((s.cases.take k).map fun c => (obs 3 c.ch, 2))) (wr.alloc (.cells #[.bool x.send, .int .i64 x.ch, .int .i64 x.reg, .int .i64 x.to] 78)) ∧ (wr.alloc (.cells #[.bool x.send, .int .i64 x.ch, .int .i64 x.reg, .int .i64 x.to] 78)).heap[wr.heap.size]? = some (.cells #[.bool x.send, .int .i64 x.ch, .int .i64 x.reg, .int .i64 x.to] 78)) := ⟨hq.out.later (boxed _ _), heap_alloc_new _ _⟩
        obtain ⟨send, chn, reg, tt⟩ := x
        simp only at hxr
        obtain ⟨chn, rfl⟩ : ∃ k : Nat, chn = (k : Int) := ⟨chn.toNat, by omega⟩
        have hn8 : chn < 8 := by omega
        clear hq hx hxr q0 q1 q2 q3 l3
        go_upto_region 26 with (first
          | (refine wpList_load_mid rfl 78 _ rfl b3 o3 rfl [.bool send, .int .i64 (chn : Int), .int .i64 reg, .int .i64 tt] _ hrg.out huC.out rfl (by kernel_rfl) ?_)
          | (refine wpList_store_new rfl 78 _ _ rfl rfl _ #[.bool send, .int .i64 (chn : Int), .int .i64 reg, .int .i64 tt] rfl (by kernel_rfl) rfl (by simp [Value.oneCell']) ?_))
        change Code.wp _ _ _ _ (wr.alloc (.cells #[.bool send, .int .i64 (chn : Int), .int .i64 reg, .int .i64 tt] 78))
        generalize wr.alloc (.cells #[.bool send, .int .i64 (chn : Int), .int .i64 reg, .int .i64 tt] 78) = X1 at *
        generalize wr.heap.size = C at *
        clear hrg x3
        have m1 : X1.cell? ⟨C, 1, none⟩ = some (.int .i64 (chn : Int)) := cell_lcQ hst1.out.2 rfl
        have cT : Calls Tryd.prog 47 #[.pointer (some ⟨B, 0, none⟩), .int .i64 3, .int .i64 (chn : Int), .int .i64 2] X1 _ := touch_any B _ 3 chn 2 X1 (by omega) hn8 hst1.out.1.o
        go_wp2_with (go_at_call 47; (with_reducible refine cT.mono ?_); rintro e w3 ⟨rfl, h3⟩; (have hF : Hid (ObS B w (mxL O ((s.cases.take (k + 1)).map fun c => (obs 3 c.ch, 2))) w3) := (by (rw [hstp.out, mxL_app]; exact hst1.out.1.then h3))); clear h3 cT m1)
        go_roundw
        case rel => exact ⟨k + 1, by omega, by go_num, hF.out⟩
        case measure => simp [intOf]; omega
      · have hke : k = s.cases.length := by omega
        have hkI : ¬ (k : Int) < s.cases.length := by omega
        rw [hke, List.take_length] at hq
        go_wp2
        go_end0
        exact ⟨rfl, by rw [hL.out]; exact hq.out⟩
  have e61 : (op == 61) = false := beq_eq_false_iff_ne.mpr h61
  by_cases h62 : op = 62
  · subst h62
    have cT : Calls Tryd.prog 48 #[.pointer (some ⟨B, 0, none⟩), .int .i64 1, .int .i64 2] W _ := goroutines_any B O 1 2 W (by omega) hW.out.1.o
    have hL : Hid (mxL O (tchI F.fn ⟨62, ia, ib, ic, iN⟩) = mxL O (gosL 1 2)) := by
      show _ = _
      unfold tchI
      simp
    clear hR hSel
    go_wp2_with (go_at_call 48; (with_reducible refine cT.mono ?_); rintro e w3 ⟨rfl, h3⟩; (have hF : Hid (ObS B w (mxL O (tchI F.fn ⟨62, ia, ib, ic, iN⟩)) w3) := (by (rw [hL.out]; exact hW.out.1.then h3))); clear h3 cT)
    go_end0
    exact ⟨rfl, hF.out⟩
  have e62 : (op == 62) = false := beq_eq_false_iff_ne.mpr h62
  by_cases h63 : op = 63
  · subst h63
    have cT : Calls Tryd.prog 48 #[.pointer (some ⟨B, 0, none⟩), .int .i64 0, .int .i64 1] W _ := goroutines_any B O 0 1 W (by omega) hW.out.1.o
    have hL : Hid (mxL O (tchI F.fn ⟨63, ia, ib, ic, iN⟩) = mxL O (gosL 0 1)) := by
      show _ = _
      unfold tchI
      simp
    clear hR hSel
    go_wp2_with (go_at_call 48; (with_reducible refine cT.mono ?_); rintro e w3 ⟨rfl, h3⟩; (have hF : Hid (ObS B w (mxL O (tchI F.fn ⟨63, ia, ib, ic, iN⟩)) w3) := (by (rw [hL.out]; exact hW.out.1.then h3))); clear h3 cT)
    go_end0
    exact ⟨rfl, hF.out⟩
  have e63 : (op == 63) = false := beq_eq_false_iff_ne.mpr h63
  by_cases h65 : op = 65
  · subst h65
    have cT : Calls Tryd.prog 47 #[.pointer (some ⟨B, 0, none⟩), .int .i64 6, .int .i64 0, .int .i64 2] W _ := touch_any B O 6 0 2 W (by omega) (by omega) hW.out.1.o
    have hL : Hid (mxL O (tchI F.fn ⟨65, ia, ib, ic, iN⟩) = mx1 O (6 * 8 + 0, 2)) := by
      show _ = _
      unfold tchI
      simp [mxL]
    clear hR hSel
    go_wp2_with (go_at_call 47; (with_reducible refine cT.mono ?_); rintro e w3 ⟨rfl, h3⟩; (have hF : Hid (ObS B w (mxL O (tchI F.fn ⟨65, ia, ib, ic, iN⟩)) w3) := (by (rw [hL.out]; exact hW.out.1.then h3))); clear h3 cT)
    go_end0
    exact ⟨rfl, hF.out⟩
  have e65 : (op == 65) = false := beq_eq_false_iff_ne.mpr h65
  have hL : Hid (tchI F.fn ⟨op, ia, ib, ic, iN⟩ = []) := by
    show _ = _
    unfold tchI
    simp only
    rw [if_neg h50, if_neg h54, if_neg h51, if_neg (fun q => q.elim h52 h53), if_neg (fun q => q.elim h55 h56), if_neg h57, if_neg (fun q => q.elim h58 h60), if_neg h59, if_neg h61, if_neg h62, if_neg h63, if_neg h65]
  clear hR hSel
  go_wp2
  go_end0
  exact ⟨rfl, by rw [hL.out]; exact hW.out.1⟩
end Go.Proofs.YtlcljdldhajkiaaDoor.pg
/- A loop over an iterator that stands in a loop: its marks; all that may come behind some places. -/
namespace Go.Proofs.YtlcljdldhajkiaaDoor.pg
open Go.ChangeShapes Go.WideShapes Go.ChangeAt Go.RowKit Go.Shelf
set_option linter.unusedVariables false
set_option linter.unusedSimpArgs false
set_option maxRecDepth 100000
attribute [local go_sem] Oper.semAt_some
/-- The mark that a range over a function leaves among the deferred calls. -/
abbrev mkD (D : Nat) : Deferred := { target := .collected D, args := #[] }
structure Marks (n₀ : Nat) (Ds : List Nat) (W : World) : Prop where
  nd : Ds.Nodup
  at_ : ∀ D ∈ Ds, n₀ ≤ D ∧ W.heap[D]? = some (.deferred (some []))
theorem Marks.nil (n₀ : Nat) (W : World) : Marks n₀ [] W := ⟨List.nodup_nil, by simp⟩
theorem Marks.lt {n₀ : Nat} {Ds : List Nat} {W : World} (h : Marks n₀ Ds W) {D : Nat} (hD : D ∈ Ds) : D < W.heap.size := (Array.getElem?_eq_some_iff.mp (h.at_ D hD).2).1
theorem Marks.keep {n₀ : Nat} {Ds : List Nat} {W W' : World} (h : Marks n₀ Ds W) (hk : ∀ D ∈ Ds, W'.heap[D]? = W.heap[D]?) : Marks n₀ Ds W' := ⟨h.nd, fun D hD => ⟨(h.at_ D hD).1, (hk D hD).trans (h.at_ D hD).2⟩⟩
theorem Marks.later {n₀ : Nat} {Ds : List Nat} {W W' : World} (h : Marks n₀ Ds W) (hb : Below W.heap.size W W') : Marks n₀ Ds W' := h.keep fun D hD => hb.block D (h.lt hD)
theorem Marks.more {n₀ : Nat} {Ds : List Nat} {W : World} (h : Marks n₀ Ds W) {D : Nat} (hn : n₀ ≤ D) (hne : D ∉ Ds) (hD : W.heap[D]? = some (.deferred (some []))) : Marks n₀ (D :: Ds) W :=
  ⟨List.nodup_cons.mpr ⟨hne, h.nd⟩, fun E hE => by
    rcases List.mem_cons.mp hE with rfl | hE
    · exact ⟨hn, hD⟩
    · exact h.at_ E hE⟩
/-- What leaving keeps: all cells. -/
structure KeepD (n₀ : Nat) (W W' : World) : Prop where
  b : Below n₀ W W'
  c : ∀ (b : Nat) cs t z, W.heap[b]? = some (.cells cs t z) → W'.heap[b]? = some (.cells cs t z)
theorem leaves_marks {F : Fence} {n : Nat} {P : Program} {fn : Func} {tmps : Array Value} {R : Ending → World → Prop} {n₀ : Nat} : ∀ (Ds : List Nat) (W : World), Marks n₀ Ds W → (∀ W', KeepD n₀ W W' → LeavesIn F n P fn tmps R [] .returning W') → LeavesInM F n P fn tmps R (Ds.map mkD) .returning W
  | [], W, _, h => h W ⟨Below.refl _ _, fun _ _ _ _ q => q⟩
  | D :: Ds, W, hm, h => by
    obtain ⟨hn, hD⟩ := hm.at_ D (by simp)
    have hnd := List.nodup_cons.mp hm.nd
    refine ⟨(fun q => by cases q), .inl ⟨D, _, rfl, run_takeDeferred hD, ?_⟩⟩
    refine leaves_marks Ds _ ⟨hnd.2, fun E hE => ⟨(hm.at_ E (by simp [hE])).1, (World.putObj_heap_other (show E ≠ D from fun e => by subst e; exact hnd.1 hE)).trans (hm.at_ E (by simp [hE])).2⟩⟩ fun W' hk => h W' ?_
    have hb : Below n₀ W (W.putObj D (.deferred none)) := (Below.refl n₀ W).grown (grownBy_putObj' W D _) (by have := hm.lt (D := D) (by simp); omega) (fun k e => by cases e; exact hn)
    exact ⟨hb.trans hk.b, fun b cs t z q => hk.c b cs t z (by
      by_cases e : b = D
      · subst e; rw [hD] at q; cases q
      · exact (World.putObj_heap_other e).trans q)⟩
end Go.Proofs.YtlcljdldhajkiaaDoor.pg
