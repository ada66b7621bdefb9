/- The document's own Fit; whether a list has a number; equal lists; the statements' own little program. -/
import Derived.Test.YtlcljdldhajkiaaDoorM15
import Derived.Test.YtlcljdldhajkiaaDoorM17
namespace Go.Proofs.YtlcljdldhajkiaaDoor.pg
open Go.ChangeShapes Go.WideShapes Go.ChangeAt Go.RowKit Go.Shelf
set_option linter.unusedVariables false
set_option linter.unusedSimpArgs false
set_option maxRecDepth 100000
set_option maxHeartbeats 1000000 in
theorem rfit_any (M : MPr) (f pc : Int) (w : World) (hM : M.lies w) (e : Int) (he : Hid (e = fitP M.pr f pc)) : Calls Tryd.prog 8 #[M.val, .int .i64 f, .int .i64 pc] w fun e' w' => e' = .returned (.int .i64 e) ∧ Below w.heap.size w w' := by
  have hb := boxed w (objP M)
  have bP := boxP_new w M
  have bPH : Hid (BoxP (w.alloc (objP M)) w.heap.size M) := bP
  have hbH : Hid (Below w.heap.size w (w.alloc (objP M))) := hb
  have hcall := fun (Q : Bool) (hQ : Hid (decide ((chk insR M.pr).1 = 0) = Q)) => rright_any M _ (hM.later hb) Q hQ
  have hri : Hid _ := right_iff M.pr
  have hl : ((M.pr.fns.length : Nat) : Int) = M.fns.length := by show (((M.fns.map MFn.fn).length : Nat) : Int) = _; rw [List.length_map]
  by_cases hok : (chk insP M.pr).1 = 0
  rotate_left
  · have xR := hcall false (decide_eq_false fun q => hok (hri.out.mpr q))
    have e3 : e = 3 := by
      have h3 : fitF M.pr f = 3 := by rw [fitF, if_neg hok]
      rw [he.out, fitP, h3]; rfl
    subst e3
    clear hcall hok he hM hl hb
    go_enter Tryd.func8, Tryd.ntmps8
    go_wp2_with (go_at_call 17; (with_reducible refine xR.mono ?_); rintro e w2 ⟨rfl, hb2⟩)
    go_ret
    exact ⟨rfl, bthen hbH.out hb2⟩
  have xR := hcall true (decide_eq_true (hri.out.mp hok))
  have e0 : fitF M.pr f = if 0 ≤ f ∧ f < M.fns.length then 0 else 1 := by rw [fitF, if_pos hok, hl]
  by_cases f0 : f < 0
  · have e1 : e = 1 := by
      have h3 : fitF M.pr f = 1 := by rw [e0, if_neg (by omega)]
      rw [he.out, fitP, h3]; rfl
    subst e1
    have d0 : decide (f < 0) = true := decide_eq_true f0
    clear hcall hok he hM hl hb e0
    go_enter Tryd.func8, Tryd.ntmps8
    go_wp2_with (go_at_call 17; (with_reducible refine xR.mono ?_); rintro e w2 ⟨rfl, hb2⟩)
    go_ret
    exact ⟨rfl, bthen hbH.out hb2⟩
  have d0 : decide (f < 0) = false := decide_eq_false f0
  by_cases f1 : (M.fns.length : Int) ≤ f
  · have e1 : e = 1 := by
      have h3 : fitF M.pr f = 1 := by rw [e0, if_neg (by omega)]
      rw [he.out, fitP, h3]; rfl
    subst e1
    have d1 : decide ((M.fns.length : Int) ≤ f) = true := decide_eq_true f1
    clear hcall hok he hM hl hb e0 f0 f1
    go_enter Tryd.func8, Tryd.ntmps8
    go_wp2_with (go_at_call 17; (with_reducible refine xR.mono ?_); rintro e w2 ⟨rfl, hb2⟩; (have p3 := (bPH.out.later hb2).2.2.2))
    go_ret
    exact ⟨rfl, bthen hbH.out hb2⟩
  have d1 : decide ((M.fns.length : Int) ≤ f) = false := decide_eq_false f1
  have h0 : fitF M.pr f = 0 := by rw [e0, if_pos (by omega)]
  obtain ⟨F, hFi, hFm, eF⟩ := fn_get h0
  have e1 : e = if 0 ≤ pc ∧ pc < F.code.length then 0 else 1 := by rw [he.out, fitP, if_pos h0, eF]; rfl
  obtain ⟨fb, fo, hfix, hfb, fc0, fc1, fc2, fc3⟩ := fn_ix (hM.later hb).2.2.1 f.toNat F hFi
  rw [show ((f.toNat : Nat) : Int) = f by omega] at hfix
  have fc2H : Hid ((w.alloc (objP M)).cell? ⟨fb, fo + 2, none⟩ = some (.slice F.ca F.code.length F.ccap)) := fc2
  clear hcall hok he hM hl hb e0 f0 f1 eF hFi hFm h0 hfb fc0 fc1 fc2 fc3
  by_cases p0 : pc < 0
  · have e2 : e = 1 := by rw [e1, if_neg (by omega)]
    subst e2
    have d2 : decide (pc < 0) = true := decide_eq_true p0
    clear e1
    go_enter Tryd.func8, Tryd.ntmps8
    go_wp2_with (go_at_call 17; (with_reducible refine xR.mono ?_); rintro e w2 ⟨rfl, hb2⟩; (have p3 := (bPH.out.later hb2).2.2.2))
    go_ret
    exact ⟨rfl, bthen hbH.out hb2⟩
  have d2 : decide (pc < 0) = false := decide_eq_false p0
  by_cases p1 : (F.code.length : Int) ≤ pc
  · have e2 : e = 1 := by rw [e1, if_neg (by omega)]
    subst e2
    have d3 : decide ((F.code.length : Int) ≤ pc) = true := decide_eq_true p1
    clear e1 p0 p1
    go_enter Tryd.func8, Tryd.ntmps8
    go_wp2_with (go_at_call 17; (with_reducible refine xR.mono ?_); rintro e w2 ⟨rfl, hb2⟩; (have p3 := (bPH.out.later hb2).2.2.2); (have k2 := cell_later hb2 fc2H.out))
    go_ret
    exact ⟨rfl, bthen hbH.out hb2⟩
  · have e2 : e = 0 := by rw [e1, if_pos (by omega)]
    subst e2
    have d3 : decide ((F.code.length : Int) ≤ pc) = false := decide_eq_false p1
    clear e1 p0 p1
    go_enter Tryd.func8, Tryd.ntmps8
    go_wp2_with (go_at_call 17; (with_reducible refine xR.mono ?_); rintro e w2 ⟨rfl, hb2⟩; (have p3 := (bPH.out.later hb2).2.2.2); (have k2 := cell_later hb2 fc2H.out))
    go_ret
    exact ⟨rfl, bthen hbH.out hb2⟩
set_option maxHeartbeats 1000000 in
theorem sameInts_f (l : List Int) (a b : Option Addr) (ca cb : Nat) (w : World) (ha : Rows w 1 a ca (l.map chCells)) (hb : Rows w 1 b cb (l.map chCells)) :
    Calls Tryd.prog 19 #[.slice a l.length ca, .slice b l.length cb] w fun e w' => e = .returned (.bool true) ∧ Below w.heap.size w w' := by
  have hlI : (l.length : Int) ≤ 9223372036854775807 := rows_len ha
  go_enter Tryd.func19, Tryd.ntmps19
  go_wp2_with fail
  go_loopw [13] (fun u wr => ∃ k : Nat, k ≤ l.length ∧ u = .int .i64 k ∧ Below w.heap.size w wr) (fun u _ => l.length - (intOf u).toNat)
  case atStart => exact ⟨0, Nat.zero_le _, rfl, Below.refl _ _⟩
  case round =>
    obtain ⟨k, hk, rfl, hbe⟩ := hrel
    by_cases hlt : k < l.length
    · obtain ⟨y, hy, hym⟩ := get_lt l k hlt
      obtain ⟨b1, o1, hix1, hbl1, c1⟩ := ch_ix (ha.later hbe) k y hy
      obtain ⟨b2, o2, hix2, hbl2, c2⟩ := ch_ix (hb.later hbe) k y hy
      have hkI : (k : Int) < l.length := by omega
      go_wp2_with fail
      go_quiet (fail)
      go_wp2
      go_roundw
      case rel => exact ⟨k + 1, by omega, by go_num, below_drewN hbe _⟩
      case measure => simp [intOf]; omega
    · have hk2 : k = l.length := by omega
      subst hk2
      go_wp2
      go_ret
      exact ⟨rfl, hbe⟩
end Go.Proofs.YtlcljdldhajkiaaDoor.pg
/- The statements' own little program: yield and end. -/
namespace Go.Proofs.YtlcljdldhajkiaaDoor.pg
open Go.ChangeShapes Go.WideShapes Go.ChangeAt Go.RowKit Go.Shelf
set_option linter.unusedVariables false
set_option linter.unusedSimpArgs false
set_option maxRecDepth 100000
theorem rows_ofF {w : World} {B : Nat} {cs : List Value} {t : TypeId} (h : w.heap[B]? = some (.cells cs.toArray t (0, 0))) {off k cap : Nat} (L : List (List Value)) (hk : ∀ row ∈ L, row.length = k) (hc : L.length ≤ cap) (hm : cap ≤ 9223372036854775807) (a c : List Value) (e : cs = a ++ (L.flatten ++ c)) (ho : a.length = off) : Rows w k (some ⟨B, off, none⟩) cap L := by
  refine ⟨hc, hm, by simp, .inr ⟨B, off, rfl, (Array.getElem?_eq_some_iff.mp h).1, fun i row hi => ⟨hk row (List.mem_of_getElem? hi), fun j u hj => cell_ofF h ?_⟩⟩⟩
  have hjk : j < k := by rw [← hk row (List.mem_of_getElem? hi)]; exact (List.getElem?_eq_some_iff.mp hj).1
  have := flatten_at L hk i row hi j hjk
  rw [hj] at this
  have hlt := (List.getElem?_eq_some_iff.mp this).1
  rw [List.getElem?_toArray, e, List.getElem?_append_right (by omega), ho, Nat.add_sub_cancel_left, List.getElem?_append_left hlt]
  exact this
def litY : Fn := ⟨0, 0, [⟨64, 0, 0, 0, 0⟩, ⟨45, 0, 0, 0, 0⟩], []⟩
def litYP : Pr := ⟨[], 0, [], [litY]⟩
theorem chk_litY : chk insP litYP = (0, 0, 0) := by decide
/-- The program: its code in block B, its function in B + 1. -/
def litYF (B : Nat) : MFn := ⟨0, 0, some ⟨B, 0, none⟩, 2, [⟨64, 0, 0, 0, 0⟩, ⟨45, 0, 0, 0, 0⟩], none, 0, []⟩
def litYM (B : Nat) : MPr := ⟨none, 0, [], 0, none, 0, [], some ⟨B + 1, 0, none⟩, 1, [litYF B]⟩
theorem litYM_pr (B : Nat) : (litYM B).pr = litYP := rfl
theorem rows_nilF (w : World) (k : Nat) : Rows w k none 0 [] := ⟨by simp, by simp, by simp, .inl rfl⟩
theorem i0F : I64 0 := ⟨by decide, by decide⟩
theorem litY_lies {w : World} {B : Nat} (h2 : w.heap[B]? = some (.cells #[.int .i64 64, .int .i64 0, .int .i64 0, .int .i64 0, .int .i64 0, .int .i64 45, .int .i64 0, .int .i64 0, .int .i64 0, .int .i64 0] 70))
    (h3 : w.heap[B + 1]? = some (.cells #[.int .i64 0, .int .i64 0, .slice (some ⟨B, 0, none⟩) 2 2, .slice none 0 0] 62)) : (litYM B).lies w := by
  refine ⟨rows_nilF w 2, rows_nilF w 1, rows_ofF (cs := [.int .i64 0, .int .i64 0, .slice (some ⟨B, 0, none⟩) 2 2, .slice none 0 0]) h3 [[.int .i64 0, .int .i64 0, .slice (some ⟨B, 0, none⟩) 2 2, .slice none 0 0]] (by simp) (by simp [litYM]) (by simp [litYM]) [] [] rfl rfl, by simp [litYM], i0F, by simp [litYM], ?_⟩
  intro f hf
  simp only [litYM, List.mem_singleton] at hf
  subst hf
  refine ⟨rows_ofF (cs := [.int .i64 64, .int .i64 0, .int .i64 0, .int .i64 0, .int .i64 0, .int .i64 45, .int .i64 0, .int .i64 0, .int .i64 0, .int .i64 0]) h2 [[.int .i64 64, .int .i64 0, .int .i64 0, .int .i64 0, .int .i64 0], [.int .i64 45, .int .i64 0, .int .i64 0, .int .i64 0, .int .i64 0]] (by simp) (by simp [litYF]) (by simp [litYF]) [] [] rfl rfl, rows_nilF w 2, ?_, by simp [litYF], i0F, i0F⟩
  intro x hx
  simp only [litYF, List.mem_cons, List.not_mem_nil, or_false] at hx
  rcases hx with rfl | rfl <;> (unfold Ins.wf I64; decide)
theorem litY_flow : FlowF litY := flow_of (P := litYP) (by rw [chk_litY]) litY (by simp [litYP])
theorem litY_nxt : lst (bAll litY (onePl 0) 2) 64 = [1] := by decide +kernel
theorem litY_least : Least litY alw (onePl 0) (fun k => decide (k < 2)) := by
  refine ⟨fun k h => ?_, fun pc hp _ _ x hx => ?_, fun R h1 h2 k hk => ?_⟩
  · have : k = 0 := by simpa [onePl] using h
    subst this; rfl
  · have hp2 : pc < 2 := hp
    match pc, hp2, hx with
    | 0, _, hx =>
      have : x = 1 := by simpa [nxt, nxtI, litY, insAt] using hx
      subst this; rfl
    | 1, _, hx => simp [nxt, nxtI, litY, insAt] at hx
  · have r0 : R 0 = true := h1 0 (by simp [onePl])
    have r1 : R 1 = true := h2 0 (by decide) r0 rfl 1 (by decide)
    have hk2 : k < 2 := by simpa using hk
    match k, hk2 with
    | 0, _ => exact r0
    | 1, _ => exact r1
theorem litY_reach {R : Nat → Bool} (h : Least litY alw (onePl 0) R) : lst R 64 = [0, 1] := by
  rw [h.same litY_least]
  decide +kernel
theorem litY_e0 : ¬ noneP (endsF litY 1 0) := fun h => by
  have := h 1 (by omega)
  have h2 : endsF litY 1 0 1 = true := by decide +kernel
  rw [h2] at this
  cases this
theorem litY_e1 : noneP (endsF litY 1 1) := fun k hk => by
  have h : ∀ k : Fin 64, endsF litY 1 1 k.val = false := by decide +kernel
  exact h ⟨k, hk⟩
theorem litY_long {r : Int} (h : LngR litY 1 r) : r = 1 := by
  rcases h with ⟨n, h1, h2, h3, h4⟩ | ⟨h1, _⟩
  · have n0 : n ≠ 0 := fun e => by subst e; exact litY_e0 h2
    have n1 : n ≤ 1 := Nat.le_of_not_lt fun e => h3 1 e litY_e1
    have : n = 1 := by omega
    subst this
    exact h4
  · exact absurd litY_e1 (h1 1 (by decide))
theorem litY_fit (pc : Int) : fitP litYP 0 pc = if 0 ≤ pc ∧ pc < 2 then 0 else 1 := by
  have h0 : fitF litYP 0 = 0 := by rw [fitF, if_pos (by rw [chk_litY])]; rfl
  rw [fitP, if_pos h0]
  rfl
theorem rows_litF (w : World) (l : List Int) (o : Obj) (ho : o = .cells (l.map fun x => Value.int .i64 x).toArray 3) (hl : l.length ≤ 9) : Rows (w.alloc o) 1 (some ⟨w.heap.size, 0, none⟩) l.length (l.map chCells) := by
  subst ho
  refine rows_ofF (cs := l.map fun x => Value.int .i64 x) (heap_alloc_new w _) (l.map chCells) (by intro r hr; simp only [List.mem_map] at hr; obtain ⟨x, _, rfl⟩ := hr; rfl) (by simp) (by omega) [] [] ?_ rfl
  clear hl
  induction l with
  | nil => rfl
  | cons a l ih => rw [List.map_cons, List.map_cons, List.flatten_cons, ih]; simp [chCells]
set_option maxHeartbeats 4000000 in
theorem speaksF_any (w : World) (hF : prog.Forms w) : Calls Tryd.prog 9 #[] w fun e w' => e = .returned (.bool true) ∧ Below w.heap.size w w' := by
  obtain ⟨h1, h2, h3⟩ := three_new w (.cells #[.int .i64 64, .int .i64 0, .int .i64 0, .int .i64 0, .int .i64 0, .int .i64 45, .int .i64 0, .int .i64 0, .int .i64 0, .int .i64 0] 70) (.cells #[.int .i64 0, .int .i64 0, .slice (some ⟨w.heap.size, 0, none⟩) 2 2, .slice none 0 0] 62) (.cells #[.slice none 0 0, .int .i64 0, .slice none 0 0, .slice (some ⟨w.heap.size + 1, 0, none⟩) 1 1] 26)
  have hb := boxed3 w (.cells #[.int .i64 64, .int .i64 0, .int .i64 0, .int .i64 0, .int .i64 0, .int .i64 45, .int .i64 0, .int .i64 0, .int .i64 0, .int .i64 0] 70) (.cells #[.int .i64 0, .int .i64 0, .slice (some ⟨w.heap.size, 0, none⟩) 2 2, .slice none 0 0] 62) (.cells #[.slice none 0 0, .int .i64 0, .slice none 0 0, .slice (some ⟨w.heap.size + 1, 0, none⟩) 1 1] 26)
  have hlies := litY_lies h1 h2
  have hFH : Hid (prog.Forms w) := hF
  clear h1 h2 hF
  go_enter Tryd.func9, Tryd.ntmps9
  go_upto_region 2 with fail
  generalize ((w.alloc (.cells #[.int .i64 64, .int .i64 0, .int .i64 0, .int .i64 0, .int .i64 0, .int .i64 45, .int .i64 0, .int .i64 0, .int .i64 0, .int .i64 0] 70)).alloc (.cells #[.int .i64 0, .int .i64 0, .slice (some ⟨w.heap.size, 0, none⟩) 2 2, .slice none 0 0] 62)).alloc (.cells #[.slice none 0 0, .int .i64 0, .slice none 0 0, .slice (some ⟨w.heap.size + 1, 0, none⟩) 1 1] 26) = W at *
  have hbP : Hid (BoxP W (w.heap.size + 1 + 1) (litYM w.heap.size)) := ⟨cell_ofF h3 rfl, cell_ofF h3 rfl, cell_ofF h3 rfl, cell_ofF h3 rfl⟩
  have hlH : Hid ((litYM w.heap.size).lies W) := hlies
  have hbH : Hid (Below w.heap.size w W) := hb
  have cN : ∀ V, Below W.heap.size W V → Calls Tryd.prog 23 #[(litYM w.heap.size).val, .int .i64 0, .int .i64 0] V fun e w' => ∃ va vc, e = .returned (.tuple #[.slice va 1 vc, .int .i64 0]) ∧ Rows w' 1 va vc ([1].map chCells) ∧ Below V.heap.size V w' := fun V hV => by
    have := fnext_ok (litYM w.heap.size) 0 0 V (hlH.out.later hV) (hFH.out.later (bthen hbH.out hV)) (litYF w.heap.size) rfl litY_flow (by omega) (show 0 < 2 by omega) (by rw [litYM_pr, litY_fit]; rfl)
    refine this.mono ?_
    rintro e w' ⟨va, vc, rfl, hr, hb'⟩
    have e1 : lst (bAll (litYF w.heap.size).fn (onePl 0) (litYF w.heap.size).code.length) 64 = [1] := litY_nxt
    rw [e1] at hr ⊢
    exact ⟨va, vc, rfl, hr, hb'⟩
  have cR : ∀ V, Below W.heap.size W V → Calls Tryd.prog 29 #[(litYM w.heap.size).val, .int .i64 0, .int .i64 0] V fun e w' => ∃ va vc, e = .returned (.tuple #[.slice va 2 vc, .int .i64 0]) ∧ Rows w' 1 va vc ([0, 1].map chCells) ∧ Below V.heap.size V w' := fun V hV => by
    have := freach_ok (litYM w.heap.size) 0 0 V (hlH.out.later hV) (hFH.out.later (bthen hbH.out hV)) (litYF w.heap.size) rfl litY_flow (by omega) (show 0 < 2 by omega) (by rw [litYM_pr, litY_fit]; rfl)
    refine this.mono ?_
    rintro e w' ⟨R, va, vc, rfl, hR, hr, hb'⟩
    have e1 : lst R 64 = [0, 1] := litY_reach hR
    rw [e1] at hr ⊢
    exact ⟨va, vc, rfl, hr, hb'⟩
  have cL : ∀ V, Below W.heap.size W V → Calls Tryd.prog 30 #[(litYM w.heap.size).val, .int .i64 0, .int .i64 1] V fun e w' => e = .returned (.tuple #[.int .i64 1, .int .i64 0]) ∧ Below V.heap.size V w' := fun V hV => by
    have := flong_ok (litYM w.heap.size) 0 1 V (hlH.out.later hV) (hFH.out.later (bthen hbH.out hV)) (litYF w.heap.size) rfl litY_flow (by omega) (show 1 < 2 by omega) (by rw [litYM_pr, litY_fit]; rfl)
    refine this.mono ?_
    rintro e w' ⟨r, rfl, hr, hb'⟩
    rw [litY_long hr]
    exact ⟨rfl, hb'⟩
  have cE : ∀ V, Below W.heap.size W V → Calls Tryd.prog 23 #[(litYM w.heap.size).val, .int .i64 0, .int .i64 2] V fun e w' => e = .returned (.tuple #[.slice none 0 0, .int .i64 1]) ∧ Below V.heap.size V w' := fun V hV => fnext_err (litYM w.heap.size) 0 2 V (hlH.out.later hV) (hFH.out.later (bthen hbH.out hV)) 1 (by show _ = _; rw [litYM_pr, litY_fit]; rfl) (by omega)
  generalize w.heap.size + 1 + 1 = PB at *
  obtain ⟨p0, p1, p2, p3⟩ := hbP.out
  have xN := cN W (Below.refl _ _)
  clear h3 hlies hb cN
  go_upto_region 3 with (go_at_call 23; (refine xN.mono ?_); rintro e w2 ⟨va, vc, rfl, hr2, hb2⟩)
  clear p0 p1 p2 p3 xN
  have hN2 : Hid (Rows w2 1 va vc ([1].map chCells)) := hr2
  have hW2 : Hid (Below W.heap.size W w2) := hb2
  have xR := cR w2 hb2
  obtain ⟨p0, p1, p2, p3⟩ := hbP.out.later hb2
  clear hr2 hb2 cR
  go_upto_region 4 with (go_at_call 29; (refine xR.mono ?_); rintro e w3 ⟨ua, uc, rfl, hr3, hb3⟩)
  clear p0 p1 p2 p3 xR
  have hW3 : Hid (Below W.heap.size W w3) := bthen hW2.out hb3
  have hN3 : Hid (Rows w3 1 va vc ([1].map chCells)) := hN2.out.later hb3
  have hR3 : Hid (Rows w3 1 ua uc ([0, 1].map chCells)) := hr3
  have xL := cL w3 hW3.out
  obtain ⟨p0, p1, p2, p3⟩ := hbP.out.later hW3.out
  clear hr3 hb3 cL hN2 hW2
  go_upto_region 5 with (go_at_call 30; (refine xL.mono ?_); rintro e w4 ⟨rfl, hb4⟩)
  clear p0 p1 p2 p3 xL
  have hW4 : Hid (Below W.heap.size W w4) := bthen hW3.out hb4
  have hN4 : Hid (Rows w4 1 va vc ([1].map chCells)) := hN3.out.later hb4
  have hR4 : Hid (Rows w4 1 ua uc ([0, 1].map chCells)) := hR3.out.later hb4
  have xE := cE w4 hW4.out
  obtain ⟨p0, p1, p2, p3⟩ := hbP.out.later hW4.out
  clear hb4 cE hN3 hW3 hR3
  go_upto_region 6 with (go_at_call 23; (refine xE.mono ?_); rintro e w5 ⟨rfl, hb5⟩)
  clear p0 p1 p2 p3 xE
  have hW5 : Hid (Below W.heap.size W w5) := bthen hW4.out hb5
  have hN5 : Hid (Rows w5 1 va vc ([1].map chCells)) := hN4.out.later hb5
  have hR5 : Hid (Rows w5 1 ua uc ([0, 1].map chCells)) := hR4.out.later hb5
  have hb6 := boxed w5 (.cells #[.int .i64 1] 3)
  have xS := sameInts_f [1] va (some ⟨w5.heap.size, 0, none⟩) vc 1 _ (hN5.out.later hb6) (rows_litF w5 [1] _ rfl (by decide))
  have cT : ∀ V, Below w5.heap.size w5 V → Calls Tryd.prog 19 #[.slice ua 2 uc, .slice (some ⟨V.heap.size, 0, none⟩) 2 2] (V.alloc (.cells #[.int .i64 0, .int .i64 1] 3)) fun e w' => e = .returned (.bool true) ∧ Below (V.alloc (.cells #[.int .i64 0, .int .i64 1] 3)).heap.size (V.alloc (.cells #[.int .i64 0, .int .i64 1] 3)) w' := fun V hV => sameInts_f [0, 1] ua (some ⟨V.heap.size, 0, none⟩) uc 2 _ ((hR5.out.later hV).later (boxed _ _)) (rows_litF V [0, 1] _ rfl (by decide))
  have hb6H : Hid (Below w5.heap.size w5 (w5.alloc (.cells #[.int .i64 1] 3))) := hb6
  clear hb5 hN4 hW4 hR4 hb6
  go_wp2_with (first
    | (go_at_call 19; (refine xS.mono ?_); clear xS; rintro e w6 ⟨rfl, hb6⟩; (have xT := cT w6 (bthen hb6H.out hb6)); (have hW6 : Hid (Below W.heap.size W w6) := bthen hW5.out (bthen hb6H.out hb6)); clear hb6)
    | (go_at_call 19; (refine xT.mono ?_); rintro e w7 ⟨rfl, hb7⟩))
  go_ret
  exact ⟨rfl, bthen (bthen (bthen hbH.out hW6.out) (boxed _ _)) hb7⟩
end Go.Proofs.YtlcljdldhajkiaaDoor.pg
/- FlowGrows, walked. -/
namespace Go.Proofs.YtlcljdldhajkiaaDoor.pg
open Go.ChangeShapes Go.WideShapes Go.ChangeAt Go.RowKit Go.Shelf
set_option linter.unusedVariables false
set_option linter.unusedSimpArgs false
set_option maxRecDepth 100000
theorem least_lt {f : Fn} (hf : FlowF f) {pc : Nat} (hp : pc < f.code.length) {R : Nat → Bool} (h : Least f alw (onePl pc) R) : ∀ k, R k = true → k < f.code.length := fun k hk => by
  have := h.le (fun k => decide (k < f.code.length)) (fun k q => by
    have : k = pc := by simpa [onePl] using q
    subst this; simpa using hp) (fun p hp' _ _ x hx => by
    have := hf.n p hp' x hx
    simp only [decide_eq_true_eq]
    omega) k hk
  simpa using this
theorem least_own {f : Fn} {pc : Nat} {R : Nat → Bool} (h : Least f alw (onePl pc) R) : R pc = true := h.up pc (by simp [onePl])
theorem least_in {f : Fn} {pc k : Nat} {R R2 : Nat → Bool} (h : Least f alw (onePl pc) R) (h2 : Least f alw (onePl k) R2) (hk : R k = true) : ∀ m, R2 m = true → R m = true := h2.le R (fun j q => by
  have : j = k := by simpa [onePl] using q
  subst this; exact hk) h.cl
theorem next_in {f : Fn} {k : Nat} {x : Int} (h : x ∈ lst (bAll f (onePl k) f.code.length) 64) : x ∈ nxt f k := by
  obtain ⟨j, hj, h1, rfl⟩ := (lst_mem _ _ _).mp h
  obtain ⟨pc, h2, h3, h4⟩ := (bAll_iff _ _ _ _).mp h1
  have : pc = k := by simpa [onePl] using h3
  subst this
  exact h4
theorem lst_put {R : Nat → Bool} {x : Int} (h0 : 0 ≤ x) (h1 : x < 64) (h : R x.toNat = true) : x ∈ lst R 64 := (lst_mem _ _ _).mpr ⟨x.toNat, by omega, h, by omega⟩
structure GS (w wr : World) (M : MPr) (L : List Int) (la : Option Addr) (lc : Nat) : Prop where
  b : Below w.heap.size w wr
  p : BoxP wr w.heap.size M
  r : Rows wr 1 la lc (L.map chCells)
theorem GS.later {w wr w' : World} {M : MPr} {L : List Int} {la : Option Addr} {lc : Nat} (h : GS w wr M L la lc) (hb : Below wr.heap.size wr w') : GS w w' M L la lc := ⟨bthen h.b hb, h.p.later hb, h.r.later hb⟩
end Go.Proofs.YtlcljdldhajkiaaDoor.pg
