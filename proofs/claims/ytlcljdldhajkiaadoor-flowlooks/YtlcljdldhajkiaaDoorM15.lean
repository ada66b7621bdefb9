/- What an instruction may touch, and what may come: package flow's Touches and May. -/
import Derived.Test.YtlcljdldhajkiaaDoorM14
import Derived.Deep.DeepCutAuto
namespace Go.Proofs.YtlcljdldhajkiaaDoor.pg
open Go.ChangeShapes Go.WideShapes Go.ChangeAt Go.RowKit Go.Shelf
set_option linter.unusedVariables false
set_option linter.unusedSimpArgs false
set_option maxRecDepth 100000
attribute [local go_sem ↓] Go.wp_at_zero Go.wp_at_succ
def zO : Nat → Int := fun _ => 0
theorem zeroOb : ∀ w, (zeroValue 57).run Tryd.prog w = .ok (.agg (intRow 56 zO)) w := fun w => by kernel_rfl
/-- All touches of the functions before one. -/
structure MaI (fns : List Fn) (R : Nat → Nat → Bool) (O : Nat → Int) (g : Nat) : Prop where
  up : ∀ a F, a < g → fns[a]? = some F → ∀ pc, pc < F.code.length → R a pc = true → ∀ x ∈ tchI F (insAt F.code pc), x.2 ≤ O x.1
  le : ∀ j, O j = 0 ∨ ∃ f F pc, fns[f]? = some F ∧ pc < F.code.length ∧ R f pc = true ∧ (j, O j) ∈ tchI F (insAt F.code pc)
structure MaJ (fns : List Fn) (R : Nat → Nat → Bool) (O : Nat → Int) (g : Nat) (F : Fn) (c : Nat) : Prop where
  q : MaI fns R O g
  up : ∀ pc, pc < c → R g pc = true → ∀ x ∈ tchI F (insAt F.code pc), x.2 ≤ O x.1
theorem MaJ.skip {fns : List Fn} {R : Nat → Nat → Bool} {O : Nat → Int} {g c : Nat} {F : Fn} (h : MaJ fns R O g F c) (hn : R g c = false) : MaJ fns R O g F (c + 1) :=
  ⟨h.q, fun pc hp hr => by
    by_cases e : pc = c
    · subst e; rw [hn] at hr; cases hr
    · exact h.up pc (by omega) hr⟩
theorem MaJ.put {fns : List Fn} {R : Nat → Nat → Bool} {O : Nat → Int} {g c : Nat} {F : Fn} (h : MaJ fns R O g F c) (hF : fns[g]? = some F) (hc : c < F.code.length) (hr : R g c = true) : MaJ fns R (mxL O (tchI F (insAt F.code c))) g F (c + 1) := by
  have hu := mxL_up (tchI F (insAt F.code c)) O
  refine ⟨⟨fun a F' ha hF' pc hp hr x hx => Int.le_trans (h.q.up a F' ha hF' pc hp hr x hx) (hu _), fun j => ?_⟩, fun pc hp hr x hx => ?_⟩
  · rcases mxL_one (tchI F (insAt F.code c)) O j with e | e
    · rw [e]; exact h.q.le j
    · exact .inr ⟨g, F, c, hF, hc, hr, e⟩
  · by_cases e : pc = c
    · subst e; exact mxL_own _ _ x hx
    · exact Int.le_trans (h.up pc (by omega) hr x hx) (hu _)
theorem MaJ.done {fns : List Fn} {R : Nat → Nat → Bool} {O : Nat → Int} {g : Nat} {F : Fn} (h : MaJ fns R O g F F.code.length) (hF : fns[g]? = some F) : MaI fns R O (g + 1) :=
  ⟨fun a F' ha hF' pc hp hr => by
    by_cases e : a = g
    · subst e
      have : F' = F := by rw [hF] at hF'; exact (Option.some.inj hF').symm
      subst this
      exact h.up pc hp hr
    · exact h.q.up a F' (by omega) hF' pc hp hr, h.q.le⟩
theorem MaI.fin {fns : List Fn} {R : Nat → Nat → Bool} {O : Nat → Int} (h : MaI fns R O fns.length) : MayO fns R O := ⟨fun f F pc hF hp hr => h.up f F (List.getElem?_eq_some_iff.mp hF).1 hF pc hp hr, h.le⟩
structure MaS (w W : World) (M : MPr) (R : Nat → Nat → Bool) (O : Nat → Int) (SB OB : Nat) : Prop where
  b : Below w.heap.size w W
  p : BoxP W w.heap.size M
  s : W.heap[SB]? = some (objQ R)
  o : W.heap[OB]? = some (objO O)
  l1 : w.heap.size < SB
  l2 : SB < OB
theorem MaS.later {w W W' : World} {M : MPr} {R : Nat → Nat → Bool} {O : Nat → Int} {SB OB : Nat} (h : MaS w W M R O SB OB) (hb : Below W.heap.size W W') : MaS w W' M R O SB OB := ⟨bthen h.b hb, h.p.later hb, blk_onQ h.s hb, blk_onQ h.o hb, h.l1, h.l2⟩
theorem MaS.put {w W W' : World} {M : MPr} {R : Nat → Nat → Bool} {O O' : Nat → Int} {SB OB : Nat} (h : MaS w W M R O SB OB) (hs : ObS OB W O' W') : MaS w W' M R O' SB OB := by
  have l1 := h.l1
  have l2 := h.l2
  have lo := (Array.getElem?_eq_some_iff.mp h.o).1
  have hk : ∀ b, b < OB → W'.heap[b]? = W.heap[b]? := fun b hb => hs.f.k b (by omega) (by omega)
  have hp := hk w.heap.size (by omega)
  exact ⟨h.b.trans (hs.f.b _ (by omega) (by omega)), ⟨cell_keepQ h.p.1 hp, cell_keepQ h.p.2.1 hp, cell_keepQ h.p.2.2.1 hp, cell_keepQ h.p.2.2.2 hp⟩, (hk SB l2).trans h.s, hs.o, l1, l2⟩
structure MaG (w W : World) (M : MPr) (R : Nat → Nat → Bool) (O : Nat → Int) (SB OB : Nat) (F : MFn) (FB : Nat) : Prop where
  m : MaS w W M R O SB OB
  h : W.heap[FB]? = some (objFn F)
  l : OB < FB
theorem MaG.put {w W W' : World} {M : MPr} {R : Nat → Nat → Bool} {O O' : Nat → Int} {SB OB FB : Nat} {F : MFn} (h : MaG w W M R O SB OB F FB) (hs : ObS OB W O' W') : MaG w W' M R O' SB OB F FB :=
  ⟨h.m.put hs, (hs.f.k FB (Array.getElem?_eq_some_iff.mp h.h).1 (by have := h.l; omega)).trans h.h, h.l⟩
set_option maxHeartbeats 4000000 in
theorem touches_ok (M : MPr) (f pc : Nat) (w : World) (hM : M.lies w) (hPF : prog.Forms w) (F : MFn) (hFi : M.fns[f]? = some F) (hok : (chk insP M.pr).1 = 0) (hpc : pc < F.code.length) (hfit : fitP M.pr f pc = 0) :
    Calls Tryd.prog 6 #[M.val, .int .i64 (f : Int), .int .i64 (pc : Int)] w fun e w' => ∃ va vc, e = .returned (.tuple #[.slice va (lstO (mxL zO (tchI F.fn (insAt F.code pc))) 56).length vc, .int .i64 0]) ∧ OwnL w' w.heap.size 53 3 va vc ((lstO (mxL zO (tchI F.fn (insAt F.code pc))) 56).map AcQ.cells) ∧ Below w.heap.size w w' := by
  have hzO : Hid (∀ w, (zeroValue 57).run Tryd.prog w = .ok (.agg (intRow 56 zO)) w) := zeroOb
  have hb := boxed w (objP M)
  have bP := boxP_new w M
  have bPH : Hid (BoxP (w.alloc (objP M)) w.heap.size M) := bP
  have hbH : Hid (Below w.heap.size w (w.alloc (objP M))) := hb
  have hMH : Hid (M.lies w) := hM
  have hFm := List.mem_of_getElem? hFi
  have huF : Hid (Tryd.prog.underlying 62 = _) := Tryd.underlying62
  have hi : F.code[pc]? = some (insAt F.code pc) := by (have := (insAt_mem (code := F.code) (pc := (pc : Int)) (by omega) (by omega)).1; rw [Int.toNat_natCast] at this; exact this)
  have hR : TchR F.fn (insAt F.code pc) := tchR_of hok (List.mem_map.mpr ⟨F, hFm, rfl⟩) (List.mem_of_getElem? hi)
  have hRH : Hid (TchR F.fn (insAt F.code pc) ∧ F.code[pc]? = some (insAt F.code pc) ∧ F.lies w) := ⟨hR, hi, hM.2.2.2.2.2.2 F hFm⟩
  have xC := fcheckPlace_any M f pc _ (hM.later hb) (hPF.later hb) 0 hfit.symm
  clear hM hPF hb hR hi hfit
  go_enter Tryd.func6, Tryd.ntmps6
  go_upto_region 5 with (first
    | (go_at_call 25; (with_reducible refine xC.mono ?_); rintro e w2 ⟨rfl, hb2⟩; (have hb2H : Hid (Below w.heap.size w w2 ∧ BoxP w2 w.heap.size M) := ⟨bthen hbH.out hb2, bPH.out.later hb2⟩); clear bP hb2 xC)
    | ((with_reducible refine at_allocQ 57 rfl ?_); refine stopQ_out ?_; refine wpList_alloc_big rfl 57 rfl hzO.out ?_))
  try simp only [Act.put, List.getElem_toArray, List.getElem_cons_succ, List.getElem_cons_zero, List.setIfInBounds_toArray, List.set_cons_zero, List.set_cons_succ]
  have hY : Hid (Below w.heap.size w (w2.alloc (objO zO)) ∧ BoxP (w2.alloc (objO zO)) w.heap.size M ∧ (w2.alloc (objO zO)).heap[w2.heap.size]? = some (objO zO) ∧ w.heap.size ≤ w2.heap.size) := ⟨bthen hb2H.out.1 (boxed _ _), hb2H.out.2.later (boxed _ _), heap_alloc_new _ _, hb2H.out.1.size⟩
  clear hb2H
  generalize w2.alloc (objO zO) = Y at *
  generalize w2.heap.size = OB at *
  have c3 := hY.out.2.1.2.2.2
  obtain ⟨fb, fo, fx, fl, f0, f1, f2, f3⟩ := fn_ix (hMH.out.later hY.out.1).2.2.1 f F hFi
  have hrg : Hid (Y.rangeAt fb fo [.int .i64 F.params, .int .i64 F.regs, .slice F.ca F.code.length F.ccap, .slice F.sa F.sels.length F.scap]) := fun j v hj => by
    match j, hj with
    | 0, hj => cases hj; exact f0
    | 1, hj => cases hj; exact f1
    | 2, hj => cases hj; exact f2
    | 3, hj => cases hj; exact f3
  have xI := instr_any OB zO F pc w Y hRH.out.2.2 hY.out.1 hY.out.2.2.2 hY.out.2.2.1 _ hRH.out.2.1 hRH.out.1
  clear f0 f1 f2 f3 fl
  go_wp2_with (first
    | ((with_reducible refine at_loadQ 62 _ rfl ?_); refine stopQ_out ?_; refine wpList_load_mid rfl 62 _ rfl fb fo rfl [.int .i64 F.params, .int .i64 F.regs, .slice F.ca F.code.length F.ccap, .slice F.sa F.sels.length F.scap] _ hrg.out huF.out rfl (by kernel_rfl) ?_)
    | (go_at_call 26; (with_reducible refine xI.mono ?_); rintro e w3 ⟨rfl, hS⟩; (have hSH : Hid (ObS OB Y (mxL zO (tchI F.fn (insAt F.code pc))) w3) := hS); clear xI hS; (have xL := listO_any OB _ w3 hSH.out.o))
    | (go_at_call 27; (with_reducible refine xL.mono ?_); rintro e w4 ⟨va, vc, rfl, hL⟩; (have hLH : Hid (AcS w3 (lstO (mxL zO (tchI F.fn (insAt F.code pc))) 56) va vc w4) := hL); clear xL hL))
  have hB3 : Below w.heap.size w w3 := hY.out.1.trans (hSH.out.f.b w.heap.size hY.out.2.2.2 (by have := hY.out.1.size; omega))
  have hB4 : Below w.heap.size w w4 := bthen hB3 hLH.out.be
  go_ret2
  exact ⟨va, vc, rfl, own_mono_q hLH.out.ow hB3.size, hB4⟩
set_option maxHeartbeats 1000000 in
theorem touches_err (M : MPr) (f pc : Int) (w : World) (hM : M.lies w) (hF : prog.Forms w) (e : Int) (he : Hid (e = fitP M.pr f pc)) (hne : e ≠ 0) :
    Calls Tryd.prog 6 #[M.val, .int .i64 f, .int .i64 pc] w fun e' w' => e' = .returned (.tuple #[.slice none 0 0, .int .i64 e]) ∧ Below w.heap.size w w' := by
  have hb := boxed w (objP M)
  have bP := boxP_new w M
  have hcall := fcheckPlace_any M f pc _ (hM.later hb) (hF.later hb) e he
  have hbH : Hid (Below w.heap.size w (w.alloc (objP M))) := hb
  have d : (e != 0) = true := by simpa using hne
  clear hM hF he hb hne
  go_enter Tryd.func6, Tryd.ntmps6
  go_wp2_with (go_at_call 25; (with_reducible refine hcall.mono ?_); rintro e w2 ⟨rfl, hb2⟩)
  go_ret2
  exact ⟨rfl, bthen hbH.out hb2⟩
set_option maxHeartbeats 1000000 in
theorem may_err (M : MPr) (f pc : Int) (w : World) (hM : M.lies w) (hF : prog.Forms w) (e : Int) (he : Hid (e = fitP M.pr f pc)) (hne : e ≠ 0) :
    Calls Tryd.prog 7 #[M.val, .int .i64 f, .int .i64 pc] w fun e' w' => e' = .returned (.tuple #[.slice none 0 0, .int .i64 e]) ∧ Below w.heap.size w w' := by
  have hb := boxed w (objP M)
  have bP := boxP_new w M
  have hcall := fcheckPlace_any M f pc _ (hM.later hb) (hF.later hb) e he
  have hbH : Hid (Below w.heap.size w (w.alloc (objP M))) := hb
  have d : (e != 0) = true := by simpa using hne
  clear hM hF he hb hne
  go_enter Tryd.func7, Tryd.ntmps7
  go_wp2_with (go_at_call 25; (with_reducible refine hcall.mono ?_); rintro e w2 ⟨rfl, hb2⟩)
  go_ret2
  exact ⟨rfl, bthen hbH.out hb2⟩
set_option maxHeartbeats 8000000 in
theorem may_ok (M : MPr) (f pc : Nat) (w : World) (hM : M.lies w) (hPF : prog.Forms w) (F : MFn) (hFi : M.fns[f]? = some F) (hok : (chk insP M.pr).1 = 0) (hpc : pc < F.code.length) (hfit : fitP M.pr f pc = 0) :
    Calls Tryd.prog 7 #[M.val, .int .i64 (f : Int), .int .i64 (pc : Int)] w fun e w' => ∃ R O va vc, e = .returned (.tuple #[.slice va (lstO O 56).length vc, .int .i64 0]) ∧ LeastP M.pr.fns f pc R ∧ MayO M.pr.fns R O ∧ OwnL w' w.heap.size 53 3 va vc ((lstO O 56).map AcQ.cells) ∧ Below w.heap.size w w' := by
  have hzO : Hid (∀ w, (zeroValue 57).run Tryd.prog w = .ok (.agg (intRow 56 zO)) w) := zeroOb
  have hzS : Hid (∀ w, (zeroValue 66).run Tryd.prog w = .ok (.agg (rowS emS)) w) := zeroSp
  have hb := boxed w (objP M)
  have bP := boxP_new w M
  have bPH : Hid (BoxP (w.alloc (objP M)) w.heap.size M) := bP
  have hbH : Hid (Below w.heap.size w (w.alloc (objP M))) := hb
  have hMH : Hid (M.lies w) := hM
  have huF : Hid (Tryd.prog.underlying 62 = _) := Tryd.underlying62
  have hokH : Hid ((chk insP M.pr).1 = 0) := hok
  have h8 : M.fns.length ≤ 8 := by (have := (sizes_ok (sizes_of hok)).2.2.2.2; have e : M.pr.fns.length = M.fns.length := List.length_map _; omega)
  have hf8 : f < 8 := by (have := (List.getElem?_eq_some_iff.mp hFi).1; omega)
  have hm : ∀ F ∈ M.fns, F.fn ∈ M.pr.fns := fun F h => List.mem_map.mpr ⟨F, h, rfl⟩
  have hfl : Hid (∀ F ∈ M.fns, FlowF F.fn) := fun F h => flow_of hok F.fn (hm F h)
  have hp64 : pc < 64 := by (have := (hfl.out F (List.mem_of_getElem? hFi)).l64; have h : F.fn.code.length = F.code.length := rfl; omega)
  have hch : Hid (∀ F ∈ M.fns, ∀ i ∈ F.code, TchR F.fn i) := fun F h i hi => tchR_of hok (hm F h) hi
  have xC := fcheckPlace_any M f pc _ (hM.later hb) (hPF.later hb) 0 hfit.symm
  have cS : ∀ V, Below w.heap.size w V → Calls Tryd.prog 28 #[M.val, .int .i64 (f : Int), .int .i64 (pc : Int)] V _ := fun V hV => spread_any M f pc V (hMH.out.later hV) h8 (fun F h => ⟨hfl.out F h, fun i hi => (hch.out F h i hi).p⟩) hf8 hp64
  clear hM hPF hb hfit hm hok
  go_enter Tryd.func7, Tryd.ntmps7
  go_upto_region 6 with (first
    | (go_at_call 25; (with_reducible refine xC.mono ?_); rintro e w2 ⟨rfl, hb2⟩; (have hb2H : Hid (Below w.heap.size w w2 ∧ BoxP w2 w.heap.size M) := ⟨bthen hbH.out hb2, bPH.out.later hb2⟩); clear bP hb2 xC; (have xS := cS w2 hb2H.out.1); (have bP := hb2H.out.2); obtain ⟨p0, p1, p2, p3⟩ := bP)
    | (go_at_call 28; (with_reducible refine xS.mono ?_); rintro e w3 ⟨R, rfl, hR, hb3⟩; (have hR3 : Hid (LeastP M.pr.fns f pc R ∧ Below w.heap.size w w3 ∧ BoxP w3 w.heap.size M) := ⟨hR, bthen hb2H.out.1 hb3, hb2H.out.2.later hb3⟩); clear p0 p1 p2 p3 hb3 hR xS cS)
    | ((with_reducible refine at_allocQ 66 rfl ?_); refine stopQ_out ?_; refine wpList_alloc_big rfl 66 rfl hzS.out ?_)
    | ((with_reducible refine at_storeQ 66 _ _ rfl ?_); refine stopQ_out ?_; refine wpList_store_new rfl 66 _ _ rfl rfl _ (rowS R) rfl (infoSp _) (by rw [rowS_size, rowS_size]) (rowS_one _) ?_)
    | ((with_reducible refine at_allocQ 57 rfl ?_); refine stopQ_out ?_; refine wpList_alloc_big rfl 57 rfl hzO.out ?_))
  try simp only [Act.put, List.getElem_toArray, List.getElem_cons_succ, List.getElem_cons_zero, List.setIfInBounds_toArray, List.set_cons_zero, List.set_cons_succ]
  try simp only [World.size_alloc]
  have hY : Hid (MaS w ((w3.alloc (objQ R)).alloc (objO zO)) M R zO w3.heap.size (w3.heap.size + 1)) := by
    obtain ⟨n1, n2⟩ := two_new w3 (objQ R) (objO zO)
    have hB := boxed2 w3 (objQ R) (objO zO)
    exact ⟨bthen hR3.out.2.1 hB, hR3.out.2.2.later hB, n1, n2, hR3.out.2.2.lt, by omega⟩
  have hRl : Hid (LeastP M.pr.fns f pc R) := hR3.out.1
  clear hb2H hR3
  generalize (w3.alloc (objQ R)).alloc (objO zO) = Y at *
  obtain ⟨OB, hOB⟩ : ∃ OB, w3.heap.size + 1 = OB := ⟨_, rfl⟩
  rw [hOB] at hY
  rw [hOB]
  clear hOB
  generalize w3.heap.size = SB at *
  have c3 := hY.out.p.2.2.2
  go_wp2_with fail
  clear c3
  go_loopw [28] (fun u wr => ∃ g : Nat, g ≤ M.fns.length ∧ u = .int .i64 (g : Int) ∧ Hid (∃ O, MaS w wr M R O SB OB ∧ MaI M.pr.fns R O g)) (fun u _ => M.fns.length - (intOf u).toNat)
  case atStart => exact ⟨0, Nat.zero_le _, rfl, zO, hY.out, ⟨fun a F h => absurd h (Nat.not_lt_zero _), fun j => .inl rfl⟩⟩
  case round =>
    obtain ⟨g, hg, rfl, hO0⟩ := hrel
    obtain ⟨O, hO1, hI1⟩ := hO0.out
    have hO : Hid (MaS w wr M R O SB OB) := hO1
    have hI : Hid (MaI M.pr.fns R O g) := hI1
    clear hY hO0 hO1 hI1
    by_cases hlt : g < M.fns.length
    · have hgI : (g : Int) < M.fns.length := by omega
      have hg8 : g < 8 := by omega
      obtain ⟨F, hFi⟩ : ∃ F, M.fns[g]? = some F := ⟨_, List.getElem?_eq_getElem hlt⟩
      have hFm := List.mem_of_getElem? hFi
      have hFn : M.pr.fns[g]? = some F.fn := by (show (M.fns.map MFn.fn)[g]? = _; rw [List.getElem?_map, hFi]; rfl)
      have hl64 : (F.code.length : Int) ≤ 64 := by (have := (hfl.out F hFm).l64; have h : F.fn.code.length = F.code.length := rfl; omega)
      obtain ⟨fb, fo, fx, fl, f0, f1, f2, f3⟩ := fn_ix (hMH.out.later hO.out.b).2.2.1 g F hFi
      have hrg : Hid (wr.rangeAt fb fo [.int .i64 F.params, .int .i64 F.regs, .slice F.ca F.code.length F.ccap, .slice F.sa F.sels.length F.scap]) := fun j v hj => by
        match j, hj with
        | 0, hj => cases hj; exact f0
        | 1, hj => cases hj; exact f1
        | 2, hj => cases hj; exact f2
        | 3, hj => cases hj; exact f3
      have hG : Hid (MaG w (wr.alloc (objFn F)) M R O SB OB F wr.heap.size) := ⟨hO.out.later (boxed _ _), heap_alloc_new _ _, (Array.getElem?_eq_some_iff.mp hO.out.o).1⟩
      have k2 : (wr.alloc (objFn F)).cell? ⟨wr.heap.size, 2, none⟩ = some (.slice F.ca F.code.length F.ccap) := cell_lcQ hG.out.h rfl
      clear hO f0 f1 f2 f3 fl
      go_wp2_with (first
        | ((with_reducible refine at_loadQ 62 _ rfl ?_); refine stopQ_out ?_; refine wpList_load_mid rfl 62 _ rfl fb fo rfl [.int .i64 F.params, .int .i64 F.regs, .slice F.ca F.code.length F.ccap, .slice F.sa F.sels.length F.scap] _ hrg.out huF.out rfl (by kernel_rfl) ?_)
        | ((with_reducible refine at_storeQ 62 _ _ rfl ?_); refine stopQ_out ?_; refine wpList_store_new rfl 62 _ _ rfl rfl _ #[.int .i64 F.params, .int .i64 F.regs, .slice F.ca F.code.length F.ccap, .slice F.sa F.sels.length F.scap] rfl (by kernel_rfl) rfl (by simp [Value.oneCell']) ?_))
      clear hrg fx k2
      generalize wr.alloc (objFn F) = Y1 at *
      generalize wr.heap.size = FB at *
      go_loopw [36] (fun u wr => ∃ c : Nat, c ≤ F.code.length ∧ u = .int .i64 (c : Int) ∧ Hid (∃ O', MaG w wr M R O' SB OB F FB ∧ MaJ M.pr.fns R O' g F.fn c)) (fun u _ => F.code.length - (intOf u).toNat)
      case atStart => exact ⟨0, Nat.zero_le _, rfl, O, hG.out, hI.out, fun k h => absurd h (Nat.not_lt_zero _)⟩
      case round =>
        obtain ⟨c, hc, rfl, hJ0⟩ := hrel
        obtain ⟨O', hJ1, hJ2⟩ := hJ0.out
        have hJ : Hid (MaG w wr M R O' SB OB F FB ∧ MaJ M.pr.fns R O' g F.fn c) := ⟨hJ1, hJ2⟩
        clear hG hJ0 hJ1 hJ2
        by_cases hlt : c < F.code.length
        · have hcI : (c : Int) < F.code.length := by omega
          have hc64 : c < 64 := by omega
          have hi : F.code[c]? = some (insAt F.code c) := by (have := (insAt_mem (code := F.code) (pc := (c : Int)) (by omega) (by omega)).1; rw [Int.toNat_natCast] at this; exact this)
          have xG := ixS SB g hg8
          have xP := ixP SB (g * 64) c hc64
          have cT : wr.cell? ⟨SB, g * 64 + c, none⟩ = some (.bool (R g c)) := cell_lcQ hJ.out.1.m.s (rowS_at hg8 hc64)
          obtain ⟨b, hb⟩ : ∃ b, R g c = b := ⟨_, rfl⟩
          rw [hb] at cT
          cases b with
          | false =>
            have hn : Hid (MaG w wr M R O' SB OB F FB ∧ MaJ M.pr.fns R O' g F.fn (c + 1)) := ⟨hJ.out.1, hJ.out.2.skip hb⟩
            clear hJ
            go_wp2
            go_roundw
            case rel => exact ⟨c + 1, by omega, by go_num, _, hn.out⟩
            case measure => simp [intOf]; omega
          | true =>
            have xI := instr_any OB O' F c w wr (hMH.out.2.2.2.2.2.2 F hFm) hJ.out.1.m.b (by have := hJ.out.1.m.l1; have := hJ.out.1.m.l2; omega) hJ.out.1.m.o _ hi (hch.out F hFm _ (List.mem_of_getElem? hi))
            have l0 := cell_lcQ hJ.out.1.h (k := 0) (v := .int .i64 F.params) rfl
            have l1 := cell_lcQ hJ.out.1.h (k := 1) (v := .int .i64 F.regs) rfl
            have l2 := cell_lcQ hJ.out.1.h (k := 2) (v := .slice F.ca F.code.length F.ccap) rfl
            have l3 := cell_lcQ hJ.out.1.h (k := 3) (v := .slice F.sa F.sels.length F.scap) rfl
            go_wp2_with (go_at_call 26; (with_reducible refine xI.mono ?_); rintro e w3 ⟨rfl, hS⟩; (have hn : Hid (MaG w w3 M R (mxL O' (tchI F.fn (insAt F.code c))) SB OB F FB ∧ MaJ M.pr.fns R (mxL O' (tchI F.fn (insAt F.code c))) g F.fn (c + 1)) := ⟨hJ.out.1.put hS, hJ.out.2.put hFn hlt hb⟩); clear xI hS hJ l0 l1 l2 l3)
            go_roundw
            case rel => exact ⟨c + 1, by omega, by go_num, _, hn.out⟩
            case measure => simp [intOf]; omega
        · have hce : c = F.code.length := by omega
          have hcI : ¬ (c : Int) < F.code.length := by omega
          have hE : Hid (MaS w wr M R O' SB OB ∧ MaI M.pr.fns R O' (g + 1)) := (by (rw [hce] at hJ; exact ⟨hJ.out.1.m, hJ.out.2.done hFn⟩))
          clear hJ
          go_wp2
          go_roundw
          case rel => exact ⟨g + 1, by omega, by go_num, _, hE.out⟩
          case measure => simp [intOf]; omega
    
    · have hge : g = M.fns.length := by omega
      have hgI : ¬ (g : Int) < M.fns.length := by omega
      have hI : Hid (MaI M.pr.fns R O M.pr.fns.length) := (by (rw [show M.pr.fns.length = M.fns.length from List.length_map _, ← hge]; exact hI.out))
      have xL := listO_any OB O wr hO.out.o
      go_wp2_with (first
        | (go_at_call 27; (with_reducible refine xL.mono ?_); rintro e w4 ⟨va, vc, rfl, hL⟩; (have hLH : Hid (AcS wr (lstO O 56) va vc w4) := hL); clear xL hL))
      have hB4 : Below w.heap.size w w4 := bthen hO.out.b hLH.out.be
      go_ret2
      exact ⟨R, O, va, vc, rfl, hRl.out, hI.out.fin, own_mono_q hLH.out.ow hO.out.b.size, hB4⟩
end Go.Proofs.YtlcljdldhajkiaaDoor.pg
/- The local ones of some places; how long it runs along. -/
namespace Go.Proofs.YtlcljdldhajkiaaDoor.pg
open Go.ChangeShapes Go.WideShapes Go.ChangeAt Go.RowKit Go.Shelf
set_option linter.unusedVariables false
set_option linter.unusedSimpArgs false
set_option maxRecDepth 100000
/-- The first m looked at. -/
def lcT (f : Fn) (s : Nat → Bool) (m : Nat) : Nat → Bool := fun k => if k < m then s k && prog.loc (insAt f.code k).op else s k
theorem lcT_zero (f : Fn) (s : Nat → Bool) : lcT f s 0 = s := by funext k; simp [lcT]
theorem lcT_at (f : Fn) (s : Nat → Bool) (m : Nat) : lcT f s m m = s m := by simp [lcT]
theorem lcT_more (f : Fn) (s : Nat → Bool) (m : Nat) (v : Bool) (hv : v = (s m && prog.loc (insAt f.code m).op)) : (fun b => if b = m then v else lcT f s m b) = lcT f s (m + 1) := by
  funext b
  unfold lcT
  by_cases c : b = m
  · subst c
    rw [if_pos rfl, if_pos (by omega), hv]
  · rw [if_neg c]
    by_cases d : b < m
    · rw [if_pos d, if_pos (by omega)]
    · rw [if_neg d, if_neg (by omega)]
set_option maxHeartbeats 2000000 in
theorem locals_any (F : MFn) (s : Nat → Bool) (w : World) (hF : F.lies w) (hfl : FlowF F.fn) (hP : prog.Forms w) :
    Calls Tryd.prog 51 #[F.val, .agg (boolRow 64 s)] w fun e w' => e = .returned (.agg (boolRow 64 (lcT F.fn s F.code.length))) ∧ Below w.heap.size w w' := by
  have huP : Hid (Tryd.prog.underlying 65 = _) := Tryd.underlying65
  have hzP : Hid (∀ w, (zeroValue 65).run Tryd.prog w = .ok (.agg (boolRow 64 fun _ => false)) w) := zeroSt
  have hl64 : (F.code.length : Int) ≤ 64 := by have := hfl.l64; have h : F.fn.code.length = F.code.length := rfl; omega
  obtain ⟨p1, p2, p3⟩ := three_new w (objFn F) (objPl s) (objPl fun _ => false)
  have s0 : Hid (GA w (((w.alloc (objFn F)).alloc (objPl s)).alloc (objPl fun _ => false)) F (lcT F.fn s 0)) := ⟨boxed3 _ _ _ _, p1, by rw [lcT_zero]; exact p2, p3⟩
  have f2 := cell_ofF (k := 2) (v := .slice F.ca F.code.length F.ccap) p1 rfl
  have hFH : Hid (F.lies w) := hF
  have hPH : Hid (prog.Forms w) := hP
  clear p1 p2 p3 hF hP
  go_enter Tryd.func51, Tryd.ntmps51
  go_wp2_with (refine wpList_alloc_big rfl 65 rfl hzP.out ?_)
  try simp only [Act.put, List.setIfInBounds_toArray, List.set_cons_zero, List.set_cons_succ, World.size_alloc]
  clear f2
  generalize ((w.alloc (objFn F)).alloc (objPl s)).alloc (objPl fun _ => false) = V at *
  go_loopw [10] (fun u wr => ∃ k : Nat, k ≤ F.code.length ∧ u = .int .i64 (k : Int) ∧ Hid (GA w wr F (lcT F.fn s k))) (fun u _ => F.code.length - (intOf u).toNat)
  case atStart => exact ⟨0, Nat.zero_le _, rfl, s0⟩
  case round =>
    clear s0
    obtain ⟨k, hk, rfl, hs⟩ := hrel
    by_cases hlt : k < F.code.length
    · obtain ⟨m1, m2⟩ := insAt_mem (code := F.code) (pc := (k : Int)) (by omega) (by omega)
      rw [Int.toNat_natCast] at m1
      obtain ⟨ib, io, hix, hib, i0, i1, i2, i3, i4⟩ := ins_ix (hFH.out.later hs.out.b).1 k _ m1
      have hio := (hFH.out.2.2.1 _ m2).1
      have hmore : Hid (∀ v, v = (s k && prog.loc (insAt F.code k).op) → (fun b => if b = k then v else lcT F.fn s k b) = lcT F.fn s (k + 1)) := fun v hv => lcT_more F.fn s k v hv
      generalize insAt F.code k = i at *
      have hkI : (k : Int) < F.code.length := by omega
      have hk64 : k < 64 := by omega
      have xI := ix_pl (w.heap.size + 1) k hk64
      have hbn := boxed wr (.cells #[.int .i64 i.op, .int .i64 i.a, .int .i64 i.b, .int .i64 i.c, .int .i64 i.n] 70)
      have hCn : (wr.alloc (.cells #[.int .i64 i.op, .int .i64 i.a, .int .i64 i.b, .int .i64 i.c, .int .i64 i.n] 70)).heap[wr.heap.size]? = some (.cells #[.int .i64 i.op, .int .i64 i.a, .int .i64 i.b, .int .i64 i.c, .int .i64 i.n] 70) := heap_alloc_new wr _
      have j0 := cell_ofF (k := 0) (v := .int .i64 i.op) hCn rfl
      have hs2 : Hid (GA w (wr.alloc (.cells #[.int .i64 i.op, .int .i64 i.a, .int .i64 i.b, .int .i64 i.c, .int .i64 i.n] 70)) F (lcT F.fn s k)) := hs.out.later hbn
      have cI := cell_ofF (k := k) (v := .bool (lcT F.fn s k k)) hs2.out.s (boolRow_at hk64)
      have fI := frozen_of_row _ _ k _ _ hs2.out.s
      rw [lcT_at] at cI
      have nx : Hid (∀ v W', W' = (wr.alloc (.cells #[.int .i64 i.op, .int .i64 i.a, .int .i64 i.b, .int .i64 i.c, .int .i64 i.n] 70)).setCell ⟨w.heap.size + 1, k, none⟩ (.bool v) → v = (s k && prog.loc i.op) → GA w W' F (lcT F.fn s (k + 1))) := fun v W' e hv => by
        have h1 := hs2.out
        have hl := h1.lt
        rw [e]
        refine ⟨h1.b.setCell (p := ⟨w.heap.size + 1, k, none⟩) (by show w.heap.size ≤ w.heap.size + 1; omega) _, (Below.heap_setCell _ _ _ _ (by show w.heap.size ≠ w.heap.size + 1; omega)).trans h1.f, ?_, (Below.heap_setCell _ _ _ _ (by show w.heap.size + 1 + 1 ≠ w.heap.size + 1; omega)).trans h1.r⟩
        rw [setCell_eq_setRow _ (w.heap.size + 1) k _ _ _ _ h1.s, boolRow_set, setRow_heap _ (w.heap.size + 1) _ _ _ _ h1.s, hmore.out v hv]
      have cL := prog.local_any i.op hio.1 hio.2 (wr.alloc (.cells #[.int .i64 i.op, .int .i64 i.a, .int .i64 i.b, .int .i64 i.c, .int .i64 i.n] 70)) (hPH.out.later hs2.out.b) (prog.loc i.op) rfl
      clear hbn hCn hs m1 m2 hib hmore hio
      obtain ⟨bk, hbk⟩ : ∃ bk, s k = bk := ⟨_, rfl⟩
      rw [hbk] at cI
      cases bk with
      | false =>
        have nx2 : Hid (∀ W', W' = (wr.alloc (.cells #[.int .i64 i.op, .int .i64 i.a, .int .i64 i.b, .int .i64 i.c, .int .i64 i.n] 70)).setCell ⟨w.heap.size + 1, k, none⟩ (.bool false) → GA w W' F (lcT F.fn s (k + 1))) := fun W' e => nx.out false W' e (by rw [hbk]; rfl)
        clear hbk nx cL
        go_wp2_with (refine wpList_putb rfl 4 _ _ rfl ⟨w.heap.size + 1, k, none⟩ rfl false rfl (by kernel_rfl) _ cI fI ?_; intro W1 hW1; (have hV2 : Hid (GA w W1 F (lcT F.fn s (k + 1))) := nx2.out W1 hW1); clear hW1)
        try simp only [Act.put, List.setIfInBounds_toArray, List.set_cons_zero, List.set_cons_succ]
        go_roundw
        case rel => exact ⟨k + 1, by omega, by go_num, hV2⟩
        case measure => simp [intOf]; omega
      | true =>
        have nx2 : Hid (∀ W', W' = (wr.alloc (.cells #[.int .i64 i.op, .int .i64 i.a, .int .i64 i.b, .int .i64 i.c, .int .i64 i.n] 70)).setCell ⟨w.heap.size + 1, k, none⟩ (.bool (prog.loc i.op)) → GA w W' F (lcT F.fn s (k + 1))) := fun W' e => nx.out _ W' e (by rw [hbk]; rfl)
        clear hbk nx
        generalize prog.loc i.op = lb at *
        go_wp2_with (first
          | (go_at_call 53; (refine cL.mono ?_); rintro e w2 ⟨rfl, hw2⟩; replace hw2 := hw2.symm; subst hw2)
          | (refine wpList_putb rfl 4 _ _ rfl ⟨w.heap.size + 1, k, none⟩ rfl lb rfl (by kernel_rfl) _ cI fI ?_; intro W1 hW1; (have hV2 : Hid (GA w W1 F (lcT F.fn s (k + 1))) := nx2.out W1 hW1); clear hW1))
        try simp only [Act.put, List.setIfInBounds_toArray, List.set_cons_zero, List.set_cons_succ]
        go_roundw
        case rel => exact ⟨k + 1, by omega, by go_num, hV2⟩
        case measure => simp [intOf]; omega
    · have hke : k = F.code.length := by omega
      have hkI : ¬ ((k : Int) < F.code.length) := by omega
      have hs1 : Hid (GA w wr F (lcT F.fn s F.code.length)) := by have := hs.out; rw [hke] at this; exact this
      have hS := hs1.out.s
      have hR := hs1.out.r
      clear hs hke
      go_wp2_with (first
        | (refine wpList_load_row rfl 65 _ rfl (w.heap.size + 1) rfl _ _ _ _ hS huP.out rfl (infoSt _) ?_)
        | (refine wpList_store_row rfl 65 _ _ rfl (w.heap.size + 1 + 1) (boolRow 64 (lcT F.fn s F.code.length)) rfl rfl _ _ hR (infoSt _) (by rw [boolRow_size, boolRow_size]) (boolRow_one _ _) ?_))
      exact bodyPost_ret (results_pl Tryd.results51 _ _ (w.heap.size + 1 + 1) _ rfl (setRow_heap _ _ _ _ _ _ hR)) rfl ⟨rfl, below_rowN hs1.out.b (by omega)⟩
end Go.Proofs.YtlcljdldhajkiaaDoor.pg
/- How long it runs along: package flow's Longest. -/
namespace Go.Proofs.YtlcljdldhajkiaaDoor.pg
open Go.ChangeShapes Go.WideShapes Go.ChangeAt Go.RowKit Go.Shelf
set_option linter.unusedVariables false
set_option linter.unusedSimpArgs false
set_option maxRecDepth 100000
/-- The ends of the local ways with so many instructions more than one. -/
def endsF (f : Fn) (pc : Nat) : Nat → Nat → Bool
  | 0 => lcT f (onePl pc) f.code.length
  | n + 1 => lcT f (bAll f (endsF f pc n) f.code.length) f.code.length
def noneP (s : Nat → Bool) : Prop := ∀ k, k < 64 → s k = false
def LngR (f : Fn) (pc : Nat) (r : Int) : Prop := (∃ n : Nat, n ≤ f.code.length ∧ noneP (endsF f pc n) ∧ (∀ m, m < n → ¬ noneP (endsF f pc m)) ∧ r = n) ∨ ((∀ m, m ≤ f.code.length → ¬ noneP (endsF f pc m)) ∧ r = -1)
theorem bld_P0 (w : World) : (Instr.build 65 #[]).run Tryd.prog w = .ok (.agg (boolRow 64 fun _ => false)) w := by kernel_rfl
theorem wpList_bldF {P : Program} {ops : Array Oper} {rest : List Oper} {o : Oper} {a : Act} {w : World} {Q : Exit → Act → World → Prop} (hgd : o.guard = none) (t : TypeId) (parts : Array (Nat × Operand)) (ho : o.op = .build t parts) (vs : Array (Nat × Value)) (hp : (parts.map fun (i, x) => (i, a.eval x)) = vs) (v : Value) (hr : ∀ w, (Instr.build t vs).run P w = .ok v w)
    (h : wpList P ops Q rest (a.put o.dst v) w) : wpList P ops Q (o :: rest) a w := wpList_plain hgd fun K hK => by
  unfold Oper.wp execOp
  simp only [ho, hp, Sem.run_bind, Sem.run_pure, Result.andThen_ok, hr]
  exact hK _ _ h
theorem neS_run (f g : Nat → Bool) (w : World) : (binOp .neq 65 (.agg (boolRow 64 f)) (.agg (boolRow 64 g))).run Tryd.prog w = .ok (.bool (!((List.range 64).all fun k => f k == g k))) w := by
  obtain ⟨i, hi⟩ := infoB_some
  have hc1 : Tryd.prog.cellsOf 4 = 1 := by kernel_rfl
  have h : (Op.equalIn 10000 65 (.agg (boolRow 64 f)) (.agg (boolRow 64 g))).run Tryd.prog w = .ok ((List.range 64).all fun k => f k == g k) w := by
    rw [show (10000 : Nat) = 9999 + 1 from rfl, run_equalIn_array w 9999 _ _ Tryd.underlying65 hi, hc1]
    exact run_eqS f g w _ fun k hk => List.mem_range.mp hk
  rw [run_neq_struct, h]; rfl
def OthF (W : World) (B : Nat) (w' : World) : Prop := ∀ b, b < W.heap.size → b ≠ B → w'.heap[b]? = W.heap[b]?
theorem othF_later {W w' w2 : World} {B : Nat} (h : OthF W B w') (hs : W.heap.size ≤ w'.heap.size) (hb : Below w'.heap.size w' w2) : OthF W B w2 := fun b h1 h2 => (hb.block b (by omega)).trans (h b h1 h2)
section
variable {P : Program} {ops : Array Oper} {Q : Exit → Act → World → Prop} {S : World → Prop} {fuel : Nat} {listed : Array Bool} {a : Act} {w : World}
theorem arm_callF {i : Nat} {o : Oper} (hw : Region.wanted o (yielded ops a.tmps) = true) (f : FuncId) (xs : Array Operand) (ts : Array TypeId)
    (hc0 : o.op = .call { callee := .value (.func f), args := xs, argTypes := ts }) (vs : Array Value) (hx : xs.map a.eval = vs) (hcf : (callFunc f vs).run P w = .ok (.enter f vs) w) (R : Ending → World → Prop) (hc : Calls P f vs w R)
    (hK : ∀ e w', R e w' → ∃ v, e = .returned v ∧ S w' ∧ (S w' → wpAnyH P .any ops Q S fuel (listed.setIfInBounds i true) (a.put o.dst v) w')) :
    ∀ K' : Act → World → Prop, Shut (∀ a w, S w → (S w → wpAnyH P .any ops Q S fuel (listed.setIfInBounds i true) a w) → K' a w) → if Region.wanted o (yielded ops a.tmps) = true then Oper.wp P o a w K' Q else K' (a.put o.dst undef) w := fun K hK2 => by
  rw [if_pos hw]
  have hrun : (execOp a.eval o).run P w = .ok (.enter f vs) w := by
    have hf : a.eval (.func f) = .func (.func f) #[] #[] := rfl
    simp [execOp, hc0, resolve, invoke, hx, hf, Deferred.ofValue, hcf]
  unfold Oper.wp
  rw [hrun, Oper.upon_enter]
  refine hc.mono fun e w' h => ?_
  obtain ⟨v, rfl, hs, hk⟩ := hK e w' h
  exact hK2.out _ _ hs hk
/-- A call of one argument, or something else. -/
theorem reg_ca1 {i j : Nat} {o p : Oper} (hr : Region.ready .any ops listed = [i, j]) (ho : ops[i]? = some o) (hp : ops[j]? = some p) (hw : Region.wanted o (yielded ops a.tmps) = true) (hw2 : Region.wanted p (yielded ops a.tmps) = true) (f : FuncId) (x : Operand) (t : TypeId)
    (hc0 : o.op = .call { callee := .value (.func f), args := #[x], argTypes := #[t] }) (v : Value) (hx : a.eval x = v) (hcf : (callFunc f #[v]).run P w = .ok (.enter f #[v]) w) (R : Ending → World → Prop) (hc : Calls P f #[v] w R)
    (hK : ∀ e w', R e w' → ∃ v, e = .returned v ∧ S w' ∧ (S w' → wpAnyH P .any ops Q S fuel (listed.setIfInBounds i true) (a.put o.dst v) w'))
    (h2 : wpList P ops (okQ fun a' w' => S w' ∧ (S w' → wpAnyH P .any ops Q S fuel (listed.setIfInBounds j true) a' w')) [p] a w) :
    wpAnyH P .any ops Q S (fuel + 1) listed a w := wpAnyH_ready hr (by simp) (AllReadyH.cons ho (arm_callF hw f #[x] #[t] hc0 #[v] (by simp [hx]) hcf R hc hK) (AllReadyH.cons hp (arm_list hw2 h2) AllReadyH.nil))
/-- A call of two, or something else. -/
theorem reg_ca2 {i j : Nat} {o p : Oper} (hr : Region.ready .any ops listed = [i, j]) (ho : ops[i]? = some o) (hp : ops[j]? = some p) (hw : Region.wanted o (yielded ops a.tmps) = true) (hw2 : Region.wanted p (yielded ops a.tmps) = true) (f : FuncId) (x y : Operand) (t u : TypeId)
    (hc0 : o.op = .call { callee := .value (.func f), args := #[x, y], argTypes := #[t, u] }) (v v2 : Value) (hx : a.eval x = v) (hy : a.eval y = v2) (hcf : (callFunc f #[v, v2]).run P w = .ok (.enter f #[v, v2]) w) (R : Ending → World → Prop) (hc : Calls P f #[v, v2] w R)
    (hK : ∀ e w', R e w' → ∃ v, e = .returned v ∧ S w' ∧ (S w' → wpAnyH P .any ops Q S fuel (listed.setIfInBounds i true) (a.put o.dst v) w'))
    (h2 : wpList P ops (okQ fun a' w' => S w' ∧ (S w' → wpAnyH P .any ops Q S fuel (listed.setIfInBounds j true) a' w')) [p] a w) :
    wpAnyH P .any ops Q S (fuel + 1) listed a w := wpAnyH_ready hr (by simp) (AllReadyH.cons ho (arm_callF hw f #[x, y] #[t, u] hc0 #[v, v2] (by simp [hx, hy]) hcf R hc hK) (AllReadyH.cons hp (arm_list hw2 h2) AllReadyH.nil))
end
/-- Where all lies while ways are gone along. -/
structure LO (w W : World) (F : MFn) (FX EB : Nat) (s : Nat → Bool) : Prop where
  b : Below w.heap.size w W
  f : W.heap[FX]? = some (objFn F)
  e : W.heap[EB]? = some (objPl s)
  n : w.heap.size < FX ∧ FX < EB
theorem LO.lt {w W : World} {F : MFn} {FX EB : Nat} {s : Nat → Bool} (h : LO w W F FX EB s) : EB < W.heap.size := (Array.getElem?_eq_some_iff.mp h.e).1
theorem LO.later {w W W' : World} {F : MFn} {FX EB : Nat} {s : Nat → Bool} (h : LO w W F FX EB s) (hb : Below W.heap.size W W') : LO w W' F FX EB s := ⟨bthen h.b hb, (hb.block FX (by have := h.lt; have := h.n.2; omega)).trans h.f, (hb.block EB h.lt).trans h.e, h.n⟩
theorem LO.rg {w W : World} {F : MFn} {FX EB : Nat} {s : Nat → Bool} (h : LO w W F FX EB s) {w' : World} (hk : w'.heap[FX]? = W.heap[FX]?) : w'.rangeAt FX 0 ([.int .i64 F.params, .int .i64 F.regs, .slice F.ca F.code.length F.ccap, .slice F.sa F.sels.length F.scap] : List Value) := fun j v hj => by
  have hf := hk.trans h.f
  match j, hj with
  | 0, hj => cases hj; exact cell_ofF hf rfl
  | 1, hj => cases hj; exact cell_ofF hf rfl
  | 2, hj => cases hj; exact cell_ofF hf rfl
  | 3, hj => cases hj; exact cell_ofF hf rfl
set_option maxHeartbeats 4000000 in
theorem flong_ok (M : MPr) (f : Int) (pc : Nat) (w : World) (hM : M.lies w) (hF : prog.Forms w) (F : MFn) (hFi : M.fns[f.toNat]? = some F) (hfl : FlowF F.fn) (f0 : 0 ≤ f) (hpc : pc < F.code.length) (hfit : fitP M.pr f pc = 0) :
    Calls Tryd.prog 30 #[M.val, .int .i64 f, .int .i64 (pc : Int)] w fun e w' => ∃ r, e = .returned (.tuple #[.int .i64 r, .int .i64 0]) ∧ LngR F.fn pc r ∧ Below w.heap.size w w' := by
  have hb := boxed w (objP M)
  have bP := boxP_new w M
  have hFm := List.mem_of_getElem? hFi
  have hcall := fcheckPlace_any M f (pc : Int) _ (hM.later hb) (hF.later hb) 0 hfit.symm
  have hMH : Hid (M.lies w) := hM
  have hPH : Hid (prog.Forms w) := hF
  have huP : Hid (Tryd.prog.underlying 65 = _) := Tryd.underlying65
  have hzP : Hid (∀ w, (zeroValue 65).run Tryd.prog w = .ok (.agg (boolRow 64 fun _ => false)) w) := zeroSt
  have bPH : Hid (BoxP (w.alloc (objP M)) w.heap.size M) := bP
  have hbH : Hid (Below w.heap.size w (w.alloc (objP M))) := hb
  have hl64 : pc < 64 := by have := hfl.l64; have h : F.fn.code.length = F.code.length := rfl; omega
  have hc64 : (F.code.length : Int) ≤ 64 := by have := hfl.l64; have h : F.fn.code.length = F.code.length := rfl; omega
  obtain ⟨fb, fo, hfix, hfb, fc0, fc1, fc2, fc3⟩ := fn_ix (hM.later hb).2.2.1 f.toNat F hFi
  rw [show ((f.toNat : Nat) : Int) = f by omega] at hfix
  have hfc : Hid (∀ w', Below (w.alloc (objP M)).heap.size (w.alloc (objP M)) w' → w'.cell? ⟨fb, fo, none⟩ = some (.int .i64 F.params) ∧ w'.cell? ⟨fb, fo + 1, none⟩ = some (.int .i64 F.regs) ∧ w'.cell? ⟨fb, fo + 2, none⟩ = some (.slice F.ca F.code.length F.ccap) ∧ w'.cell? ⟨fb, fo + 3, none⟩ = some (.slice F.sa F.sels.length F.scap)) := fun w' h' => ⟨cell_later h' fc0, cell_later h' fc1, cell_later h' fc2, cell_later h' fc3⟩
  have hlF : Hid (F.lies w) := hM.2.2.2.2.2.2 F hFm
  clear hM hF hfit hb fc0 fc1 fc2 fc3 hfb
  go_enter Tryd.func30, Tryd.ntmps30
  go_upto_region 5 with (go_at_call 25; (with_reducible refine hcall.mono ?_); rintro e w2 ⟨rfl, hb2⟩; clear bP; obtain ⟨k0, k1, k2, k3⟩ := hfc.out w2 hb2; (have p3 := (bPH.out.later hb2).2.2.2))
  have hbW : Below w.heap.size w (w2.alloc (objFn F)) := bthen (bthen hbH.out hb2) (boxed _ _)
  have hFX : (w2.alloc (objFn F)).heap[w2.heap.size]? = some (objFn F) := heap_alloc_new w2 _
  have hlx : w.heap.size < w2.heap.size := by have := hb2.size; rw [World.size_alloc] at this; omega
  clear hcall k0 k1 k2 k3 p3 hb2 hfix hfc
  generalize w2.alloc (objFn F) = V at *
  generalize w2.heap.size = FX at *
  have hFXl : FX < V.heap.size := (Array.getElem?_eq_some_iff.mp hFX).1
  have hH : Below V.heap.size V V.drew := bey_drew V
  have hrF : ∀ w', Below V.heap.size V w' → w'.rangeAt FX 0 ([.int .i64 F.params, .int .i64 F.regs, .slice F.ca F.code.length F.ccap, .slice F.sa F.sels.length F.scap] : List Value) := fun w' h' j v hj => by
    have hf := (h'.block FX hFXl).trans hFX
    match j, hj with
    | 0, hj => cases hj; exact cell_ofF hf rfl
    | 1, hj => cases hj; exact cell_ofF hf rfl
    | 2, hj => cases hj; exact cell_ofF hf rfl
    | 3, hj => cases hj; exact cell_ofF hf rfl
  go_cut [10] (fun u wx => ∃ EB, u = .pointer (some ⟨EB, 0, none⟩) ∧ Hid (LO w wx F FX EB (endsF F.fn pc 0)))
  case first =>
    refine wp_region_held_drew (S := fun w' => Below V.heap.size V w') (by kernel_rfl) hH (fun _ => ?_)
    refine reg_load (i := 0) rfl (by kernel_rfl) (by kernel_rfl) (by kernel_rfl) (fun _ _ _ _ h => h) rfl 62 _ rfl FX 0 rfl [.int .i64 F.params, .int .i64 F.regs, .slice F.ca F.code.length F.ccap, .slice F.sa F.sels.length F.scap] _ hrF Tryd.underlying62 rfl (by kernel_rfl) hH ?_
    simp only [Act.put, List.getElem_toArray, List.getElem_cons_succ, List.getElem_cons_zero, List.setIfInBounds_toArray, List.set_cons_zero, List.set_cons_succ]
    refine reg_move (i := 1) rfl (by kernel_rfl) (by kernel_rfl) (by kernel_rfl) (fun _ _ _ _ h => h) rfl (.int .i64 (pc : Int)) (fun _ => by kernel_rfl) hH ?_
    simp only [Act.put, List.getElem_toArray, List.getElem_cons_succ, List.getElem_cons_zero, List.setIfInBounds_toArray, List.set_cons_zero, List.set_cons_succ]
    have hzC : (V.drew.alloc (objPl fun _ => false)).heap[V.drew.heap.size]? = some (objPl fun _ => false) := heap_alloc_new V.drew _
    have hAC : Below V.heap.size V (V.drew.alloc (objPl fun _ => false)) := bthen hH (boxed _ _)
    refine reg_ca1 (i := 2) (j := 4) (by kernel_rfl) rfl rfl rfl rfl 46 _ _ rfl (.int .i64 (pc : Int)) rfl (cf_fn Tryd.func46 (by kernel_rfl) (by kernel_rfl) _ _) _ (just_any pc hl64 _) ?_ (wpList_alloc_big rfl 65 rfl hzP.out (wpList_nil (And.intro hAC fun _ => ?_)))
    · rintro e3 w3 ⟨rfl, hb3⟩
      have hH3 : Below V.heap.size V w3 := bthen hH hb3
      refine ⟨_, rfl, hH3, fun _ => ?_⟩
      simp only [Act.put, List.getElem_toArray, List.getElem_cons_succ, List.getElem_cons_zero, List.setIfInBounds_toArray, List.set_cons_zero, List.set_cons_succ]
      have hzB : (w3.alloc (objPl fun _ => false)).heap[w3.heap.size]? = some (objPl fun _ => false) := heap_alloc_new w3 _
      have hAB : Below V.heap.size V (w3.alloc (objPl fun _ => false)) := bthen hH3 (boxed _ _)
      refine reg_ca2 (i := 3) (j := 4) (by kernel_rfl) rfl rfl rfl rfl 51 _ _ _ _ rfl F.val (.agg (boolRow 64 (onePl pc))) rfl rfl (cf_fn Tryd.func51 (by kernel_rfl) (by kernel_rfl) _ _) _ (locals_any F (onePl pc) w3 (hlF.out.later (bthen hbW hH3)) hfl (hPH.out.later (bthen hbW hH3))) ?_ (wpList_alloc_big rfl 65 rfl hzP.out (wpList_nil (And.intro hAB fun _ => ?_)))
      · rintro e4 w4 ⟨rfl, hb4⟩
        have hH4 : Below V.heap.size V w4 := bthen hH3 hb4
        refine ⟨_, rfl, hH4, fun _ => ?_⟩
        simp only [Act.put, List.getElem_toArray, List.getElem_cons_succ, List.getElem_cons_zero, List.setIfInBounds_toArray, List.set_cons_zero, List.set_cons_succ]
        have hzA : (w4.alloc (objPl fun _ => false)).heap[w4.heap.size]? = some (objPl fun _ => false) := heap_alloc_new w4 _
        have hAA : Below V.heap.size V (w4.alloc (objPl fun _ => false)) := bthen hH4 (boxed _ _)
        refine reg_one (i := 4) (by kernel_rfl) rfl rfl (wpList_alloc_big rfl 65 rfl hzP.out (wpList_nil (And.intro hAA fun _ => ?_)))
        simp only [Act.put, List.getElem_toArray, List.getElem_cons_succ, List.getElem_cons_zero, List.setIfInBounds_toArray, List.set_cons_zero, List.set_cons_succ]
        have hS5 : Below V.heap.size V ((w4.alloc (objPl fun _ => false)).setRow w4.heap.size (boolRow 64 (lcT F.fn (onePl pc) F.code.length))) := below_rowN hAA (by have := hH4.size; omega)
        refine reg_one (i := 5) (by kernel_rfl) rfl rfl (wpList_store_row rfl 65 _ _ rfl w4.heap.size (boolRow 64 (lcT F.fn (onePl pc) F.code.length)) rfl rfl _ _ hzA (infoSt _) (by rw [boolRow_size, boolRow_size]) (boolRow_one _ _) (wpList_nil (And.intro hS5 fun _ => ?_)))
        simp only [Act.put, List.getElem_toArray, List.getElem_cons_succ, List.getElem_cons_zero, List.setIfInBounds_toArray, List.set_cons_zero, List.set_cons_succ]
        refine wpAnyH_done (by kernel_rfl) ?_ _
        go_wp2_with fail
        go_meet
        case rel => exact ⟨w4.heap.size, rfl, bthen hbW hS5, (hS5.block FX hFXl).trans hFX, setRow_heap _ _ _ _ _ _ hzA, hlx, by have := hH4.size; omega⟩
      · simp only [Act.put, List.getElem_toArray, List.getElem_cons_succ, List.getElem_cons_zero, List.setIfInBounds_toArray, List.set_cons_zero, List.set_cons_succ]
        refine reg_call2 (i := 3) (by kernel_rfl) rfl rfl 51 _ _ _ _ rfl F.val (.agg (boolRow 64 (onePl pc))) rfl rfl (cf_fn Tryd.func51 (by kernel_rfl) (by kernel_rfl) _ _) _ (locals_any F (onePl pc) _ (hlF.out.later (bthen hbW hAB)) hfl (hPH.out.later (bthen hbW hAB))) ?_
        rintro e4 w4 ⟨rfl, hb4⟩
        have hH4 : Below V.heap.size V w4 := bthen hAB hb4
        refine ⟨_, rfl, hH4, fun _ => ?_⟩
        simp only [Act.put, List.getElem_toArray, List.getElem_cons_succ, List.getElem_cons_zero, List.setIfInBounds_toArray, List.set_cons_zero, List.set_cons_succ]
        have hzB4 : w4.heap[w3.heap.size]? = some (objPl fun _ => false) := (hb4.block _ (by rw [World.size_alloc]; omega)).trans hzB
        have hS5 : Below V.heap.size V (w4.setRow w3.heap.size (boolRow 64 (lcT F.fn (onePl pc) F.code.length))) := below_rowN hH4 (by have := hH3.size; omega)
        refine reg_one (i := 5) (by kernel_rfl) rfl rfl (wpList_store_row rfl 65 _ _ rfl w3.heap.size (boolRow 64 (lcT F.fn (onePl pc) F.code.length)) rfl rfl _ _ hzB4 (infoSt _) (by rw [boolRow_size, boolRow_size]) (boolRow_one _ _) (wpList_nil (And.intro hS5 fun _ => ?_)))
        simp only [Act.put, List.getElem_toArray, List.getElem_cons_succ, List.getElem_cons_zero, List.setIfInBounds_toArray, List.set_cons_zero, List.set_cons_succ]
        refine wpAnyH_done (by kernel_rfl) ?_ _
        go_wp2_with fail
        go_meet
        case rel => exact ⟨w3.heap.size, rfl, bthen hbW hS5, (hS5.block FX hFXl).trans hFX, setRow_heap _ _ _ _ _ _ hzB4, hlx, by have := hH3.size; omega⟩
    · simp only [Act.put, List.getElem_toArray, List.getElem_cons_succ, List.getElem_cons_zero, List.setIfInBounds_toArray, List.set_cons_zero, List.set_cons_succ]
      refine reg_call1 (i := 2) (by kernel_rfl) rfl rfl 46 _ _ rfl (.int .i64 (pc : Int)) rfl (cf_fn Tryd.func46 (by kernel_rfl) (by kernel_rfl) _ _) _ (just_any pc hl64 _) ?_
      rintro e3 w3 ⟨rfl, hb3⟩
      have hH3 : Below V.heap.size V w3 := bthen hAC hb3
      refine ⟨_, rfl, hH3, fun _ => ?_⟩
      simp only [Act.put, List.getElem_toArray, List.getElem_cons_succ, List.getElem_cons_zero, List.setIfInBounds_toArray, List.set_cons_zero, List.set_cons_succ]
      refine reg_call2 (i := 3) (by kernel_rfl) rfl rfl 51 _ _ _ _ rfl F.val (.agg (boolRow 64 (onePl pc))) rfl rfl (cf_fn Tryd.func51 (by kernel_rfl) (by kernel_rfl) _ _) _ (locals_any F (onePl pc) w3 (hlF.out.later (bthen hbW hH3)) hfl (hPH.out.later (bthen hbW hH3))) ?_
      rintro e4 w4 ⟨rfl, hb4⟩
      have hH4 : Below V.heap.size V w4 := bthen hH3 hb4
      refine ⟨_, rfl, hH4, fun _ => ?_⟩
      simp only [Act.put, List.getElem_toArray, List.getElem_cons_succ, List.getElem_cons_zero, List.setIfInBounds_toArray, List.set_cons_zero, List.set_cons_succ]
      have hzC3 : w3.heap[V.heap.size]? = some (objPl fun _ => false) := (hb3.block _ (by rw [World.size_alloc]; exact Nat.lt_succ_self _)).trans hzC
      have hzC4 : w4.heap[V.heap.size]? = some (objPl fun _ => false) := (hb4.block _ (Array.getElem?_eq_some_iff.mp hzC3).1).trans hzC3
      have hS5 : Below V.heap.size V (w4.setRow V.heap.size (boolRow 64 (lcT F.fn (onePl pc) F.code.length))) := below_rowN hH4 (by omega)
      refine reg_one (i := 5) (by kernel_rfl) rfl rfl (wpList_store_row rfl 65 _ _ rfl V.heap.size (boolRow 64 (lcT F.fn (onePl pc) F.code.length)) rfl rfl _ _ hzC4 (infoSt _) (by rw [boolRow_size, boolRow_size]) (boolRow_one _ _) (wpList_nil (And.intro hS5 fun _ => ?_)))
      simp only [Act.put, List.getElem_toArray, List.getElem_cons_succ, List.getElem_cons_zero, List.setIfInBounds_toArray, List.set_cons_zero, List.set_cons_succ]
      refine wpAnyH_done (by kernel_rfl) ?_ _
      go_wp2_with fail
      go_meet
      case rel => exact ⟨V.heap.size, rfl, bthen hbW hS5, (hS5.block FX hFXl).trans hFX, setRow_heap _ _ _ _ _ _ hzC4, hlx, by omega⟩
  case rest =>
    obtain ⟨EB, rfl, i0⟩ := hcut
    clear hH hrF
    go_wp2_with fail
    go_loopw [11] (fun u wr => ∃ n : Nat, n ≤ F.code.length ∧ u = .int .i64 (n : Int) ∧ Hid (LO w wr F FX EB (endsF F.fn pc n) ∧ ∀ m, m < n → ¬ noneP (endsF F.fn pc m))) (fun u _ => F.code.length + 1 - (intOf u).toNat)
    case atStart => exact ⟨0, Nat.zero_le _, rfl, i0.out, fun m hm => by omega⟩
    case round =>
      clear i0
      obtain ⟨n, hn, rfl, hs⟩ := hrel
      have hE := hs.out.1.e
      have hfx := hs.out.1.f
      have f2 := cell_ofF (k := 2) (v := .slice F.ca F.code.length F.ccap) hfx rfl
      have ne1 := neS_run (endsF F.fn pc n) (fun _ => false)
      obtain ⟨eb, heb⟩ : ∃ eb, Hid (((List.range 64).all fun k => endsF F.fn pc n k == (fun _ => false) k) = eb) := ⟨_, rfl⟩
      rw [heb.out] at ne1
      cases eb with
      | true =>
        have hno : Hid (noneP (endsF F.fn pc n)) := pl_same.mp heb.out
        clear heb
        go_wp2_with (first
          | (refine wpList_load_row rfl 65 _ rfl EB rfl _ _ _ _ hE huP.out rfl (infoSt _) ?_)
          | (refine wpList_bldF rfl 65 _ rfl #[] (by simp) _ bld_P0 ?_))
        go_ret2
        exact ⟨n, rfl, .inl ⟨n, hn, hno.out, hs.out.2, rfl⟩, hs.out.1.b⟩
      | false =>
        have hno : Hid (¬ noneP (endsF F.fn pc n)) := fun q => by
          have : ((List.range 64).all fun k => endsF F.fn pc n k == (fun _ => false) k) = true := pl_same.mpr q
          rw [heb.out] at this
          cases this
        clear heb
        by_cases hnl : n = F.code.length
        · have hfin : Hid (∀ m, m ≤ F.code.length → ¬ noneP (endsF F.fn pc m)) := fun m hm => by
            by_cases c : m = n
            · subst c; exact hno.out
            · exact hs.out.2 m (by omega)
          subst hnl
          go_wp2_with (first
            | (refine wpList_load_row rfl 65 _ rfl EB rfl _ _ _ _ hE huP.out rfl (infoSt _) ?_)
            | (refine wpList_bldF rfl 65 _ rfl #[] (by simp) _ bld_P0 ?_))
          go_ret2
          exact ⟨-1, rfl, .inr ⟨hfin.out, rfl⟩, hs.out.1.b⟩
        · have d1 : ((n : Int) == (F.code.length : Int)) = false := by rw [beq_eq_false_iff_ne]; omega
          have d2 : (n == F.code.length) = false := by simpa using hnl
          have hnI : (n : Int) < 64 := by omega
          go_upto_region 11 with (first
            | (refine wpList_load_row rfl 65 _ rfl EB rfl _ _ _ _ hE huP.out rfl (infoSt _) ?_)
            | (refine wpList_bldF rfl 65 _ rfl #[] (by simp) _ bld_P0 ?_))
          clear f2 ne1 d1 d2
          have hO := hs.out.1
          have hOn := hO.n
          have hEl := hO.lt
          have hH : OthF wr EB wr.drew := fun _ _ _ => rfl
          have hrF : ∀ w', OthF wr EB w' → w'.rangeAt FX 0 ([.int .i64 F.params, .int .i64 F.regs, .slice F.ca F.code.length F.ccap, .slice F.sa F.sels.length F.scap] : List Value) := fun w' h' => hO.rg (h' FX (by omega) (by omega))
          refine wp_region_held_drew (S := OthF wr EB) (by kernel_rfl) hH (fun _ => ?_)
          refine reg_load (i := 0) rfl (by kernel_rfl) (by kernel_rfl) (by kernel_rfl) (fun _ _ _ _ h => h) rfl 62 _ rfl FX 0 rfl [.int .i64 F.params, .int .i64 F.regs, .slice F.ca F.code.length F.ccap, .slice F.sa F.sels.length F.scap] _ hrF Tryd.underlying62 rfl (by kernel_rfl) hH ?_
          simp only [Act.put, List.getElem_toArray, List.getElem_cons_succ, List.getElem_cons_zero, List.setIfInBounds_toArray, List.set_cons_zero, List.set_cons_succ]
          refine reg_load (i := 1) rfl (by kernel_rfl) (by kernel_rfl) (by kernel_rfl) (fun _ _ _ _ h => h) rfl 62 _ rfl FX 0 rfl [.int .i64 F.params, .int .i64 F.regs, .slice F.ca F.code.length F.ccap, .slice F.sa F.sels.length F.scap] _ hrF Tryd.underlying62 rfl (by kernel_rfl) hH ?_
          simp only [Act.put, List.getElem_toArray, List.getElem_cons_succ, List.getElem_cons_zero, List.setIfInBounds_toArray, List.set_cons_zero, List.set_cons_succ]
          refine reg_one (i := 2) (by kernel_rfl) rfl rfl (wpList_load_row rfl 65 _ rfl EB rfl _ _ _ _ (show wr.drew.heap[EB]? = _ from hE) huP.out rfl (infoSt _) (wpList_nil (And.intro hH fun _ => ?_)))
          simp only [Act.put, List.getElem_toArray, List.getElem_cons_succ, List.getElem_cons_zero, List.setIfInBounds_toArray, List.set_cons_zero, List.set_cons_succ]
          refine reg_call2 (i := 3) (by kernel_rfl) rfl rfl 45 _ _ _ _ rfl F.val (.agg (boolRow 64 (endsF F.fn pc n))) rfl rfl (cf_fn Tryd.func45 (by kernel_rfl) (by kernel_rfl) _ _) _ (behindAll_any F (endsF F.fn pc n) wr.drew (hlF.out.later (bthen hO.b (bey_drew wr))) hfl) ?_
          rintro e6 w6 ⟨rfl, hb6⟩
          have hH6 : OthF wr EB w6 := othF_later hH (Nat.le_refl _) hb6
          refine ⟨_, rfl, hH6, fun _ => ?_⟩
          simp only [Act.put, List.getElem_toArray, List.getElem_cons_succ, List.getElem_cons_zero, List.setIfInBounds_toArray, List.set_cons_zero, List.set_cons_succ]
          have hO6 : LO w w6 F FX EB (endsF F.fn pc n) := (hO.later (bey_drew wr)).later hb6
          refine reg_call2 (i := 4) (by kernel_rfl) rfl rfl 51 _ _ _ _ rfl F.val (.agg (boolRow 64 (bAll F.fn (endsF F.fn pc n) F.code.length))) rfl rfl (cf_fn Tryd.func51 (by kernel_rfl) (by kernel_rfl) _ _) _ (locals_any F _ w6 (hlF.out.later hO6.b) hfl (hPH.out.later hO6.b)) ?_
          rintro e7 w7 ⟨rfl, hb7⟩
          have hs67 : wr.heap.size ≤ w6.heap.size := hb6.size
          have hH7 : OthF wr EB w7 := othF_later hH6 hs67 hb7
          refine ⟨_, rfl, hH7, fun _ => ?_⟩
          simp only [Act.put, List.getElem_toArray, List.getElem_cons_succ, List.getElem_cons_zero, List.setIfInBounds_toArray, List.set_cons_zero, List.set_cons_succ]
          have hO7 : LO w w7 F FX EB (endsF F.fn pc n) := hO6.later hb7
          have hH8 : OthF wr EB (w7.setRow EB (boolRow 64 (lcT F.fn (bAll F.fn (endsF F.fn pc n) F.code.length) F.code.length))) := fun b h1 h2 => (setRow_other _ _ _ _ h2).trans (hH7 b h1 h2)
          refine reg_one (i := 5) (by kernel_rfl) rfl rfl (wpList_store_row rfl 65 _ _ rfl EB (boolRow 64 (lcT F.fn (bAll F.fn (endsF F.fn pc n) F.code.length) F.code.length)) rfl rfl _ _ hO7.e (infoSt _) (by rw [boolRow_size, boolRow_size]) (boolRow_one _ _) (wpList_nil (And.intro hH8 fun _ => ?_)))
          simp only [Act.put, List.getElem_toArray, List.getElem_cons_succ, List.getElem_cons_zero, List.setIfInBounds_toArray, List.set_cons_zero, List.set_cons_succ]
          refine wpAnyH_done (by kernel_rfl) ?_ _
          have hnx : Hid (LO w (w7.setRow EB (boolRow 64 (lcT F.fn (bAll F.fn (endsF F.fn pc n) F.code.length) F.code.length))) F FX EB (endsF F.fn pc (n + 1)) ∧ ∀ m, m < n + 1 → ¬ noneP (endsF F.fn pc m)) := ⟨⟨below_rowN hO7.b (by omega), (setRow_other _ _ _ _ (by omega)).trans hO7.f, setRow_heap _ _ _ _ _ _ hO7.e, hOn⟩, fun m hm => by
            by_cases c : m = n
            · subst c; exact hno.out
            · exact hs.out.2 m (by omega)⟩
          clear hH8 hH7 hH6 hH hrF hb7 hb6 hO7 hO6 hO hs hno hE hfx
          generalize w7.setRow EB (boolRow 64 (lcT F.fn (bAll F.fn (endsF F.fn pc n) F.code.length) F.code.length)) = V2 at *
          go_wp2
          go_roundw
          case rel => exact ⟨n + 1, by omega, by go_num, hnx⟩
          case measure => simp [intOf]; omega
end Go.Proofs.YtlcljdldhajkiaaDoor.pg
