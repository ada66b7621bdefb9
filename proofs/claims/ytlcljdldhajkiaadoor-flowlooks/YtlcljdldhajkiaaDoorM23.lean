/- The document's Spins. -/
import Derived.Test.YtlcljdldhajkiaaDoorM20
import Derived.Test.YtlcljdldhajkiaaDoorM22
namespace Go.Proofs.YtlcljdldhajkiaaDoor.pg
open Go.ChangeShapes Go.WideShapes Go.ChangeAt Go.RowKit Go.Shelf
set_option linter.unusedVariables false
set_option linter.unusedSimpArgs false
set_option maxRecDepth 100000
/-- The same, in the document's words. -/
def RingD (f : Fn) (pc : Nat) (b : Bool) : Prop := prog.loc (insAt f.code pc).op = false ∧ b = false ∨ prog.loc (insAt f.code pc).op = true ∧ ∃ R, Least f (LL true) (puts (fun _ => false) (nxt f pc)) R ∧ b = R pc
theorem ringD_same {f : Fn} {pc : Nat} {b b' : Bool} (h : RingD f pc b) (h' : RingD f pc b') : b = b' := by
  rcases h with ⟨h1, h2⟩ | ⟨h1, R, h2, h3⟩
  · rcases h' with ⟨g1, g2⟩ | ⟨g1, _⟩
    · rw [h2, g2]
    · rw [h1] at g1; cases g1
  · rcases h' with ⟨g1, _⟩ | ⟨g1, R', g2, g3⟩
    · rw [h1] at g1; cases g1
    · rw [h3, g3, h2.same g2]
theorem ringP_D {f : Fn} {pc : Nat} {b : Bool} (hp : pc < f.code.length) (h : RingP f pc b) : RingD f pc b := by
  rcases h with h | ⟨h1, R, h2, h3⟩
  · exact .inl h
  · refine .inr ⟨h1, R, ?_, h3⟩
    have e1 : LL true = lcl := by funext op; simp [LL, lcl]
    have e2 : bAll f (onePl pc) f.code.length = puts (fun _ => false) (nxt f pc) := by
      funext k
      rw [Bool.eq_iff_iff, bAll_iff]
      unfold puts onePl
      simp only [Bool.false_or, decide_eq_true_eq]
      exact ⟨fun ⟨q, _, e, h⟩ => by rw [e] at h; exact h, fun h => ⟨pc, hp, rfl, h⟩⟩
    rw [e1, ← e2]
    exact h2
theorem boxP_keep {w w' : World} {B : Nat} {M : MPr} {V : World} (h : BoxP w B M) (h1 : w'.heap[B]? = V.heap[B]?) (h2 : w.heap[B]? = V.heap[B]?) : BoxP w' B M := by
  have e : w'.heap[B]? = w.heap[B]? := h1.trans h2.symm
  exact ⟨cell_keepQ h.1 e, cell_keepQ h.2.1 e, cell_keepQ h.2.2.1 e, cell_keepQ h.2.2.2 e⟩
set_option maxHeartbeats 4000000 in
theorem rSpins_any (M : MPr) (f : Int) (w : World) (hM : M.lies w) (F : MFn) (hFi : M.fns[f.toNat]? = some F) (hfl : FlowF F.fn) (f0 : 0 ≤ f) (sp : Nat → Bool) (hsp : ∀ k, k < F.code.length → RingD F.fn k (sp k)) :
    Calls Tryd.prog 21 #[M.val, .int .i64 f] w fun e w' => ∃ s va vc, e = .returned (.slice va (lst s F.code.length).length vc) ∧ (∀ k, k < F.code.length → RingD F.fn k (s k)) ∧ Rows w' 1 va vc ((lst s F.code.length).map chCells) ∧ Below w.heap.size w w' := by
  obtain ⟨iN, hiN', hzN', hsN', hbN'⟩ := info_q infoN_u
  have hiN : Hid (Tryd.prog.info? 3 = some iN) := hiN'
  have hzN : Hid _ := hzN'
  have hsN : Hid _ := hsN'
  have hbN : Hid _ := hbN'
  clear hiN' hzN' hsN' hbN'
  have hMH : Hid (M.lies w) := hM
  have hl64 : (F.code.length : Int) ≤ 64 := by (have := hfl.l64; have h : F.fn.code.length = F.code.length := rfl; omega)
  have cG : Hid (∀ V, Below w.heap.size w V → ∀ k : Nat, k < F.code.length → Calls Tryd.prog 42 #[M.val, .int .i64 f, .int .i64 (k : Int)] V _) := fun V hV k hk => rspins_any M f k V (hMH.out.later hV) F hFi hfl f0 hk
  have s0 : Hid (BoxP (w.alloc (objP M)) w.heap.size M ∧ LsS w (lst (fun _ => false) 0) none 0 (w.alloc (objP M))) := ⟨boxP_new w M, boxed _ _, own_nil_q _ _ _ _⟩
  have hf : ((f.toNat : Nat) : Int) = f := by omega
  clear hM
  go_enter Tryd.func21, Tryd.ntmps21
  go_wp2_with fail
  generalize w.alloc (objP M) = V at *
  have hVl : Hid (w.heap.size < V.heap.size ∧ Below w.heap.size w V) := ⟨s0.out.1.lt, s0.out.2.be⟩
  have s1 : Hid (BoxP V w.heap.size M ∧ LsS V (lst (fun _ => false) 0) none 0 V) := ⟨s0.out.1, Below.refl _ _, own_nil_q _ _ _ _⟩
  clear s0
  go_loopw [5, 6] (fun o u wr => ∃ (c : Nat) (s : Nat → Bool) (va : Option Addr) (vc : Nat), c ≤ F.code.length ∧ u = .int .i64 (c : Int) ∧ o = .slice va (lst s c).length vc ∧ Hid (BoxP wr w.heap.size M ∧ LsS V (lst s c) va vc wr ∧ ∀ k, k < c → RingD F.fn k (s k))) (fun _ u _ => F.code.length - (intOf u).toNat)
  case atStart => exact ⟨0, fun _ => false, none, 0, Nat.zero_le _, rfl, rfl, s1.out.1, s1.out.2, fun k hk => absurd hk (Nat.not_lt_zero _)⟩
  case round =>
    clear s1
    obtain ⟨c, s, va, vc, hc, rfl, rfl, hs⟩ := hrel
    have hbw : Below w.heap.size w wr := bthen hVl.out.2 hs.out.2.1.be
    obtain ⟨fb, fo, fx, fl, q0, q1, q2, q3⟩ := fn_ix (hMH.out.later hbw).2.2.1 f.toNat F hFi
    rw [hf] at fx
    have p3 := hs.out.1.2.2.2
    have hbwH : Hid (Below w.heap.size w wr) := hbw
    clear q0 q1 q3 fl hbw
    by_cases hlt : c < F.code.length
    · have hcI : (c : Int) < F.code.length := by omega
      obtain ⟨p0, p1, p2, p4⟩ := hs.out.1
      have hll := lst_len s c
      go_upto_region 5 with fail
      have xG := cG.out wr hbwH.out c hlt
      obtain ⟨v, hv⟩ : ∃ v, Hid (RingD F.fn c v) := ⟨sp c, hsp c hlt⟩
      have xG2 : Calls Tryd.prog 42 #[M.val, .int .i64 f, .int .i64 (c : Int)] wr fun e w' => e = .returned (.bool v) ∧ Below wr.heap.size wr w' := xG.mono fun e w' ⟨b, h1, h2, h3⟩ => ⟨by rw [h1, ringD_same (show RingD F.fn c b from h2) hv.out], h3⟩
      clear xG
      have hco : Hid (lst (fun b => if b = c then v else s b) c = lst s c) := lst_congr c fun k hk => by (show (if k = c then v else s k) = s k; rw [if_neg (by omega)])
      have hmore : Hid (lst (fun b => if b = c then v else s b) (c + 1) = lst s c ++ (if v = true then [(c : Int)] else [])) := by (show lst (fun b => if b = c then v else s b) c ++ (if (if c = c then v else s c) = true then [(c : Int)] else []) = _; rw [hco.out, if_pos rfl])
      have hrn : Hid (∀ k, k < c + 1 → RingD F.fn k (if k = c then v else s k)) := fun k hk => by
        by_cases e : k = c
        · rw [if_pos e, e]; exact hv.out
        · rw [if_neg e]; exact hs.out.2.2 k (by omega)
      have hs2 : Hid (BoxP wr w.heap.size M ∧ LsS V (lst s c) va vc wr) := ⟨hs.out.1, hs.out.2.1⟩
      clear hco hv hs
      generalize lst s c = L at *
      cases v with
      | true =>
        have hN : Hid (lst (fun b => if b = c then true else s b) (c + 1) = L ++ [(c : Int)]) := hmore.out
        go_wp2_with (first
          | (go_at_call 42; (with_reducible refine xG2.mono ?_); rintro e w3 ⟨rfl, hb3⟩; clear xG2 p0 p1 p2 p3 p4 q2 fx; (have hs3 : Hid (BoxP w3 w.heap.size M ∧ LsS V L va vc w3) := ⟨hs2.out.1.later hb3, hs2.out.2.later hb3⟩); clear hb3)
          | (at_builtin; (refine wpList_app1 rfl (.tmp 22) (.tmp 24) 23 rfl V.heap.size 3 iN _ 1 8 Tryd.underlying23 hiN.out hzN.out hsN.out hbN.out rfl (by decide) va vc (L.map chCells) (by rw [List.length_map]; rfl) hs3.out.2.ow (chCells (c : Int)) rfl rfl (one1u _) (by rw [List.length_map]; unfold maxLen; omega) (by rw [List.length_map]; omega) hs3.out.2.be.size ?_); intro va' vc' w4 hg; rw [List.length_map]; (have hs4 : Hid (BoxP w4 w.heap.size M ∧ LsS V (L ++ [(c : Int)]) va' vc' w4) := ⟨boxP_keep hs3.out.1 ((below_min hs3.out.2.be hs3.out.2.be.size hg.be).block _ hVl.out.1) (hs3.out.2.be.block _ hVl.out.1), hs3.out.2.grown hg⟩); clear hg))
        go_roundw
        case rel => exact ⟨c + 1, _, va', vc', by omega, by go_num, by rw [hN.out, List.length_append]; rfl, hs4.out.1, by rw [hN.out]; exact hs4.out.2, hrn.out⟩
        case measure => simp [intOf]; omega
      | false =>
        have hN : Hid (lst (fun b => if b = c then false else s b) (c + 1) = L) := by (show _ = _; rw [hmore.out]; simp)
        go_wp2_with (first
          | (go_at_call 42; (with_reducible refine xG2.mono ?_); rintro e w3 ⟨rfl, hb3⟩; clear xG2 p0 p1 p2 p3 p4 q2 fx; (have hs3 : Hid (BoxP w3 w.heap.size M ∧ LsS V L va vc w3) := ⟨hs2.out.1.later hb3, hs2.out.2.later hb3⟩); clear hb3))
        go_roundw
        case rel => exact ⟨c + 1, _, va, vc, by omega, by go_num, by rw [hN.out], hs3.out.1, by rw [hN.out]; exact hs3.out.2, hrn.out⟩
        case measure => simp [intOf]; omega
    · have hce : c = F.code.length := by omega
      have hcI : ¬ (c : Int) < F.code.length := by omega
      go_wp2
      go_ret
      exact ⟨s, va, vc, by rw [← hce]; rfl, fun k hk => hs.out.2.2 k (by omega), by rw [← hce]; exact hs.out.2.1.rows, hbwH.out⟩
end Go.Proofs.YtlcljdldhajkiaaDoor.pg
/- The document's Heads. -/
namespace Go.Proofs.YtlcljdldhajkiaaDoor.pg
open Go.ChangeShapes Go.WideShapes Go.ChangeAt Go.RowKit Go.Shelf
set_option linter.unusedVariables false
set_option linter.unusedSimpArgs false
set_option maxRecDepth 100000
def isH (op : Int) : Bool := op == 42 || op == 43 || op == 61 || op == 45
theorem isH_of {op : Int} (h : isH op = true) : op = 42 ∨ op = 43 ∨ op = 61 ∨ op = 45 := by
  unfold isH at h
  simp only [Bool.or_eq_true, beq_iff_eq] at h
  rcases h with ((h | h) | h) | h
  · exact .inl h
  · exact .inr (.inl h)
  · exact .inr (.inr (.inl h))
  · exact .inr (.inr (.inr h))
theorem isH_no {op : Int} (h : ¬ isH op = true) (k : Int) (hk : k ∈ [42, 43, 61, 45]) : (op != k) = true := by
  unfold isH at h
  simp only [Bool.or_eq_true, beq_iff_eq, not_or] at h
  simp only [List.mem_cons, List.not_mem_nil, or_false] at hk
  rw [bne_iff_ne]
  rcases hk with rfl | rfl | rfl | rfl
  · exact h.1.1.1
  · exact h.1.1.2
  · exact h.1.2
  · exact h.2
/-- Where stretches begin. -/
def hdM (f : Fn) (c : Nat) (x : Int) : Prop := x = 0 ∨ ∃ k, k < c ∧ isH (insAt f.code k).op = true ∧ ((k + 1 < f.code.length ∧ x = (k : Int) + 1) ∨ x ∈ nxt f k)
theorem hdM_more {f : Fn} {c : Nat} (h : isH (insAt f.code c).op = true) (x : Int) : hdM f (c + 1) x ↔ hdM f c x ∨ (c + 1 < f.code.length ∧ x = (c : Int) + 1) ∨ x ∈ nxt f c := by
  unfold hdM
  constructor
  · rintro (q | ⟨k, hk, h1, h2⟩)
    · exact .inl (.inl q)
    · by_cases e : k = c
      · subst e; exact .inr h2
      · exact .inl (.inr ⟨k, by omega, h1, h2⟩)
  · rintro ((q | ⟨k, hk, h1, h2⟩) | q)
    · exact .inl q
    · exact .inr ⟨k, by omega, h1, h2⟩
    · exact .inr ⟨c, by omega, h, q⟩
theorem hdM_same {f : Fn} {c : Nat} (h : isH (insAt f.code c).op = false) (x : Int) : hdM f (c + 1) x ↔ hdM f c x := by
  unfold hdM
  constructor
  · rintro (q | ⟨k, hk, h1, h2⟩)
    · exact .inl q
    · by_cases e : k = c
      · subst e; rw [h] at h1; cases h1
      · exact .inr ⟨k, by omega, h1, h2⟩
  · rintro (q | ⟨k, hk, h1, h2⟩)
    · exact .inl q
    · exact .inr ⟨k, by omega, h1, h2⟩
theorem hdM_bd {f : Fn} (hf : FlowF f) {c : Nat} (hc : c ≤ f.code.length) {x : Int} (h : hdM f c x) : 0 ≤ x ∧ x < 64 := by
  have h64 := hf.l64
  rcases h with rfl | ⟨k, hk, _, ⟨h1, rfl⟩ | h2⟩
  · omega
  · omega
  · have := hf.n k (by omega) x h2; omega
structure HdS (w W : World) (M : MPr) (F : MFn) (L : List Int) (va : Option Addr) (vc : Nat) (Pd : Int → Prop) : Prop where
  b : Below w.heap.size w W
  p : BoxP W w.heap.size M
  r : Rows W 1 va vc (L.map chCells)
  s : Ris L
  m : ∀ x, x ∈ L ↔ Pd x
theorem HdS.later {w W W' : World} {M : MPr} {F : MFn} {L : List Int} {va : Option Addr} {vc : Nat} {p : Int → Prop} (h : HdS w W M F L va vc p) (hb : Below W.heap.size W W') : HdS w W' M F L va vc p := ⟨bthen h.b hb, h.p.later hb, h.r.later hb, h.s, h.m⟩
theorem HdS.iff {w W : World} {M : MPr} {F : MFn} {L : List Int} {va : Option Addr} {vc : Nat} {p q : Int → Prop} (h : HdS w W M F L va vc p) (e : ∀ x, p x ↔ q x) : HdS w W M F L va vc q := ⟨h.b, h.p, h.r, h.s, fun x => (h.m x).trans (e x)⟩
theorem HdS.put {w W W' : World} {M : MPr} {F : MFn} {L : List Int} {va va' : Option Addr} {vc vc' : Nat} {p q : Int → Prop} {y : Int} (h : HdS w W M F L va vc p) (ha : LsS W (putL L y) va' vc' W') (e : ∀ x, p x ∨ x = y ↔ q x) : HdS w W' M F (putL L y) va' vc' q := ⟨bthen h.b ha.be, h.p.later ha.be, ha.rows, putL_ris h.s y, fun x => by rw [putL_mem h.s, h.m x]; exact e x⟩
theorem HdS.len {w W : World} {M : MPr} {F : MFn} {L : List Int} {va : Option Addr} {vc : Nat} {p : Int → Prop} (h : HdS w W M F L va vc p) (hf : FlowF F.fn) (hb : ∀ x, p x → 0 ≤ x ∧ x < 64) : L.length ≤ 1000 := by
  have e : L = lst (fun k => decide ((k : Int) ∈ L)) 64 := ris_ext h.s (lst_ris _ _) fun x => by
    rw [lst_mem]
    constructor
    · intro hx
      have := hb x ((h.m x).mp hx)
      exact ⟨x.toNat, by omega, by rw [decide_eq_true_eq, show ((x.toNat : Nat) : Int) = x by omega]; exact hx, by omega⟩
    · rintro ⟨k, _, h2, rfl⟩
      exact of_decide_eq_true h2
  rw [e]
  have := lst_len (fun k => decide ((k : Int) ∈ L)) 64
  omega
set_option maxHeartbeats 8000000 in
theorem rHeads_any (M : MPr) (f : Int) (w : World) (hM : M.lies w) (F : MFn) (hFi : M.fns[f.toNat]? = some F) (hfl : FlowF F.fn) (f0 : 0 ≤ f) :
    Calls Tryd.prog 22 #[M.val, .int .i64 f] w fun e w' => ∃ L va vc, e = .returned (.slice va L.length vc) ∧ Ris L ∧ (∀ x, x ∈ L ↔ hdM F.fn F.fn.code.length x) ∧ Rows w' 1 va vc (L.map chCells) ∧ Below w.heap.size w w' := by
  have hb := boxed w (objP M)
  have bP := boxP_new w M
  have hMH : Hid (M.lies w) := hM
  have hflH : Hid (FlowF F.fn) := hfl
  have hl64 : (F.code.length : Int) ≤ 64 := by (have := hfl.l64; have h : F.fn.code.length = F.code.length := rfl; omega)
  have hFm := List.mem_of_getElem? hFi
  have hlF : Hid (F.lies w) := hM.2.2.2.2.2.2 F hFm
  obtain ⟨fb, fo, fx, fl, q0, q1, q2, q3⟩ := fn_ix (hM.later hb).2.2.1 f.toNat F hFi
  rw [show ((f.toNat : Nat) : Int) = f by omega] at fx
  have p3 := bP.2.2.2
  have hV : Hid (Below w.heap.size w (w.alloc (objP M)) ∧ BoxP (w.alloc (objP M)) w.heap.size M) := ⟨hb, bP⟩
  have cN : Hid (∀ V, Below w.heap.size w V → ∀ k : Nat, k < F.code.length → Calls Tryd.prog 44 #[M.val, .int .i64 f, .int .i64 (k : Int)] V _) := fun V hV k hk => rnext_any M f k V (hMH.out.later hV) F hFi hfl f0 hk
  have x0 : Calls Tryd.prog 43 #[.slice none 0 0, .int .i64 0] (w.alloc (objP M)) fun e w' => ∃ va vc, e = .returned (.slice va (putL [] 0).length vc) ∧ LsS (w.alloc (objP M)) (putL [] 0) va vc w' := put_any [] 0 none 0 _ (rows_none _) (by simp)
  clear hM hb bP hfl q0 q1 q3 fl hFi hFm
  go_enter Tryd.func22, Tryd.ntmps22
  go_wp2_with (go_at_call 43; (with_reducible refine x0.mono ?_); rintro e w2 ⟨va, vc, rfl, h2⟩)
  have s0 : Hid (HdS w w2 M F (putL [] 0) va vc (hdM F.fn 0)) := ⟨bthen hV.out.1 h2.be, hV.out.2.later h2.be, h2.rows, putL_ris (l := []) (by simp [Ris]) 0, fun x => by rw [putL_mem (l := []) (by simp [Ris])]; unfold hdM; constructor; (intro q; rcases q with q | q; (simp at q); exact .inl q); (intro q; rcases q with q | ⟨k, hk, _⟩; exact .inr q; exact absurd hk (Nat.not_lt_zero _))⟩
  clear x0 h2 hV p3 fx q2
  go_loopw [6, 7] (fun o u wr => ∃ (c : Nat) (L : List Int) (va : Option Addr) (vc : Nat), c ≤ F.code.length ∧ u = .int .i64 (c : Int) ∧ o = .slice va L.length vc ∧ Hid (HdS w wr M F L va vc (hdM F.fn c))) (fun _ u _ => F.code.length - (intOf u).toNat)
  case atStart => exact ⟨0, _, va, vc, Nat.zero_le _, rfl, rfl, s0.out⟩
  case round =>
    clear s0
    obtain ⟨c, L, va, vc, hc, rfl, rfl, hs⟩ := hrel
    by_cases hlt : c < F.code.length
    · have hcI : (c : Int) < F.code.length := by omega
      obtain ⟨m1, m2⟩ := insAt_mem (code := F.code) (pc := (c : Int)) (by omega) (by omega)
      rw [Int.toNat_natCast] at m1
      obtain ⟨ib, io, hix, hib, i0, i1, i2, i3, i4⟩ := ins_ix (hlF.out.later hs.out.b).1 c _ m1
      clear i1 i2 i3 i4 hib m1 m2
      obtain ⟨op, hop⟩ : ∃ op, Hid ((insAt F.code c).op = op) := ⟨_, rfl⟩
      rw [hop.out] at i0
      by_cases hh : isH op = true
      · have hhH : Hid (isH (insAt F.fn.code c).op = true) := (by (rw [show (insAt F.fn.code c).op = op from hop.out]; exact hh))
        have hdn : Hid (∀ x, hdM F.fn (c + 1) x ↔ hdM F.fn c x ∨ (c + 1 < F.code.length ∧ x = (c : Int) + 1) ∨ x ∈ nxt F.fn c) := fun x => hdM_more hhH.out x
        have hLl := hs.out.len hflH.out (fun x hx => hdM_bd hflH.out (by show c ≤ F.code.length; omega) hx)
        have xN := cN.out
        by_cases hl : c + 1 < F.code.length
        · have hlI : (c : Int) + 1 < F.code.length := by omega
          have hpw : wrap64 ((c : Int) + 1) = (c : Int) + 1 := by unfold wrap64; omega
          have xP := put_any L ((c : Int) + 1) va vc wr hs.out.r hLl
          rcases isH_of hh with h | h | h | h
          all_goals
            subst h
            go_upto_region 11 with (first
              | (go_at_call 43; (with_reducible refine xP.mono ?_); rintro e w3 ⟨va3, vc3, rfl, h3⟩; (have hs3 : Hid (HdS w w3 M F (putL L ((c : Int) + 1)) va3 vc3 (fun x => hdM F.fn c x ∨ (c + 1 < F.code.length ∧ x = (c : Int) + 1))) := hs.out.put h3 (fun x => by simp [hl])); clear h3 xP i0 hix; (have pp := hs3.out.p); obtain ⟨p0, p1, p2, p3⟩ := pp; (have xM := xN w3 hs3.out.b c hlt))
              | (go_at_call 44; (with_reducible refine xM.mono ?_); rintro e w4 ⟨na, nc, rfl, h4⟩; (have hs4 : Hid (HdS w w4 M F (putL L ((c : Int) + 1)) va3 vc3 (fun x => hdM F.fn c x ∨ (c + 1 < F.code.length ∧ x = (c : Int) + 1)) ∧ Rows w4 1 na nc ((putAll [] (nxt F.fn c)).map chCells)) := ⟨hs3.out.later h4.be, h4.rows⟩); clear h4 xM p0 p1 p2 p3 hs3))
            generalize putL L ((c : Int) + 1) = L4 at *
            have hXl : (putAll [] (nxt F.fn c)).length ≤ 63 := nxt_small hflH.out c hlt
            have hXm : Hid (∀ x, x ∈ putAll [] (nxt F.fn c) ↔ x ∈ nxt F.fn c) := fun x => by rw [putAll_mem _ [] (by simp [Ris])]; simp
            generalize putAll [] (nxt F.fn c) = X at *
            go_wp2_with fail
            go_loopw [6, 10] (fun o u wr => ∃ (j : Nat) (L : List Int) (va : Option Addr) (vc : Nat), j ≤ X.length ∧ u = .int .i64 (j : Int) ∧ o = .slice va L.length vc ∧ Hid (HdS w wr M F L va vc (fun x => (hdM F.fn c x ∨ (c + 1 < F.code.length ∧ x = (c : Int) + 1)) ∨ x ∈ X.take j) ∧ Rows wr 1 na nc (X.map chCells))) (fun _ u _ => X.length - (intOf u).toNat)
            case atStart => exact ⟨0, L4, _, _, Nat.zero_le _, rfl, rfl, hs4.out.1.iff (fun x => by simp), hs4.out.2⟩
            case round =>
              clear hs4
              obtain ⟨j, L5, va5, vc5, hj, rfl, rfl, hq⟩ := hrel
              by_cases hjl : j < X.length
              · obtain ⟨y, hy, hym⟩ := get_lt X j hjl
                obtain ⟨b1, o1, hix1, hbl1, c1⟩ := ch_ix hq.out.2 j y hy
                have hjI : (j : Int) < X.length := by omega
                have hL5 := hq.out.1.len hflH.out (fun x hx => by
                  rcases hx with (hx | ⟨hx, rfl⟩) | hx
                  · exact hdM_bd hflH.out (by show c ≤ F.code.length; omega) hx
                  · omega
                  · have h1 := hflH.out.n c hlt x ((hXm.out x).mp (List.mem_of_mem_take hx)); have h2 := hflH.out.l64; omega)
                have xQ := put_any L5 y va5 vc5 wr hq.out.1.r hL5
                have hstep : Hid (∀ x, ((hdM F.fn c x ∨ (c + 1 < F.code.length ∧ x = (c : Int) + 1)) ∨ x ∈ X.take j) ∨ x = y ↔ (hdM F.fn c x ∨ (c + 1 < F.code.length ∧ x = (c : Int) + 1)) ∨ x ∈ X.take (j + 1)) := fun x => by rw [take_oneQ X j y hy, List.mem_append, List.mem_singleton, or_assoc]
                clear hy hym hbl1
                go_wp2_with (go_at_call 43; (with_reducible refine xQ.mono ?_); rintro e w6 ⟨va6, vc6, rfl, h6⟩; (have hs6 : Hid (HdS w w6 M F (putL L5 y) va6 vc6 (fun x => (hdM F.fn c x ∨ (c + 1 < F.code.length ∧ x = (c : Int) + 1)) ∨ x ∈ X.take (j + 1)) ∧ Rows w6 1 na nc (X.map chCells)) := ⟨hq.out.1.put h6 (fun x => hstep.out x), hq.out.2.later h6.be⟩); clear h6 xQ)
                go_roundw
                case rel => exact ⟨j + 1, _, va6, vc6, by omega, by go_num, rfl, hs6.out⟩
                case measure => simp [intOf]; omega
              · have hje : j = X.length := by omega
                have hjI : ¬ ((j : Int) < X.length) := by omega
                have hfin : Hid (HdS w wr M F L5 va5 vc5 (hdM F.fn (c + 1))) := hq.out.1.iff (fun x => by rw [hdn.out x, hje, List.take_length, hXm.out x, or_assoc])
                clear hq
                go_wp2
                go_roundw
                case rel => exact ⟨c + 1, L5, va5, vc5, by omega, by go_num, rfl, hfin.out⟩
                case measure => simp [intOf]; omega
        · have hlI : ¬ ((c : Int) + 1 < F.code.length) := by omega
          have hpw : wrap64 ((c : Int) + 1) = (c : Int) + 1 := by unfold wrap64; omega
          have hs3 : Hid (HdS w wr M F L va vc (fun x => hdM F.fn c x ∨ (c + 1 < F.code.length ∧ x = (c : Int) + 1))) := hs.out.iff (fun x => by simp [hl])
          obtain ⟨p0, p1, p2, p3⟩ := hs.out.p
          have xM := xN wr hs.out.b c hlt
          rcases isH_of hh with h | h | h | h
          all_goals
            subst h
            go_upto_region 11 with (first
              | (go_at_call 44; (with_reducible refine xM.mono ?_); rintro e w4 ⟨na, nc, rfl, h4⟩; (have hs4 : Hid (HdS w w4 M F L va vc (fun x => hdM F.fn c x ∨ (c + 1 < F.code.length ∧ x = (c : Int) + 1)) ∧ Rows w4 1 na nc ((putAll [] (nxt F.fn c)).map chCells)) := ⟨hs3.out.later h4.be, h4.rows⟩); clear h4 xM p0 p1 p2 p3 hs3 i0 hix))
            generalize L = L4 at *
            have hXl : (putAll [] (nxt F.fn c)).length ≤ 63 := nxt_small hflH.out c hlt
            have hXm : Hid (∀ x, x ∈ putAll [] (nxt F.fn c) ↔ x ∈ nxt F.fn c) := fun x => by rw [putAll_mem _ [] (by simp [Ris])]; simp
            generalize putAll [] (nxt F.fn c) = X at *
            go_wp2_with fail
            go_loopw [6, 10] (fun o u wr => ∃ (j : Nat) (L : List Int) (va : Option Addr) (vc : Nat), j ≤ X.length ∧ u = .int .i64 (j : Int) ∧ o = .slice va L.length vc ∧ Hid (HdS w wr M F L va vc (fun x => (hdM F.fn c x ∨ (c + 1 < F.code.length ∧ x = (c : Int) + 1)) ∨ x ∈ X.take j) ∧ Rows wr 1 na nc (X.map chCells))) (fun _ u _ => X.length - (intOf u).toNat)
            case atStart => exact ⟨0, L4, _, _, Nat.zero_le _, rfl, rfl, hs4.out.1.iff (fun x => by simp), hs4.out.2⟩
            case round =>
              clear hs4
              obtain ⟨j, L5, va5, vc5, hj, rfl, rfl, hq⟩ := hrel
              by_cases hjl : j < X.length
              · obtain ⟨y, hy, hym⟩ := get_lt X j hjl
                obtain ⟨b1, o1, hix1, hbl1, c1⟩ := ch_ix hq.out.2 j y hy
                have hjI : (j : Int) < X.length := by omega
                have hL5 := hq.out.1.len hflH.out (fun x hx => by
                  rcases hx with (hx | ⟨hx, rfl⟩) | hx
                  · exact hdM_bd hflH.out (by show c ≤ F.code.length; omega) hx
                  · omega
                  · have h1 := hflH.out.n c hlt x ((hXm.out x).mp (List.mem_of_mem_take hx)); have h2 := hflH.out.l64; omega)
                have xQ := put_any L5 y va5 vc5 wr hq.out.1.r hL5
                have hstep : Hid (∀ x, ((hdM F.fn c x ∨ (c + 1 < F.code.length ∧ x = (c : Int) + 1)) ∨ x ∈ X.take j) ∨ x = y ↔ (hdM F.fn c x ∨ (c + 1 < F.code.length ∧ x = (c : Int) + 1)) ∨ x ∈ X.take (j + 1)) := fun x => by rw [take_oneQ X j y hy, List.mem_append, List.mem_singleton, or_assoc]
                clear hy hym hbl1
                go_wp2_with (go_at_call 43; (with_reducible refine xQ.mono ?_); rintro e w6 ⟨va6, vc6, rfl, h6⟩; (have hs6 : Hid (HdS w w6 M F (putL L5 y) va6 vc6 (fun x => (hdM F.fn c x ∨ (c + 1 < F.code.length ∧ x = (c : Int) + 1)) ∨ x ∈ X.take (j + 1)) ∧ Rows w6 1 na nc (X.map chCells)) := ⟨hq.out.1.put h6 (fun x => hstep.out x), hq.out.2.later h6.be⟩); clear h6 xQ)
                go_roundw
                case rel => exact ⟨j + 1, _, va6, vc6, by omega, by go_num, rfl, hs6.out⟩
                case measure => simp [intOf]; omega
              · have hje : j = X.length := by omega
                have hjI : ¬ ((j : Int) < X.length) := by omega
                have hfin : Hid (HdS w wr M F L5 va5 vc5 (hdM F.fn (c + 1))) := hq.out.1.iff (fun x => by rw [hdn.out x, hje, List.take_length, hXm.out x, or_assoc])
                clear hq
                go_wp2
                go_roundw
                case rel => exact ⟨c + 1, L5, va5, vc5, by omega, by go_num, rfl, hfin.out⟩
                case measure => simp [intOf]; omega
      · have hhH : Hid (isH (insAt F.fn.code c).op = false) := (by (rw [show (insAt F.fn.code c).op = op from hop.out]; exact Bool.eq_false_iff.mpr hh))
        have hdn : Hid (HdS w wr M F L va vc (hdM F.fn (c + 1))) := hs.out.iff (fun x => (hdM_same hhH.out x).symm)
        have d42 : (op != 42) = true := isH_no hh 42 (by simp)
        have d43 : (op != 43) = true := isH_no hh 43 (by simp)
        have d61 : (op != 61) = true := isH_no hh 61 (by simp)
        have d45 : (op != 45) = true := isH_no hh 45 (by simp)
        clear hs
        go_wp2
        go_roundw
        case rel => exact ⟨c + 1, L, va, vc, by omega, by go_num, rfl, hdn.out⟩
        case measure => simp [intOf]; omega
    · have hce : c = F.code.length := by omega
      have hcI : ¬ (c : Int) < F.code.length := by omega
      go_wp2
      go_ret
      exact ⟨L, va, vc, rfl, hs.out.s, fun x => by rw [hs.out.m x, hce]; rfl, hs.out.r, hs.out.b⟩
end Go.Proofs.YtlcljdldhajkiaaDoor.pg
/- Package flow's Heads. -/
namespace Go.Proofs.YtlcljdldhajkiaaDoor.pg
open Go.ChangeShapes Go.WideShapes Go.ChangeAt Go.RowKit Go.Shelf
set_option linter.unusedVariables false
set_option linter.unusedSimpArgs false
set_option maxRecDepth 100000
attribute [local go_sem] Oper.semAt_some
theorem built0 : (Tryd.prog.built 65 [(0, Value.bool true)]) = some (boolRow 64 (onePl 0)) := by kernel_rfl
theorem wpList_bld0 {ops : Array Oper} {rest : List Oper} {o : Oper} {a : Act} {w : World} {Q : Exit → Act → World → Prop} (hg : o.guard = none) (ho : o.op = .build 65 #[(0, .const (.bool true))])
    (h : wpList Tryd.prog ops Q rest (a.put o.dst (.agg (boolRow 64 (onePl 0)))) w) : wpList Tryd.prog ops Q (o :: rest) a w := by
  refine wpList_build hg 65 #[(0, .const (.bool true))] ho ?_ ?_
  · simp [Act.eval, built0]
  · simpa [Act.eval, built0] using h
theorem own_keepD {n lo e k cap : Nat} {a : Option Addr} {L : List (List Value)} {W W' : World} (h : OwnL W lo e k a cap L) (hk : KeepD n W W') : OwnL W' lo e k a cap L := own_keep h fun g hg => by
  rcases h.2 with ⟨q, _⟩ | ⟨g', cap', cur, q, _, hc, _⟩
  · simp only [Value.slice.injEq] at q
    rw [q.1] at hg
    simp [blk] at hg
  · simp only [Value.slice.injEq] at q
    rw [q.1] at hg
    simp only [blk, List.mem_singleton] at hg
    subst hg
    exact (hk.c _ _ _ _ hc).trans hc.symm
/-- Where all lies while the beginnings are gathered. -/
structure HG (w W : World) (F : MFn) (FB : Nat) (h : Nat → Bool) (Ds : List Nat) : Prop where
  b : Below w.heap.size w W
  f : W.heap[FB]? = some (objFn F)
  s : W.heap[FB + 1]? = some (objPl h)
  l1 : w.heap.size < FB
  m : Marks w.heap.size Ds W
theorem HG.lt {w W : World} {F : MFn} {FB : Nat} {h : Nat → Bool} {Ds : List Nat} (q : HG w W F FB h Ds) : FB + 1 < W.heap.size := (Array.getElem?_eq_some_iff.mp q.s).1
theorem HG.later {w W W' : World} {F : MFn} {FB : Nat} {h : Nat → Bool} {Ds : List Nat} (q : HG w W F FB h Ds) (hb : Below W.heap.size W W') : HG w W' F FB h Ds :=
  ⟨bthen q.b hb, (hb.block _ (by have := q.lt; omega)).trans q.f, (hb.block _ q.lt).trans q.s, q.l1, q.m.later hb⟩
theorem HG.put {w W : World} {F : MFn} {FB n : Nat} {h h' : Nat → Bool} {Ds : List Nat} (q : HG w W F FB h Ds) (e : boolRow 64 (fun b => if b = n then true else h b) = boolRow 64 h') :
    HG w (W.setCell ⟨FB + 1, n, none⟩ (.bool true)) F FB h' Ds ∧ KeepC w.heap.size (FB + 1) W (W.setCell ⟨FB + 1, n, none⟩ (.bool true)) := by
  have hk : ∀ b, b ≠ FB + 1 → (W.setCell ⟨FB + 1, n, none⟩ (.bool true)).heap[b]? = W.heap[b]? := fun b h => Below.heap_setCell _ _ _ _ h
  have hl := q.l1
  have hb : Below w.heap.size W (W.setCell ⟨FB + 1, n, none⟩ (.bool true)) := (Below.refl _ W).setCell (p := ⟨FB + 1, n, none⟩) (by show w.heap.size ≤ FB + 1; omega) _
  refine ⟨⟨q.b.trans hb, (hk _ (by omega)).trans q.f, ?_, q.l1, q.m.keep fun D hD => hk D fun e => ?_⟩, ⟨hb, fun b cs t z hb' e => (hk b hb').trans e⟩⟩
  · rw [setCell_eq_setRow W (FB + 1) n _ _ _ _ q.s, boolRow_set, setRow_heap W (FB + 1) _ _ _ _ q.s, e]
  · have := (q.m.at_ D hD).2
    rw [e, q.s] at this
    cases this
/-- Which places are marked when those below k have been looked at. -/
def HdK (f : Fn) (k : Nat) (h : Nat → Bool) : Prop := ∀ b : Nat, b < 64 → (h b = true ↔ hdM f k (b : Int))
theorem hdK_zero (f : Fn) : HdK f 0 (onePl 0) := fun b _ => by
  unfold onePl hdM
  constructor
  · intro q
    left
    have := of_decide_eq_true q
    omega
  · rintro (q | ⟨k, hk, _⟩)
    · have : b = 0 := by omega
      subst this
      rfl
    · exact absurd hk (Nat.not_lt_zero _)
theorem hdK_same {f : Fn} {k : Nat} {h : Nat → Bool} (q : HdK f k h) (e : isH (insAt f.code k).op = false) : HdK f (k + 1) h := fun b hb => (q b hb).trans (hdM_same e _).symm
theorem hdK_more {f : Fn} {k : Nat} {h : Nat → Bool} (q : HdK f k h) (e : isH (insAt f.code k).op = true) (hl : ¬ k + 1 < f.code.length) : HdK f (k + 1) (puts h (nxt f k)) := fun b hb => by
  rw [hdM_more e]
  unfold puts
  rw [Bool.or_eq_true, q b hb, decide_eq_true_eq]
  constructor
  · rintro (h | h)
    · exact .inl h
    · exact .inr (.inr h)
  · rintro (h | ⟨h, _⟩ | h)
    · exact .inl h
    · exact absurd h hl
    · exact .inr h
theorem hdK_more1 {f : Fn} {k : Nat} {h : Nat → Bool} (q : HdK f k h) (e : isH (insAt f.code k).op = true) (hl : k + 1 < f.code.length) : HdK f (k + 1) (fun b => if b = k + 1 then true else puts h (nxt f k) b) := fun b hb => by
  rw [hdM_more e]
  show (if b = k + 1 then true else puts h (nxt f k) b) = true ↔ _
  by_cases c : b = k + 1
  · rw [if_pos c]
    simp only [true_iff]
    right; left
    exact ⟨hl, by omega⟩
  · rw [if_neg c]
    unfold puts
    rw [Bool.or_eq_true, q b hb, decide_eq_true_eq]
    constructor
    · rintro (h | h)
      · exact .inl h
      · exact .inr (.inr h)
    · rintro (h | ⟨_, h⟩ | h)
      · exact .inl h
      · omega
      · exact .inr h
def hHT (F : MFn) (FB k : Nat) (u0 u1 u2 u3 u4 u5 u6 u9 u10 u11 u12 u13 u14 u15 u16 u17 u18 u19 u20 u21 u22 u23 u24 u28 u29 u30 u31 u32 u33 u34 u35 u36 u37 u38 u39 u40 u41 u42 u43 u44 u45 u46 u47 u48 u49 u50 u51 u52 u53 u54 u55 u56 : Value) (d : List Deferred) : Act := { tmps := #[u0, u1, u2, u3, u4, u5, u6, .pointer (some ⟨FB, 0, none⟩), .pointer (some ⟨FB + 1, 0, none⟩), u9, u10, u11, u12, u13, u14, u15, u16, u17, u18, u19, u20, u21, u22, u23, u24, .slice F.ca F.code.length F.ccap, .int .i64 F.code.length, .int .i64 (k : Int), u28, u29, u30, u31, u32, u33, u34, u35, u36, u37, u38, u39, u40, u41, u42, u43, u44, u45, u46, u47, u48, u49, u50, u51, u52, u53, u54, u55, u56], defers := d }
set_option maxHeartbeats 8000000 in
theorem fheads_ok (M : MPr) (f : Int) (w : World) (hM : M.lies w) (hPF : prog.Forms w) (F : MFn) (hFi : M.fns[f.toNat]? = some F) (hfl : FlowF F.fn) (f0 : 0 ≤ f) (hfit : fitF M.pr f = 0) :
    Calls Tryd.prog 14 #[M.val, .int .i64 f] w fun e w' => ∃ s va vc, e = .returned (.tuple #[.slice va (lst s 64).length vc, .int .i64 0]) ∧ HdK F.fn F.code.length s ∧ Rows w' 1 va vc ((lst s 64).map chCells) ∧ Below w.heap.size w w' := by
  have hb := boxed w (objP M)
  have bP := boxP_new w M
  have bPH : Hid (BoxP (w.alloc (objP M)) w.heap.size M) := bP
  have hbH : Hid (Below w.heap.size w (w.alloc (objP M))) := hb
  have hMH : Hid (M.lies w) := hM
  have hFm := List.mem_of_getElem? hFi
  have hFH : Hid (F.lies w) := hM.2.2.2.2.2.2 F hFm
  have hflH : Hid (FlowF F.fn) := hfl
  have huF : Hid (Tryd.prog.underlying 62 = _) := Tryd.underlying62
  have huP : Hid (Tryd.prog.underlying 65 = _) := Tryd.underlying65
  have hl64 : (F.code.length : Int) ≤ 64 := by (have := hfl.l64; have h : F.fn.code.length = F.code.length := rfl; omega)
  have xC := fcheckFunc_any M f _ (hM.later hb) (hPF.later hb) 0 hfit.symm
  clear hM hPF hb hfit hfl hFm
  refine (callsIn_wide (n := 3)).1 ?_
  refine callsIn_of_wp_marks Tryd.func14 rfl trivial ?_ rfl
  simp only [Tryd.ntmps14, List.size_toArray, List.length_cons, List.length_nil, Nat.reduceAdd, Nat.reduceSub, Array.replicate_succ, Array.replicate_zero, List.push_toArray, List.append_toArray, List.nil_append, List.cons_append]
  refine wpIn_wide.2 ?_
  go_upto_region 4 with (first
    | (go_at_call 34; (with_reducible refine xC.mono ?_); rintro e w2 ⟨rfl, hb2⟩; (have h2 : Hid (Below w.heap.size w w2 ∧ BoxP w2 w.heap.size M) := ⟨bthen hbH.out hb2, bPH.out.later hb2⟩); (have hlw : w.heap.size < w2.heap.size := by (have q1 := hb2.size; rw [World.size_alloc] at q1; omega)); clear bP hb2 xC; (have bP := h2.out.2); obtain ⟨p0, p1, p2, p3⟩ := bP))
  obtain ⟨fb, fo, fx, fl, q0, q1, q2, q3⟩ := fn_ix (hMH.out.later h2.out.1).2.2.1 f.toNat F hFi
  rw [show ((f.toNat : Nat) : Int) = f by omega] at fx
  have hrg : Hid (w2.rangeAt fb fo [.int .i64 F.params, .int .i64 F.regs, .slice F.ca F.code.length F.ccap, .slice F.sa F.sels.length F.scap]) := fun j v hj => by
    match j, hj with
    | 0, hj => cases hj; exact q0
    | 1, hj => cases hj; exact q1
    | 2, hj => cases hj; exact q2
    | 3, hj => cases hj; exact q3
  clear q0 q1 q2 q3 fl
  obtain ⟨n1, n2⟩ := two_new w2 (objFn F) (objPl fun _ => false)
  have n3 := heap_alloc_new (w2.alloc (objFn F)) (objPl fun _ => false)
  have s0 : Hid (HG w (((w2.alloc (objFn F)).alloc (objPl fun _ => false)).setRow (w2.heap.size + 1) (boolRow 64 (onePl 0))) F w2.heap.size (onePl 0) []) := by
    refine ⟨bthen h2.out.1 (below_rowN (boxed2 _ _ _) (by omega)), (setRow_other _ _ _ _ (by omega)).trans n1, setRow_heap _ _ _ _ _ _ n2, hlw, Marks.nil _ _⟩
  go_upto_region 6 with (first
    | ((with_reducible refine at_loadQ 62 _ rfl ?_); refine stopQ_out ?_; refine wpList_load_mid rfl 62 _ rfl fb fo rfl [.int .i64 F.params, .int .i64 F.regs, .slice F.ca F.code.length F.ccap, .slice F.sa F.sels.length F.scap] _ hrg.out huF.out rfl (by kernel_rfl) ?_)
    | ((with_reducible refine at_storeQ 62 _ _ rfl ?_); refine stopQ_out ?_; refine wpList_store_new rfl 62 _ _ rfl rfl _ #[.int .i64 F.params, .int .i64 F.regs, .slice F.ca F.code.length F.ccap, .slice F.sa F.sels.length F.scap] rfl (by kernel_rfl) rfl (by simp [Value.oneCell']) ?_)
    | (refine wpList_bld0 rfl rfl ?_)
    | ((with_reducible refine at_allocQ 65 rfl ?_); refine stopQ_out ?_; refine wpList_alloc_big rfl 65 rfl zeroSt ?_)
    | ((with_reducible refine at_storeQ 65 _ _ rfl ?_); refine stopQ_out ?_; refine wpList_store_row rfl 65 _ _ rfl (w2.alloc (objFn F)).heap.size (boolRow 64 (onePl 0)) rfl rfl _ _ n3 (infoSt _) (by rw [boolRow_size, boolRow_size]) (boolRow_one _ _) ?_))
  try simp only [Act.put, List.getElem_toArray, List.getElem_cons_succ, List.getElem_cons_zero, List.setIfInBounds_toArray, List.set_cons_zero, List.set_cons_succ, World.size_alloc]
  clear p0 p1 p2 p3 hrg fx h2 n1 n2 n3 hlw
  generalize ((w2.alloc (objFn F)).alloc (objPl fun _ => false)).setRow (w2.heap.size + 1) (boolRow 64 (onePl 0)) = V at *
  generalize w2.heap.size = FB at *
  have k2 : V.cell? ⟨FB, 2, none⟩ = some (.slice F.ca F.code.length F.ccap) := cell_ofF s0.out.f rfl
  go_wp2_with fail
  clear k2
  refine wp_loop (fun a' W' => ∃ (k : Nat) (Ds : List Nat) (h : Nat → Bool) (u0 u1 u2 u3 u4 u5 u6 u9 u10 u11 u12 u13 u14 u15 u16 u17 u18 u19 u20 u21 u22 u23 u24 u28 u29 u30 u31 u32 u33 u34 u35 u36 u37 u38 u39 u40 u41 u42 u43 u44 u45 u46 u47 u48 u49 u50 u51 u52 u53 u54 u55 u56 : Value), k ≤ F.code.length ∧ Hid (HG w W' F FB h Ds ∧ HdK F.fn k h) ∧ a' = hHT F FB k u0 u1 u2 u3 u4 u5 u6 u9 u10 u11 u12 u13 u14 u15 u16 u17 u18 u19 u20 u21 u22 u23 u24 u28 u29 u30 u31 u32 u33 u34 u35 u36 u37 u38 u39 u40 u41 u42 u43 u44 u45 u46 u47 u48 u49 u50 u51 u52 u53 u54 u55 u56 (Ds.map mkD)) (fun a' _ => F.code.length - (intOf (a'.tmps.getD 27 undef)).toNat) ?_ ?_
  · exact ⟨0, [], onePl 0, _, _, _, _, _, _, _, _, _, _, _, _, _, _, _, _, _, _, _, _, _, _, _, _, _, _, _, _, _, _, _, _, _, _, _, _, _, _, _, _, _, _, _, _, _, _, _, _, _, _, _, _, Nat.zero_le _, ⟨s0.out, hdK_zero _⟩, rfl⟩
  · rintro a' Y ⟨k, Ds, h, u0, u1, u2, u3, u4, u5, u6, u9, u10, u11, u12, u13, u14, u15, u16, u17, u18, u19, u20, u21, u22, u23, u24, u28, u29, u30, u31, u32, u33, u34, u35, u36, u37, u38, u39, u40, u41, u42, u43, u44, u45, u46, u47, u48, u49, u50, u51, u52, u53, u54, u55, u56, hk, hs, rfl⟩
    clear s0
    unfold hHT
    by_cases hlt : k < F.code.length
    · have hkI : (k : Int) < F.code.length := by omega
      obtain ⟨m1, m2⟩ := insAt_mem (code := F.code) (pc := (k : Int)) (by omega) (by omega)
      rw [Int.toNat_natCast] at m1
      obtain ⟨ib, io, hix, hib, i0, i1, i2, i3, i4⟩ := ins_ix (hFH.out.later hs.out.1.b).1 k _ m1
      have hsameH : Hid (isH (insAt F.code k).op = false → HdK F.fn (k + 1) h) := fun e => hdK_same hs.out.2 e
      have hmoreH : Hid (isH (insAt F.code k).op = true → ¬ k + 1 < F.code.length → HdK F.fn (k + 1) (puts h (nxt F.fn k))) := fun e l => hdK_more hs.out.2 e l
      have hmore1H : Hid (isH (insAt F.code k).op = true → k + 1 < F.code.length → HdK F.fn (k + 1) (fun b => if b = k + 1 then true else puts h (nxt F.fn k) b)) := fun e l => hdK_more1 hs.out.2 e l
      generalize insAt F.code k = i at *
      have hbn := boxed Y (.cells #[.int .i64 i.op, .int .i64 i.a, .int .i64 i.b, .int .i64 i.c, .int .i64 i.n] 70)
      have hCn : (Y.alloc (.cells #[.int .i64 i.op, .int .i64 i.a, .int .i64 i.b, .int .i64 i.c, .int .i64 i.n] 70)).heap[Y.heap.size]? = some (.cells #[.int .i64 i.op, .int .i64 i.a, .int .i64 i.b, .int .i64 i.c, .int .i64 i.n] 70) := heap_alloc_new Y _
      have j0 := cell_ofF (k := 0) (v := .int .i64 i.op) hCn rfl
      have hi2 : Hid (HG w (Y.alloc (.cells #[.int .i64 i.op, .int .i64 i.a, .int .i64 i.b, .int .i64 i.c, .int .i64 i.n] 70)) F FB h Ds) := hs.out.1.later hbn
      have hYl := hs.out.1.lt
      clear hbn hCn hs m1 m2 hib
      by_cases hh : isH i.op = true
      · have l0 := cell_ofF (k := 0) (v := .int .i64 F.params) hi2.out.f rfl
        have l1 := cell_ofF (k := 1) (v := .int .i64 F.regs) hi2.out.f rfl
        have l2 := cell_ofF (k := 2) (v := .slice F.ca F.code.length F.ccap) hi2.out.f rfl
        have l3 := cell_ofF (k := 3) (v := .slice F.sa F.sels.length F.scap) hi2.out.f rfl
        have hto : ∀ x ∈ nxt F.fn k, 0 ≤ x ∧ x < 64 := fun x hx => by have h1 := hflH.out.n k hlt x hx; have h2 := hflH.out.l64; omega
        have cB := behind_any F (k : Int) (Y.alloc (.cells #[.int .i64 i.op, .int .i64 i.a, .int .i64 i.b, .int .i64 i.c, .int .i64 i.n] 70))
        rw [World.size_alloc] at cB
        have hmo : Hid (¬ k + 1 < F.code.length → HdK F.fn (k + 1) (puts h (nxt F.fn k))) := fun l => hmoreH.out hh l
        have hmo1 : Hid (k + 1 < F.code.length → HdK F.fn (k + 1) (fun b => if b = k + 1 then true else puts h (nxt F.fn k) b)) := fun l => hmore1H.out hh l
        clear hsameH hmoreH hmore1H
        rcases isH_of hh with ho | ho | ho | ho
        · have d42 : (i.op == 42) = true := by rw [ho]; rfl
          clear ho hh
          go_wp2_with (first
            | (go_at_call 37; (refine cB.mono ?_); rintro e w1 ⟨rfl, hw1⟩))
          clear l0 l1 l2 l3 cB i0 i1 i2 i3 i4 j0
          have hbW : Below (Y.alloc (.cells #[.int .i64 i.op, .int .i64 i.a, .int .i64 i.b, .int .i64 i.c, .int .i64 i.n] 70)).heap.size (Y.alloc (.cells #[.int .i64 i.op, .int .i64 i.a, .int .i64 i.b, .int .i64 i.c, .int .i64 i.n] 70)) w1 := by rw [hw1]; exact boxed2 _ _ _
          obtain ⟨q1, q2⟩ := two_new (Y.alloc (.cells #[.int .i64 i.op, .int .i64 i.a, .int .i64 i.b, .int .i64 i.c, .int .i64 i.n] 70)) (objFn F) (.cells #[.int .i64 (k : Int)] 3)
          rw [← hw1, World.size_alloc] at q1 q2
          rw [← hw1]
          have hsz : w1.heap.size = Y.heap.size + 1 + 1 + 1 := by rw [hw1]; simp [World.size_alloc]
          have hi1 : HG w w1 F FB h Ds := hi2.out.later hbW
          have hDl : ∀ D ∈ Ds, D < w1.heap.size := fun D hD => hi1.m.lt hD
          have hl1 := hi1.l1
          clear hw1 hi2 hbW
          refine (wpIn_wide (n := 3)).1 ?_
          refine wpIn_rangeFunc_ownG (n := 3) rfl (by omega) (gf := 54) (lb := #[.pointer (some ⟨Y.heap.size + 1, 0, none⟩), .pointer (some ⟨Y.heap.size + 1 + 1, 0, none⟩)]) rfl trivial (enters_of Tryd.func54 (by kernel_rfl) rfl)
            (behind_stops 2 w F hFH.out hflH.out k hlt hto (FB + 1) (Y.heap.size + 1) (Y.heap.size + 1 + 1) w1 hi1.b (by omega) q1 q2 (by omega)) KeepC.trans (keepC_b (by omega)) (Below.refl _ _) (fun _ => rfl)
            (fun pre Z => HG w Z F FB (puts h (pre.map (·.1))) Ds) (fun _ _ _ => False) ?own (fun _ _ _ _ _ hs _ _ => hs) (by rw [List.map_nil, puts_nil]; exact hi1)
            (fun x => { tmps := #[u0, u1, u2, u3, u4, u5, u6, .pointer (some ⟨FB, 0, none⟩), .pointer (some ⟨FB + 1, 0, none⟩), .int .i64 (k : Int), .pointer (some ⟨Y.heap.size, 0, none⟩), .int .i64 x.1, u12, u13, u14, u15, u16, u17, u18, u19, u20, u21, u22, u23, u24, .slice F.ca F.code.length F.ccap, .int .i64 F.code.length, .int .i64 (k : Int), .bool true, .int .i64 (k : Int), .pointer (some ⟨ib, io, none⟩), i.val, .pointer (some ⟨Y.heap.size, 0, none⟩), .int .i64 i.op, .bool true, .bool true, u36, u37, u38, F.val, .int .i64 (k : Int), .func (.func 54) #[] #[.pointer (some ⟨Y.heap.size + 1, 0, none⟩), .pointer (some ⟨Y.heap.size + 1 + 1, 0, none⟩)], .int .i64 x.1, u43, u44, u45, u46, u47, u48, u49, u50, u51, u52, u53, u54, u55, u56], defers := [] }) ?assign ?body ?done ?stop
          case own =>
            rintro pre A B row h1 hgr hr
            have hA := h1.lt
            have hne : ∀ b, b < w1.heap.size → some b ≠ row := fun b hb e => by have := (hr b e.symm).1; omega
            have hbl : Below w.heap.size A B := (Below.refl _ A).grown hgr (by omega) (fun r e => by have := (hr r e).1; omega)
            have hkb : ∀ b, b < w1.heap.size → b < A.heap.size → B.heap[b]? = A.heap[b]? := fun b hb hb2 => hgr.block b hb2 (hne b hb)
            exact ⟨h1.b.trans hbl, (hkb FB (by omega) (by omega)).trans h1.f, (hkb (FB + 1) (by omega) (by omega)).trans h1.s, h1.l1, h1.m.keep fun D hD => hkb D (hDl D hD) (h1.m.lt hD)⟩
          case assign =>
            intro l x Z K hK
            gi_wp2
            exact hK
          case body =>
            rintro l pre x Z h1 _
            obtain ⟨xn, hxn⟩ : ∃ xn : Nat, (xn : Int) = x.1 := ⟨x.1.toNat, by have := x.2.1; omega⟩
            have hx64 : xn < 64 := by have := x.2.2; omega
            have xO := ix_pl (FB + 1) xn hx64
            rw [hxn] at xO
            have cO := cell_ofF (k := xn) (v := .bool (puts h (pre.map (·.1)) xn)) h1.s (boolRow_at hx64)
            have fO : Z.frozen? ⟨FB + 1, xn, none⟩ = false := frozen_of_row _ _ _ _ _ h1.s
            have nx : Hid (∀ W', W' = Z.setCell ⟨FB + 1, xn, none⟩ (.bool true) → KeepsFrom w1.heap.size Z W' ∧ KeepC w.heap.size (FB + 1) Z W' ∧ HG w W' F FB (puts h ((pre ++ [x]).map (·.1))) Ds) := fun W' e => by
              obtain ⟨r1, r2⟩ := h1.put (n := xn) (puts_more hxn)
              rw [e]
              exact ⟨(KeepsOthers.setCell _ _ _).from _, r2, r1⟩
            clear h1
            gi_wp2_with (refine inR_list rfl (by simp) (wpList_putb rfl 4 _ _ rfl ⟨FB + 1, xn, none⟩ rfl true rfl (by kernel_rfl) _ cO fO fun W' hW' => wpList_nil ?_); (have hfin := nx.out W' hW'); clear hW'; show wpListIn (Fence.wide.inRound l) _ _ _ _ _ _ _)
            exact hfin
          case done =>
            rintro D ys Z hD rfl h1 hK
            rw [subL_val] at h1
            have hm : Hid (HG w Z F FB (puts h (nxt F.fn k)) (D :: Ds)) := ⟨h1.b, h1.f, h1.s, h1.l1, h1.m.more (by omega) (fun q => by have := hDl D q; omega) hK⟩
            have z2 := cell_ofF (k := 2) (v := .slice F.ca F.code.length F.ccap) hm.out.f rfl
            clear h1 hK
            have hpw : wrap64 ((k : Int) + 1) = (k : Int) + 1 := by unfold wrap64; omega
            by_cases hl : k + 1 < F.code.length
            · have hlI : (k : Int) + 1 < F.code.length := by omega
              have hk64 : k + 1 < 64 := by omega
              have xO := ix_pl (FB + 1) (k + 1) hk64
              rw [show ((k + 1 : Nat) : Int) = (k : Int) + 1 by omega] at xO
              have cO := cell_ofF (k := k + 1) (v := .bool (puts h (nxt F.fn k) (k + 1))) hm.out.s (boolRow_at hk64)
              have fO : Z.frozen? ⟨FB + 1, k + 1, none⟩ = false := frozen_of_row _ _ _ _ _ hm.out.s
              have nx : Hid (∀ W', W' = Z.setCell ⟨FB + 1, k + 1, none⟩ (.bool true) → HG w W' F FB (fun b => if b = k + 1 then true else puts h (nxt F.fn k) b) (D :: Ds) ∧ HdK F.fn (k + 1) (fun b => if b = k + 1 then true else puts h (nxt F.fn k) b)) := fun W' e => by
                obtain ⟨r1, r2⟩ := hm.out.put (n := k + 1) (h' := fun b => if b = k + 1 then true else puts h (nxt F.fn k) b) rfl
                rw [e]
                exact ⟨r1, hmo1.out hl⟩
              clear hm
              go_wp2_with (first
                | ((with_reducible refine at_storeQ 4 _ _ rfl ?_); refine stopQ_out ?_; refine wpList_putb rfl 4 _ _ rfl ⟨FB + 1, k + 1, none⟩ rfl true rfl (by kernel_rfl) _ cO fO ?_; intro W1 hW1; (have hn : Hid (_ ∧ _) := nx.out W1 hW1); clear hW1 cO fO))
              refine ⟨⟨k + 1, D :: Ds, _, _, _, _, _, _, _, _, _, _, _, _, _, _, _, _, _, _, _, _, _, _, _, _, _, _, _, _, _, _, _, _, _, _, _, _, _, _, _, _, _, _, _, _, _, _, _, _, _, _, _, _, _, by omega, hn, rfl⟩, ?_⟩
              simp [intOf]
              omega
            · have hlI : ¬ ((k : Int) + 1 < F.code.length) := by omega
              have hn : Hid (HG w Z F FB (puts h (nxt F.fn k)) (D :: Ds) ∧ HdK F.fn (k + 1) (puts h (nxt F.fn k))) := ⟨hm.out, hmo.out hl⟩
              clear hm
              go_wp2
              refine ⟨⟨k + 1, by omega, D :: Ds, ⟨_, hn⟩, by omega, rfl⟩, ?_⟩
              simp [intOf]
              omega
          case stop =>
            rintro D c pre Z _ _ h _
            exact h.elim
        · have d42 : (i.op == 42) = false := by rw [ho]; rfl
          have d43 : (i.op == 43) = true := by rw [ho]; rfl
          clear ho hh
          go_wp2_with (first
            | (go_at_call 37; (refine cB.mono ?_); rintro e w1 ⟨rfl, hw1⟩))
          clear l0 l1 l2 l3 cB i0 i1 i2 i3 i4 j0
          have hbW : Below (Y.alloc (.cells #[.int .i64 i.op, .int .i64 i.a, .int .i64 i.b, .int .i64 i.c, .int .i64 i.n] 70)).heap.size (Y.alloc (.cells #[.int .i64 i.op, .int .i64 i.a, .int .i64 i.b, .int .i64 i.c, .int .i64 i.n] 70)) w1 := by rw [hw1]; exact boxed2 _ _ _
          obtain ⟨q1, q2⟩ := two_new (Y.alloc (.cells #[.int .i64 i.op, .int .i64 i.a, .int .i64 i.b, .int .i64 i.c, .int .i64 i.n] 70)) (objFn F) (.cells #[.int .i64 (k : Int)] 3)
          rw [← hw1, World.size_alloc] at q1 q2
          rw [← hw1]
          have hsz : w1.heap.size = Y.heap.size + 1 + 1 + 1 := by rw [hw1]; simp [World.size_alloc]
          have hi1 : HG w w1 F FB h Ds := hi2.out.later hbW
          have hDl : ∀ D ∈ Ds, D < w1.heap.size := fun D hD => hi1.m.lt hD
          have hl1 := hi1.l1
          clear hw1 hi2 hbW
          refine (wpIn_wide (n := 3)).1 ?_
          refine wpIn_rangeFunc_ownG (n := 3) rfl (by omega) (gf := 54) (lb := #[.pointer (some ⟨Y.heap.size + 1, 0, none⟩), .pointer (some ⟨Y.heap.size + 1 + 1, 0, none⟩)]) rfl trivial (enters_of Tryd.func54 (by kernel_rfl) rfl)
            (behind_stops 2 w F hFH.out hflH.out k hlt hto (FB + 1) (Y.heap.size + 1) (Y.heap.size + 1 + 1) w1 hi1.b (by omega) q1 q2 (by omega)) KeepC.trans (keepC_b (by omega)) (Below.refl _ _) (fun _ => rfl)
            (fun pre Z => HG w Z F FB (puts h (pre.map (·.1))) Ds) (fun _ _ _ => False) ?own (fun _ _ _ _ _ hs _ _ => hs) (by rw [List.map_nil, puts_nil]; exact hi1)
            (fun x => { tmps := #[u0, u1, u2, u3, u4, u5, u6, .pointer (some ⟨FB, 0, none⟩), .pointer (some ⟨FB + 1, 0, none⟩), .int .i64 (k : Int), .pointer (some ⟨Y.heap.size, 0, none⟩), .int .i64 x.1, u12, u13, u14, u15, u16, u17, u18, u19, u20, u21, u22, u23, u24, .slice F.ca F.code.length F.ccap, .int .i64 F.code.length, .int .i64 (k : Int), .bool true, .int .i64 (k : Int), .pointer (some ⟨ib, io, none⟩), i.val, .pointer (some ⟨Y.heap.size, 0, none⟩), .int .i64 i.op, .bool true, .bool false, .bool true, u37, u38, F.val, .int .i64 (k : Int), .func (.func 54) #[] #[.pointer (some ⟨Y.heap.size + 1, 0, none⟩), .pointer (some ⟨Y.heap.size + 1 + 1, 0, none⟩)], .int .i64 x.1, u43, u44, u45, u46, u47, u48, u49, u50, u51, u52, u53, u54, u55, u56], defers := [] }) ?assign ?body ?done ?stop
          case own =>
            rintro pre A B row h1 hgr hr
            have hA := h1.lt
            have hne : ∀ b, b < w1.heap.size → some b ≠ row := fun b hb e => by have := (hr b e.symm).1; omega
            have hbl : Below w.heap.size A B := (Below.refl _ A).grown hgr (by omega) (fun r e => by have := (hr r e).1; omega)
            have hkb : ∀ b, b < w1.heap.size → b < A.heap.size → B.heap[b]? = A.heap[b]? := fun b hb hb2 => hgr.block b hb2 (hne b hb)
            exact ⟨h1.b.trans hbl, (hkb FB (by omega) (by omega)).trans h1.f, (hkb (FB + 1) (by omega) (by omega)).trans h1.s, h1.l1, h1.m.keep fun D hD => hkb D (hDl D hD) (h1.m.lt hD)⟩
          case assign =>
            intro l x Z K hK
            gi_wp2
            exact hK
          case body =>
            rintro l pre x Z h1 _
            obtain ⟨xn, hxn⟩ : ∃ xn : Nat, (xn : Int) = x.1 := ⟨x.1.toNat, by have := x.2.1; omega⟩
            have hx64 : xn < 64 := by have := x.2.2; omega
            have xO := ix_pl (FB + 1) xn hx64
            rw [hxn] at xO
            have cO := cell_ofF (k := xn) (v := .bool (puts h (pre.map (·.1)) xn)) h1.s (boolRow_at hx64)
            have fO : Z.frozen? ⟨FB + 1, xn, none⟩ = false := frozen_of_row _ _ _ _ _ h1.s
            have nx : Hid (∀ W', W' = Z.setCell ⟨FB + 1, xn, none⟩ (.bool true) → KeepsFrom w1.heap.size Z W' ∧ KeepC w.heap.size (FB + 1) Z W' ∧ HG w W' F FB (puts h ((pre ++ [x]).map (·.1))) Ds) := fun W' e => by
              obtain ⟨r1, r2⟩ := h1.put (n := xn) (puts_more hxn)
              rw [e]
              exact ⟨(KeepsOthers.setCell _ _ _).from _, r2, r1⟩
            clear h1
            gi_wp2_with (refine inR_list rfl (by simp) (wpList_putb rfl 4 _ _ rfl ⟨FB + 1, xn, none⟩ rfl true rfl (by kernel_rfl) _ cO fO fun W' hW' => wpList_nil ?_); (have hfin := nx.out W' hW'); clear hW'; show wpListIn (Fence.wide.inRound l) _ _ _ _ _ _ _)
            exact hfin
          case done =>
            rintro D ys Z hD rfl h1 hK
            rw [subL_val] at h1
            have hm : Hid (HG w Z F FB (puts h (nxt F.fn k)) (D :: Ds)) := ⟨h1.b, h1.f, h1.s, h1.l1, h1.m.more (by omega) (fun q => by have := hDl D q; omega) hK⟩
            have z2 := cell_ofF (k := 2) (v := .slice F.ca F.code.length F.ccap) hm.out.f rfl
            clear h1 hK
            have hpw : wrap64 ((k : Int) + 1) = (k : Int) + 1 := by unfold wrap64; omega
            by_cases hl : k + 1 < F.code.length
            · have hlI : (k : Int) + 1 < F.code.length := by omega
              have hk64 : k + 1 < 64 := by omega
              have xO := ix_pl (FB + 1) (k + 1) hk64
              rw [show ((k + 1 : Nat) : Int) = (k : Int) + 1 by omega] at xO
              have cO := cell_ofF (k := k + 1) (v := .bool (puts h (nxt F.fn k) (k + 1))) hm.out.s (boolRow_at hk64)
              have fO : Z.frozen? ⟨FB + 1, k + 1, none⟩ = false := frozen_of_row _ _ _ _ _ hm.out.s
              have nx : Hid (∀ W', W' = Z.setCell ⟨FB + 1, k + 1, none⟩ (.bool true) → HG w W' F FB (fun b => if b = k + 1 then true else puts h (nxt F.fn k) b) (D :: Ds) ∧ HdK F.fn (k + 1) (fun b => if b = k + 1 then true else puts h (nxt F.fn k) b)) := fun W' e => by
                obtain ⟨r1, r2⟩ := hm.out.put (n := k + 1) (h' := fun b => if b = k + 1 then true else puts h (nxt F.fn k) b) rfl
                rw [e]
                exact ⟨r1, hmo1.out hl⟩
              clear hm
              go_wp2_with (first
                | ((with_reducible refine at_storeQ 4 _ _ rfl ?_); refine stopQ_out ?_; refine wpList_putb rfl 4 _ _ rfl ⟨FB + 1, k + 1, none⟩ rfl true rfl (by kernel_rfl) _ cO fO ?_; intro W1 hW1; (have hn : Hid (_ ∧ _) := nx.out W1 hW1); clear hW1 cO fO))
              refine ⟨⟨k + 1, D :: Ds, _, _, _, _, _, _, _, _, _, _, _, _, _, _, _, _, _, _, _, _, _, _, _, _, _, _, _, _, _, _, _, _, _, _, _, _, _, _, _, _, _, _, _, _, _, _, _, _, _, _, _, _, _, by omega, hn, rfl⟩, ?_⟩
              simp [intOf]
              omega
            · have hlI : ¬ ((k : Int) + 1 < F.code.length) := by omega
              have hn : Hid (HG w Z F FB (puts h (nxt F.fn k)) (D :: Ds) ∧ HdK F.fn (k + 1) (puts h (nxt F.fn k))) := ⟨hm.out, hmo.out hl⟩
              clear hm
              go_wp2
              refine ⟨⟨k + 1, by omega, D :: Ds, ⟨_, hn⟩, by omega, rfl⟩, ?_⟩
              simp [intOf]
              omega
          case stop =>
            rintro D c pre Z _ _ h _
            exact h.elim
        · have d42 : (i.op == 42) = false := by rw [ho]; rfl
          have d43 : (i.op == 43) = false := by rw [ho]; rfl
          have d61 : (i.op == 61) = true := by rw [ho]; rfl
          clear ho hh
          go_wp2_with (first
            | (go_at_call 37; (refine cB.mono ?_); rintro e w1 ⟨rfl, hw1⟩))
          clear l0 l1 l2 l3 cB i0 i1 i2 i3 i4 j0
          have hbW : Below (Y.alloc (.cells #[.int .i64 i.op, .int .i64 i.a, .int .i64 i.b, .int .i64 i.c, .int .i64 i.n] 70)).heap.size (Y.alloc (.cells #[.int .i64 i.op, .int .i64 i.a, .int .i64 i.b, .int .i64 i.c, .int .i64 i.n] 70)) w1 := by rw [hw1]; exact boxed2 _ _ _
          obtain ⟨q1, q2⟩ := two_new (Y.alloc (.cells #[.int .i64 i.op, .int .i64 i.a, .int .i64 i.b, .int .i64 i.c, .int .i64 i.n] 70)) (objFn F) (.cells #[.int .i64 (k : Int)] 3)
          rw [← hw1, World.size_alloc] at q1 q2
          rw [← hw1]
          have hsz : w1.heap.size = Y.heap.size + 1 + 1 + 1 := by rw [hw1]; simp [World.size_alloc]
          have hi1 : HG w w1 F FB h Ds := hi2.out.later hbW
          have hDl : ∀ D ∈ Ds, D < w1.heap.size := fun D hD => hi1.m.lt hD
          have hl1 := hi1.l1
          clear hw1 hi2 hbW
          refine (wpIn_wide (n := 3)).1 ?_
          refine wpIn_rangeFunc_ownG (n := 3) rfl (by omega) (gf := 54) (lb := #[.pointer (some ⟨Y.heap.size + 1, 0, none⟩), .pointer (some ⟨Y.heap.size + 1 + 1, 0, none⟩)]) rfl trivial (enters_of Tryd.func54 (by kernel_rfl) rfl)
            (behind_stops 2 w F hFH.out hflH.out k hlt hto (FB + 1) (Y.heap.size + 1) (Y.heap.size + 1 + 1) w1 hi1.b (by omega) q1 q2 (by omega)) KeepC.trans (keepC_b (by omega)) (Below.refl _ _) (fun _ => rfl)
            (fun pre Z => HG w Z F FB (puts h (pre.map (·.1))) Ds) (fun _ _ _ => False) ?own (fun _ _ _ _ _ hs _ _ => hs) (by rw [List.map_nil, puts_nil]; exact hi1)
            (fun x => { tmps := #[u0, u1, u2, u3, u4, u5, u6, .pointer (some ⟨FB, 0, none⟩), .pointer (some ⟨FB + 1, 0, none⟩), .int .i64 (k : Int), .pointer (some ⟨Y.heap.size, 0, none⟩), .int .i64 x.1, u12, u13, u14, u15, u16, u17, u18, u19, u20, u21, u22, u23, u24, .slice F.ca F.code.length F.ccap, .int .i64 F.code.length, .int .i64 (k : Int), .bool true, .int .i64 (k : Int), .pointer (some ⟨ib, io, none⟩), i.val, .pointer (some ⟨Y.heap.size, 0, none⟩), .int .i64 i.op, .bool true, .bool false, .bool false, .bool true, u38, F.val, .int .i64 (k : Int), .func (.func 54) #[] #[.pointer (some ⟨Y.heap.size + 1, 0, none⟩), .pointer (some ⟨Y.heap.size + 1 + 1, 0, none⟩)], .int .i64 x.1, u43, u44, u45, u46, u47, u48, u49, u50, u51, u52, u53, u54, u55, u56], defers := [] }) ?assign ?body ?done ?stop
          case own =>
            rintro pre A B row h1 hgr hr
            have hA := h1.lt
            have hne : ∀ b, b < w1.heap.size → some b ≠ row := fun b hb e => by have := (hr b e.symm).1; omega
            have hbl : Below w.heap.size A B := (Below.refl _ A).grown hgr (by omega) (fun r e => by have := (hr r e).1; omega)
            have hkb : ∀ b, b < w1.heap.size → b < A.heap.size → B.heap[b]? = A.heap[b]? := fun b hb hb2 => hgr.block b hb2 (hne b hb)
            exact ⟨h1.b.trans hbl, (hkb FB (by omega) (by omega)).trans h1.f, (hkb (FB + 1) (by omega) (by omega)).trans h1.s, h1.l1, h1.m.keep fun D hD => hkb D (hDl D hD) (h1.m.lt hD)⟩
          case assign =>
            intro l x Z K hK
            gi_wp2
            exact hK
          case body =>
            rintro l pre x Z h1 _
            obtain ⟨xn, hxn⟩ : ∃ xn : Nat, (xn : Int) = x.1 := ⟨x.1.toNat, by have := x.2.1; omega⟩
            have hx64 : xn < 64 := by have := x.2.2; omega
            have xO := ix_pl (FB + 1) xn hx64
            rw [hxn] at xO
            have cO := cell_ofF (k := xn) (v := .bool (puts h (pre.map (·.1)) xn)) h1.s (boolRow_at hx64)
            have fO : Z.frozen? ⟨FB + 1, xn, none⟩ = false := frozen_of_row _ _ _ _ _ h1.s
            have nx : Hid (∀ W', W' = Z.setCell ⟨FB + 1, xn, none⟩ (.bool true) → KeepsFrom w1.heap.size Z W' ∧ KeepC w.heap.size (FB + 1) Z W' ∧ HG w W' F FB (puts h ((pre ++ [x]).map (·.1))) Ds) := fun W' e => by
              obtain ⟨r1, r2⟩ := h1.put (n := xn) (puts_more hxn)
              rw [e]
              exact ⟨(KeepsOthers.setCell _ _ _).from _, r2, r1⟩
            clear h1
            gi_wp2_with (refine inR_list rfl (by simp) (wpList_putb rfl 4 _ _ rfl ⟨FB + 1, xn, none⟩ rfl true rfl (by kernel_rfl) _ cO fO fun W' hW' => wpList_nil ?_); (have hfin := nx.out W' hW'); clear hW'; show wpListIn (Fence.wide.inRound l) _ _ _ _ _ _ _)
            exact hfin
          case done =>
            rintro D ys Z hD rfl h1 hK
            rw [subL_val] at h1
            have hm : Hid (HG w Z F FB (puts h (nxt F.fn k)) (D :: Ds)) := ⟨h1.b, h1.f, h1.s, h1.l1, h1.m.more (by omega) (fun q => by have := hDl D q; omega) hK⟩
            have z2 := cell_ofF (k := 2) (v := .slice F.ca F.code.length F.ccap) hm.out.f rfl
            clear h1 hK
            have hpw : wrap64 ((k : Int) + 1) = (k : Int) + 1 := by unfold wrap64; omega
            by_cases hl : k + 1 < F.code.length
            · have hlI : (k : Int) + 1 < F.code.length := by omega
              have hk64 : k + 1 < 64 := by omega
              have xO := ix_pl (FB + 1) (k + 1) hk64
              rw [show ((k + 1 : Nat) : Int) = (k : Int) + 1 by omega] at xO
              have cO := cell_ofF (k := k + 1) (v := .bool (puts h (nxt F.fn k) (k + 1))) hm.out.s (boolRow_at hk64)
              have fO : Z.frozen? ⟨FB + 1, k + 1, none⟩ = false := frozen_of_row _ _ _ _ _ hm.out.s
              have nx : Hid (∀ W', W' = Z.setCell ⟨FB + 1, k + 1, none⟩ (.bool true) → HG w W' F FB (fun b => if b = k + 1 then true else puts h (nxt F.fn k) b) (D :: Ds) ∧ HdK F.fn (k + 1) (fun b => if b = k + 1 then true else puts h (nxt F.fn k) b)) := fun W' e => by
                obtain ⟨r1, r2⟩ := hm.out.put (n := k + 1) (h' := fun b => if b = k + 1 then true else puts h (nxt F.fn k) b) rfl
                rw [e]
                exact ⟨r1, hmo1.out hl⟩
              clear hm
              go_wp2_with (first
                | ((with_reducible refine at_storeQ 4 _ _ rfl ?_); refine stopQ_out ?_; refine wpList_putb rfl 4 _ _ rfl ⟨FB + 1, k + 1, none⟩ rfl true rfl (by kernel_rfl) _ cO fO ?_; intro W1 hW1; (have hn : Hid (_ ∧ _) := nx.out W1 hW1); clear hW1 cO fO))
              refine ⟨⟨k + 1, D :: Ds, _, _, _, _, _, _, _, _, _, _, _, _, _, _, _, _, _, _, _, _, _, _, _, _, _, _, _, _, _, _, _, _, _, _, _, _, _, _, _, _, _, _, _, _, _, _, _, _, _, _, _, _, _, by omega, hn, rfl⟩, ?_⟩
              simp [intOf]
              omega
            · have hlI : ¬ ((k : Int) + 1 < F.code.length) := by omega
              have hn : Hid (HG w Z F FB (puts h (nxt F.fn k)) (D :: Ds) ∧ HdK F.fn (k + 1) (puts h (nxt F.fn k))) := ⟨hm.out, hmo.out hl⟩
              clear hm
              go_wp2
              refine ⟨⟨k + 1, by omega, D :: Ds, ⟨_, hn⟩, by omega, rfl⟩, ?_⟩
              simp [intOf]
              omega
          case stop =>
            rintro D c pre Z _ _ h _
            exact h.elim
        · have d42 : (i.op == 42) = false := by rw [ho]; rfl
          have d43 : (i.op == 43) = false := by rw [ho]; rfl
          have d61 : (i.op == 61) = false := by rw [ho]; rfl
          have d45 : (i.op == 45) = true := by rw [ho]; rfl
          clear ho hh
          go_wp2_with (first
            | (go_at_call 37; (refine cB.mono ?_); rintro e w1 ⟨rfl, hw1⟩))
          clear l0 l1 l2 l3 cB i0 i1 i2 i3 i4 j0
          have hbW : Below (Y.alloc (.cells #[.int .i64 i.op, .int .i64 i.a, .int .i64 i.b, .int .i64 i.c, .int .i64 i.n] 70)).heap.size (Y.alloc (.cells #[.int .i64 i.op, .int .i64 i.a, .int .i64 i.b, .int .i64 i.c, .int .i64 i.n] 70)) w1 := by rw [hw1]; exact boxed2 _ _ _
          obtain ⟨q1, q2⟩ := two_new (Y.alloc (.cells #[.int .i64 i.op, .int .i64 i.a, .int .i64 i.b, .int .i64 i.c, .int .i64 i.n] 70)) (objFn F) (.cells #[.int .i64 (k : Int)] 3)
          rw [← hw1, World.size_alloc] at q1 q2
          rw [← hw1]
          have hsz : w1.heap.size = Y.heap.size + 1 + 1 + 1 := by rw [hw1]; simp [World.size_alloc]
          have hi1 : HG w w1 F FB h Ds := hi2.out.later hbW
          have hDl : ∀ D ∈ Ds, D < w1.heap.size := fun D hD => hi1.m.lt hD
          have hl1 := hi1.l1
          clear hw1 hi2 hbW
          refine (wpIn_wide (n := 3)).1 ?_
          refine wpIn_rangeFunc_ownG (n := 3) rfl (by omega) (gf := 54) (lb := #[.pointer (some ⟨Y.heap.size + 1, 0, none⟩), .pointer (some ⟨Y.heap.size + 1 + 1, 0, none⟩)]) rfl trivial (enters_of Tryd.func54 (by kernel_rfl) rfl)
            (behind_stops 2 w F hFH.out hflH.out k hlt hto (FB + 1) (Y.heap.size + 1) (Y.heap.size + 1 + 1) w1 hi1.b (by omega) q1 q2 (by omega)) KeepC.trans (keepC_b (by omega)) (Below.refl _ _) (fun _ => rfl)
            (fun pre Z => HG w Z F FB (puts h (pre.map (·.1))) Ds) (fun _ _ _ => False) ?own (fun _ _ _ _ _ hs _ _ => hs) (by rw [List.map_nil, puts_nil]; exact hi1)
            (fun x => { tmps := #[u0, u1, u2, u3, u4, u5, u6, .pointer (some ⟨FB, 0, none⟩), .pointer (some ⟨FB + 1, 0, none⟩), .int .i64 (k : Int), .pointer (some ⟨Y.heap.size, 0, none⟩), .int .i64 x.1, u12, u13, u14, u15, u16, u17, u18, u19, u20, u21, u22, u23, u24, .slice F.ca F.code.length F.ccap, .int .i64 F.code.length, .int .i64 (k : Int), .bool true, .int .i64 (k : Int), .pointer (some ⟨ib, io, none⟩), i.val, .pointer (some ⟨Y.heap.size, 0, none⟩), .int .i64 i.op, .bool true, .bool false, .bool false, .bool false, .bool true, F.val, .int .i64 (k : Int), .func (.func 54) #[] #[.pointer (some ⟨Y.heap.size + 1, 0, none⟩), .pointer (some ⟨Y.heap.size + 1 + 1, 0, none⟩)], .int .i64 x.1, u43, u44, u45, u46, u47, u48, u49, u50, u51, u52, u53, u54, u55, u56], defers := [] }) ?assign ?body ?done ?stop
          case own =>
            rintro pre A B row h1 hgr hr
            have hA := h1.lt
            have hne : ∀ b, b < w1.heap.size → some b ≠ row := fun b hb e => by have := (hr b e.symm).1; omega
            have hbl : Below w.heap.size A B := (Below.refl _ A).grown hgr (by omega) (fun r e => by have := (hr r e).1; omega)
            have hkb : ∀ b, b < w1.heap.size → b < A.heap.size → B.heap[b]? = A.heap[b]? := fun b hb hb2 => hgr.block b hb2 (hne b hb)
            exact ⟨h1.b.trans hbl, (hkb FB (by omega) (by omega)).trans h1.f, (hkb (FB + 1) (by omega) (by omega)).trans h1.s, h1.l1, h1.m.keep fun D hD => hkb D (hDl D hD) (h1.m.lt hD)⟩
          case assign =>
            intro l x Z K hK
            gi_wp2
            exact hK
          case body =>
            rintro l pre x Z h1 _
            obtain ⟨xn, hxn⟩ : ∃ xn : Nat, (xn : Int) = x.1 := ⟨x.1.toNat, by have := x.2.1; omega⟩
            have hx64 : xn < 64 := by have := x.2.2; omega
            have xO := ix_pl (FB + 1) xn hx64
            rw [hxn] at xO
            have cO := cell_ofF (k := xn) (v := .bool (puts h (pre.map (·.1)) xn)) h1.s (boolRow_at hx64)
            have fO : Z.frozen? ⟨FB + 1, xn, none⟩ = false := frozen_of_row _ _ _ _ _ h1.s
            have nx : Hid (∀ W', W' = Z.setCell ⟨FB + 1, xn, none⟩ (.bool true) → KeepsFrom w1.heap.size Z W' ∧ KeepC w.heap.size (FB + 1) Z W' ∧ HG w W' F FB (puts h ((pre ++ [x]).map (·.1))) Ds) := fun W' e => by
              obtain ⟨r1, r2⟩ := h1.put (n := xn) (puts_more hxn)
              rw [e]
              exact ⟨(KeepsOthers.setCell _ _ _).from _, r2, r1⟩
            clear h1
            gi_wp2_with (refine inR_list rfl (by simp) (wpList_putb rfl 4 _ _ rfl ⟨FB + 1, xn, none⟩ rfl true rfl (by kernel_rfl) _ cO fO fun W' hW' => wpList_nil ?_); (have hfin := nx.out W' hW'); clear hW'; show wpListIn (Fence.wide.inRound l) _ _ _ _ _ _ _)
            exact hfin
          case done =>
            rintro D ys Z hD rfl h1 hK
            rw [subL_val] at h1
            have hm : Hid (HG w Z F FB (puts h (nxt F.fn k)) (D :: Ds)) := ⟨h1.b, h1.f, h1.s, h1.l1, h1.m.more (by omega) (fun q => by have := hDl D q; omega) hK⟩
            have z2 := cell_ofF (k := 2) (v := .slice F.ca F.code.length F.ccap) hm.out.f rfl
            clear h1 hK
            have hpw : wrap64 ((k : Int) + 1) = (k : Int) + 1 := by unfold wrap64; omega
            by_cases hl : k + 1 < F.code.length
            · have hlI : (k : Int) + 1 < F.code.length := by omega
              have hk64 : k + 1 < 64 := by omega
              have xO := ix_pl (FB + 1) (k + 1) hk64
              rw [show ((k + 1 : Nat) : Int) = (k : Int) + 1 by omega] at xO
              have cO := cell_ofF (k := k + 1) (v := .bool (puts h (nxt F.fn k) (k + 1))) hm.out.s (boolRow_at hk64)
              have fO : Z.frozen? ⟨FB + 1, k + 1, none⟩ = false := frozen_of_row _ _ _ _ _ hm.out.s
              have nx : Hid (∀ W', W' = Z.setCell ⟨FB + 1, k + 1, none⟩ (.bool true) → HG w W' F FB (fun b => if b = k + 1 then true else puts h (nxt F.fn k) b) (D :: Ds) ∧ HdK F.fn (k + 1) (fun b => if b = k + 1 then true else puts h (nxt F.fn k) b)) := fun W' e => by
                obtain ⟨r1, r2⟩ := hm.out.put (n := k + 1) (h' := fun b => if b = k + 1 then true else puts h (nxt F.fn k) b) rfl
                rw [e]
                exact ⟨r1, hmo1.out hl⟩
              clear hm
              go_wp2_with (first
                | ((with_reducible refine at_storeQ 4 _ _ rfl ?_); refine stopQ_out ?_; refine wpList_putb rfl 4 _ _ rfl ⟨FB + 1, k + 1, none⟩ rfl true rfl (by kernel_rfl) _ cO fO ?_; intro W1 hW1; (have hn : Hid (_ ∧ _) := nx.out W1 hW1); clear hW1 cO fO))
              refine ⟨⟨k + 1, D :: Ds, _, _, _, _, _, _, _, _, _, _, _, _, _, _, _, _, _, _, _, _, _, _, _, _, _, _, _, _, _, _, _, _, _, _, _, _, _, _, _, _, _, _, _, _, _, _, _, _, _, _, _, _, _, by omega, hn, rfl⟩, ?_⟩
              simp [intOf]
              omega
            · have hlI : ¬ ((k : Int) + 1 < F.code.length) := by omega
              have hn : Hid (HG w Z F FB (puts h (nxt F.fn k)) (D :: Ds) ∧ HdK F.fn (k + 1) (puts h (nxt F.fn k))) := ⟨hm.out, hmo.out hl⟩
              clear hm
              go_wp2
              refine ⟨⟨k + 1, by omega, D :: Ds, ⟨_, hn⟩, by omega, rfl⟩, ?_⟩
              simp [intOf]
              omega
          case stop =>
            rintro D c pre Z _ _ h _
            exact h.elim
      · have d42 : (i.op == 42) = false := by have := isH_no hh 42 (by simp); simpa using this
        have d43 : (i.op == 43) = false := by have := isH_no hh 43 (by simp); simpa using this
        have d61 : (i.op == 61) = false := by have := isH_no hh 61 (by simp); simpa using this
        have d45 : (i.op == 45) = false := by have := isH_no hh 45 (by simp); simpa using this
        have hdn : Hid (HG w (Y.alloc (.cells #[.int .i64 i.op, .int .i64 i.a, .int .i64 i.b, .int .i64 i.c, .int .i64 i.n] 70)) F FB h Ds ∧ HdK F.fn (k + 1) h) := ⟨hi2.out, hsameH.out (Bool.eq_false_iff.mpr hh)⟩
        clear hsameH hmoreH hmore1H hi2 hh
        go_wp2
        refine ⟨⟨k + 1, Ds, h, _, _, _, _, _, _, _, _, _, _, _, _, _, _, _, _, _, _, _, _, _, _, _, _, _, _, _, _, _, _, _, _, _, _, _, _, _, _, _, _, _, _, _, _, _, _, _, _, _, _, _, _, by omega, hdn, rfl⟩, ?_⟩
        simp [intOf]
        omega
    · have hke : k = F.code.length := by omega
      have hkI : ¬ ((k : Int) < F.code.length) := by omega
      have hS := hs.out.1.s
      have xL : ∀ V, Calls Tryd.prog 36 #[.agg (boolRow 64 h)] V _ := fun V => list_any h V
      go_wp2_with (first
        | ((with_reducible refine at_loadQ 65 _ rfl ?_); refine stopQ_out ?_; refine wpList_load_row rfl 65 _ rfl (FB + 1) rfl _ _ _ _ hS huP.out rfl (infoSt _) ?_)
        | (go_at_call 36; (with_reducible refine (xL _).mono ?_); rintro e w4 ⟨va, vc, rfl, hL⟩; (have hLH : Hid (LsS Y (lst h 64) va vc w4) := hL); clear hL xL))
      have hm4 : Marks w.heap.size Ds w4 := hs.out.1.m.later hLH.out.be
      have hB4 : Below w.heap.size w w4 := bthen hs.out.1.b hLH.out.be
      refine leaves_marks (n₀ := w.heap.size) Ds _ hm4 fun W' hk => ?_
      exact ⟨_, results_tmp2 Tryd.results14 _ _ _, h, va, vc, rfl, by rw [← hke]; exact hs.out.2, own_rows (own_keepD hLH.out.ow hk) (len1u _), hB4.trans hk.b⟩
end Go.Proofs.YtlcljdldhajkiaaDoor.pg
