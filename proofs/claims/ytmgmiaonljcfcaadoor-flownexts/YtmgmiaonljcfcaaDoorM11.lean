/- All that may come behind some places. -/
import Derived.Test.YtmgmiaonljcfcaaDoorM10
import Derived.Test.YtmgmiaonljcfcaaDoorM6
namespace Go.Proofs.YtmgmiaonljcfcaaDoor.pg
open Go.ChangeShapes Go.WideShapes Go.ChangeAt Go.RowKit Go.Shelf
set_option linter.unusedVariables false
set_option linter.unusedSimpArgs false
set_option maxRecDepth 100000
attribute [local go_sem] Oper.semAt_some
abbrev objPl (s : Nat → Bool) : Obj := .cells (boolRow 64 s) 60
theorem four_new (w : World) (a b c d : Obj) : ((((w.alloc a).alloc b).alloc c).alloc d).heap[w.heap.size]? = some a ∧ ((((w.alloc a).alloc b).alloc c).alloc d).heap[w.heap.size + 1]? = some b ∧ ((((w.alloc a).alloc b).alloc c).alloc d).heap[w.heap.size + 1 + 1]? = some c ∧ ((((w.alloc a).alloc b).alloc c).alloc d).heap[w.heap.size + 1 + 1 + 1]? = some d := by
  have e1 := (boxed3 (w.alloc a) b c d).block w.heap.size (by rw [World.size_alloc]; omega)
  have e2 := (boxed2 ((w.alloc a).alloc b) c d).block (w.heap.size + 1) (by rw [World.size_alloc, World.size_alloc]; omega)
  have e3 := (boxed (((w.alloc a).alloc b).alloc c) d).block (w.heap.size + 1 + 1) (by rw [World.size_alloc, World.size_alloc, World.size_alloc]; omega)
  have n2 := heap_alloc_new (w.alloc a) b
  have n3 := heap_alloc_new ((w.alloc a).alloc b) c
  have n4 := heap_alloc_new (((w.alloc a).alloc b).alloc c) d
  rw [World.size_alloc] at n2
  rw [World.size_alloc, World.size_alloc] at n3
  rw [World.size_alloc, World.size_alloc, World.size_alloc] at n4
  exact ⟨e1.trans (heap_alloc_new w a), e2.trans n2, e3.trans n3, n4⟩
theorem two_new (w : World) (a b : Obj) : ((w.alloc a).alloc b).heap[w.heap.size]? = some a ∧ ((w.alloc a).alloc b).heap[w.heap.size + 1]? = some b := by
  have n2 := heap_alloc_new (w.alloc a) b
  rw [World.size_alloc] at n2
  exact ⟨((boxed (w.alloc a) b).block w.heap.size (by rw [World.size_alloc]; omega)).trans (heap_alloc_new w a), n2⟩
theorem below_row {n B : Nat} {w : World} {cs : Array Value} (hB : n ≤ B) : Below n w (w.setRow B cs) := ⟨rfl, rfl, rfl, by rw [setRow_size]; exact Nat.le_refl _, fun k hk => setRow_other w B k cs (by omega)⟩
/-- Where all lies while the places behind some are gathered. -/
structure BA (w W : World) (F : MFn) (s o : Nat → Bool) : Prop where
  b : Below w.heap.size w W
  f : W.heap[w.heap.size]? = some (objFn F)
  s : W.heap[w.heap.size + 1]? = some (objPl s)
  r : W.heap[w.heap.size + 1 + 1]? = some (objPl fun _ => false)
  o : W.heap[w.heap.size + 1 + 1 + 1]? = some (objPl o)
theorem BA.lt {w W : World} {F : MFn} {s o : Nat → Bool} (h : BA w W F s o) : w.heap.size + 1 + 1 + 1 < W.heap.size := (Array.getElem?_eq_some_iff.mp h.o).1
theorem BA.keep {w W W' : World} {F : MFn} {s o : Nat → Bool} (h : BA w W F s o) (hb : Below w.heap.size W W') (hk : ∀ b, b < w.heap.size + 4 → W'.heap[b]? = W.heap[b]?) : BA w W' F s o :=
  ⟨h.b.trans hb, (hk _ (by omega)).trans h.f, (hk _ (by omega)).trans h.s, (hk _ (by omega)).trans h.r, (hk _ (by omega)).trans h.o⟩
theorem BA.later {w W W' : World} {F : MFn} {s o : Nat → Bool} (h : BA w W F s o) (hb : Below W.heap.size W W') : BA w W' F s o := h.keep (hb.mono (by have := h.lt; omega)) fun b q => hb.block b (by have := h.lt; omega)
theorem ix_pl (B k : Nat) (h : k < 64) : ∀ wx, (Instr.indexAt 60 (.pointer (some ⟨B, 0, none⟩)) (.int .i64 (k : Int))).run Tryd.prog wx = .ok (.pointer (some ⟨B, k, none⟩)) wx := ix_set B k h
theorem results_pl {fn : Func} {p : Tmp} (h : fn.results = #[.cell p 60]) (tmps : Array Value) (w : World) (B : Nat) (x : Nat → Bool) (hp : tmps.getD p undef = .pointer (some ⟨B, 0, none⟩)) (hB : w.heap[B]? = some (objPl x)) :
    (results fn tmps).run Tryd.prog w = .ok (.agg (boolRow 64 x)) w := by
  have hp' : tmps[p]?.getD undef = .pointer (some ⟨B, 0, none⟩) := by simpa using hp
  simp [results, h, hp', asAddr, run_loadVar_row w B _ 60 _ _ _ hB Tryd.underlying60 rfl (infoSt x)]
def bAT (w : World) (F : MFn) (s : Nat → Bool) (k : Nat) (u6 u7 u12 u13 u14 u15 u16 u17 u18 u19 u20 u21 u22 u23 : Value) (d : List Deferred) : Act :=
  { tmps := #[F.val, .agg (boolRow 64 s), .pointer (some ⟨w.heap.size, 0, none⟩), .pointer (some ⟨w.heap.size + 1, 0, none⟩), .pointer (some ⟨w.heap.size + 1 + 1, 0, none⟩), .pointer (some ⟨w.heap.size + 1 + 1 + 1, 0, none⟩), u6, u7, .pointer (some ⟨w.heap.size, 2, none⟩), .slice F.ca F.code.length F.ccap, .int .i64 F.code.length, .int .i64 (k : Int), u12, u13, u14, u15, u16, u17, u18, u19, u20, u21, u22, u23, undef], defers := d }
set_option maxHeartbeats 4000000 in
theorem behindAll_any (F : MFn) (s : Nat → Bool) (w : World) (hF : F.lies w) (hfl : FlowF F.fn) :
    Calls Tryd.prog 34 #[F.val, .agg (boolRow 64 s)] w fun e w' => e = .returned (.agg (boolRow 64 (bAll F.fn s F.code.length))) ∧ Below w.heap.size w w' := by
  have huP : Hid (Tryd.prog.underlying 60 = _) := Tryd.underlying60
  have hzP : Hid (∀ w, (zeroValue 60).run Tryd.prog w = .ok (.agg (boolRow 64 fun _ => false)) w) := zeroSt
  have hl64 : (F.code.length : Int) ≤ 64 := by have := hfl.l64; have h : F.fn.code.length = F.code.length := rfl; omega
  obtain ⟨p1, p2, p3, p4⟩ := four_new w (objFn F) (objPl s) (objPl fun _ => false) (objPl fun _ => false)
  have s0 : Hid (BA w ((((w.alloc (objFn F)).alloc (objPl s)).alloc (objPl fun _ => false)).alloc (objPl fun _ => false)) F s (bAll F.fn s 0)) := ⟨(boxed _ _).trans ((boxed3 _ _ _ _).mono (boxed _ _).size), p1, p2, p3, p4⟩
  have f2 := cell_ofF (k := 2) (v := .slice F.ca F.code.length F.ccap) p1 rfl
  have hFH : Hid (F.lies w) := hF
  have hflH : Hid (FlowF F.fn) := hfl
  clear p1 p2 p3 p4 hF hfl
  refine (callsIn_wide (n := 3)).1 ?_
  refine callsIn_of_wp_marks Tryd.func34 rfl trivial ?_ rfl
  simp only [Tryd.ntmps34, List.size_toArray, List.length_cons, List.length_nil, Nat.reduceAdd, Nat.reduceSub, Array.replicate_succ, Array.replicate_zero, List.push_toArray, List.append_toArray, List.nil_append, List.cons_append]
  refine wpIn_wide.2 ?_
  go_wp2_with (refine wpList_alloc_big rfl 60 rfl hzP.out ?_)
  clear f2
  generalize (((w.alloc (objFn F)).alloc (objPl s)).alloc (objPl fun _ => false)).alloc (objPl fun _ => false) = V at *
  refine wp_loop (fun a' W' => ∃ (k : Nat) (Ds : List Nat) (u6 u7 u12 u13 u14 u15 u16 u17 u18 u19 u20 u21 u22 u23 : Value), k ≤ F.code.length ∧ Hid (BA w W' F s (bAll F.fn s k) ∧ Marks w.heap.size Ds W') ∧ a' = bAT w F s k u6 u7 u12 u13 u14 u15 u16 u17 u18 u19 u20 u21 u22 u23 (Ds.map mkD)) (fun a' _ => F.code.length - (intOf (a'.tmps.getD 11 undef)).toNat) ?_ ?_
  · exact ⟨0, [], undef, undef, undef, undef, undef, undef, undef, undef, undef, undef, undef, undef, undef, undef, Nat.zero_le _, ⟨s0.out, Marks.nil _ _⟩, rfl⟩
  · rintro a' W ⟨k, Ds, u6, u7, u12, u13, u14, u15, u16, u17, u18, u19, u20, u21, u22, u23, hk, hs, rfl⟩
    clear s0
    unfold bAT
    by_cases hlt : k < F.code.length
    · have hkI : (k : Int) < F.code.length := by omega
      have xI := ix_pl (w.heap.size + 1) k (by omega)
      have cI := cell_ofF (k := k) (v := .bool (s k)) hs.out.1.s (boolRow_at (by omega))
      have hmore : Hid (bAll F.fn s (k + 1) = if s k = true then puts (bAll F.fn s k) (nxt F.fn k) else bAll F.fn s k) := rfl
      obtain ⟨bk, hbk⟩ : ∃ bk, s k = bk := ⟨_, rfl⟩
      rw [hbk] at cI
      cases bk with
      | false =>
        have hN : Hid (bAll F.fn s (k + 1) = bAll F.fn s k) := by show _ = _; rw [hmore.out, hbk]; rfl
        clear hmore hbk
        go_wp2
        refine ⟨⟨k + 1, Ds, _, _, _, _, _, _, _, _, _, _, _, _, _, _, by omega, ⟨by rw [hN.out]; exact hs.out.1, hs.out.2⟩, rfl⟩, ?_⟩
        simp [intOf]
        omega
      | true =>
        have hN : Hid (bAll F.fn s (k + 1) = puts (bAll F.fn s k) (nxt F.fn k)) := by show _ = _; rw [hmore.out, hbk]; rfl
        have cB := behind_any F (k : Int) W
        have hto : ∀ x ∈ nxt F.fn k, 0 ≤ x ∧ x < 64 := fun x hx => by have h1 := hflH.out.n k hlt x hx; have h2 := hflH.out.l64; omega
        have l0 := cell_ofF (k := 0) (v := .int .i64 F.params) hs.out.1.f rfl
        have l1 := cell_ofF (k := 1) (v := .int .i64 F.regs) hs.out.1.f rfl
        have l2 := cell_ofF (k := 2) (v := .slice F.ca F.code.length F.ccap) hs.out.1.f rfl
        have l3 := cell_ofF (k := 3) (v := .slice F.sa F.sels.length F.scap) hs.out.1.f rfl
        clear hmore hbk
        go_wp2_with (go_at_call 53; (refine cB.mono ?_); rintro e w1 ⟨rfl, hw1⟩)
        clear l0 l1 l2 l3 cI xI cB
        have hbW : Below W.heap.size W w1 := by rw [hw1]; exact boxed2 _ _ _
        obtain ⟨q1, q2⟩ := two_new W (objFn F) (.cells #[.int .i64 (k : Int)] 3)
        rw [← hw1] at q1 q2 ⊢
        have hsz : w1.heap.size = W.heap.size + 1 + 1 := by rw [hw1]; simp [World.size_alloc]
        have hs1 : BA w w1 F s (bAll F.fn s k) := hs.out.1.later hbW
        have hm1 : Marks w.heap.size Ds w1 := hs.out.2.later hbW
        have hlt1 := hs.out.1.lt
        have hDl : ∀ D ∈ Ds, D < w1.heap.size := fun D hD => by have := hs.out.2.lt hD; omega
        clear hw1 hs
        refine (wpIn_wide (n := 3)).1 ?_
        refine wpIn_rangeFunc_ownG (n := 3) rfl (by omega) (gf := 59) (lb := #[.pointer (some ⟨W.heap.size, 0, none⟩), .pointer (some ⟨W.heap.size + 1, 0, none⟩)]) rfl trivial (enters_of Tryd.func59 (by kernel_rfl) rfl)
          (behind_stops 2 w F hFH.out hflH.out k hlt hto (w.heap.size + 1 + 1 + 1) W.heap.size (W.heap.size + 1) w1 hs1.b (by omega) q1 q2 (by omega)) KeepC.trans (keepC_b (by omega)) (Below.refl _ _) (fun _ => rfl)
          (fun pre V => BA w V F s (puts (bAll F.fn s k) (pre.map (·.1))) ∧ Marks w.heap.size Ds V) (fun _ _ _ => False) ?own (fun _ _ _ _ _ hs _ _ => hs) ⟨by rw [List.map_nil, puts_nil]; exact hs1, hm1⟩
          (fun x => bAT w F s k (.int .i64 (k : Int)) (.int .i64 x.1) (.bool true) (.int .i64 (k : Int)) (.int .i64 (k : Int)) (.pointer (some ⟨w.heap.size + 1, k, none⟩)) (.bool true) F.val (.int .i64 (k : Int)) (.func (.func 59) #[] #[.pointer (some ⟨W.heap.size, 0, none⟩), .pointer (some ⟨W.heap.size + 1, 0, none⟩)]) (.int .i64 x.1) u21 u22 u23 []) ?assign ?body ?done ?stop
        case own =>
          rintro pre A B row ⟨h1, h2⟩ hgr hr
          have hA := h1.lt
          have hne : ∀ b, b < w1.heap.size → some b ≠ row := fun b hb e => by have := (hr b e.symm).1; omega
          refine ⟨h1.keep ((Below.refl _ A).grown hgr (by omega) (fun r e => by have := (hr r e).1; omega)) fun b hb => hgr.block b (by omega) (hne b (by omega)), h2.keep fun D hD => hgr.block D (h2.lt hD) (hne D (hDl D hD))⟩
        case assign =>
          intro l x V K hK
          unfold bAT at hK
          gi_wp2
          exact hK
        case body =>
          rintro l pre x V ⟨h1, h2⟩ _
          obtain ⟨xn, hxn⟩ : ∃ xn : Nat, (xn : Int) = x.1 := ⟨x.1.toNat, by have := x.2.1; omega⟩
          have hx64 : xn < 64 := by have := x.2.2; omega
          have xO := ix_pl (w.heap.size + 1 + 1 + 1) xn hx64
          rw [hxn] at xO
          have cO := cell_ofF (k := xn) (v := .bool (puts (bAll F.fn s k) (pre.map (·.1)) xn)) h1.o (boolRow_at hx64)
          have fO : V.frozen? ⟨w.heap.size + 1 + 1 + 1, xn, none⟩ = false := frozen_of_row _ _ _ _ _ h1.o
          have hlV := h1.lt
          have nx : Hid (∀ W', W' = V.setCell ⟨w.heap.size + 1 + 1 + 1, xn, none⟩ (.bool true) → KeepsFrom w1.heap.size V W' ∧ KeepC w.heap.size (w.heap.size + 1 + 1 + 1) V W' ∧ BA w W' F s (puts (bAll F.fn s k) ((pre ++ [x]).map (·.1))) ∧ Marks w.heap.size Ds W') := fun W' e => by
            have hk : ∀ b, b ≠ w.heap.size + 1 + 1 + 1 → W'.heap[b]? = V.heap[b]? := fun b q => by rw [e]; exact Below.heap_setCell _ _ _ _ q
            have hb : Below w.heap.size V W' := by rw [e]; exact (Below.refl _ V).setCell (p := ⟨w.heap.size + 1 + 1 + 1, xn, none⟩) (by show w.heap.size ≤ w.heap.size + 1 + 1 + 1; omega) _
            refine ⟨by rw [e]; exact (KeepsOthers.setCell _ _ _).from _, ⟨hb, fun b cs t z hb' q => (hk b hb').trans q⟩, ⟨h1.b.trans hb, (hk _ (by omega)).trans h1.f, (hk _ (by omega)).trans h1.s, (hk _ (by omega)).trans h1.r, ?_⟩, h2.keep fun D hD => hk D fun q => ?_⟩
            · rw [e, setCell_eq_setRow V (w.heap.size + 1 + 1 + 1) xn _ _ _ _ h1.o, boolRow_set, setRow_heap V (w.heap.size + 1 + 1 + 1) _ _ _ _ h1.o]
              have : (fun b => if b = xn then true else puts (bAll F.fn s k) (pre.map (·.1)) b) = puts (bAll F.fn s k) ((pre ++ [x]).map (·.1)) := by
                rw [List.map_append, ← puts_app]
                funext b
                by_cases c : b = xn
                · subst c
                  rw [if_pos rfl]
                  unfold puts
                  simp [hxn]
                · rw [if_neg c]
                  show _ = (puts (bAll F.fn s k) (pre.map (·.1)) b || decide ((b : Int) ∈ [x.1]))
                  have : decide ((b : Int) ∈ [x.1]) = false := by
                    rw [decide_eq_false_iff_not, List.mem_singleton, ← hxn]
                    omega
                  rw [this, Bool.or_false]
              rw [this]
            · have := (h2.at_ D hD).2
              rw [q, h1.o] at this
              cases this
          clear h1 h2
          unfold bAT
          gi_wp2_with (refine inR_list rfl (by simp) (wpList_putb rfl 4 _ _ rfl ⟨w.heap.size + 1 + 1 + 1, xn, none⟩ rfl true rfl (by kernel_rfl) _ cO fO fun W' hW' => wpList_nil ?_); (have hfin := nx.out W' hW'); clear hW'; show wpListIn (Fence.wide.inRound l) _ _ _ _ _ _ _)
          exact hfin
        case done =>
          rintro D ys V hD rfl ⟨h1, h2⟩ hK
          rw [subL_val] at h1
          have hm : Hid (BA w V F s (bAll F.fn s (k + 1)) ∧ Marks w.heap.size (D :: Ds) V) := ⟨by rw [hN.out]; exact h1, h2.more (by omega) (fun q => by have := hDl D q; omega) hK⟩
          clear h1 h2 hK
          go_wp2
          refine ⟨⟨k + 1, D :: Ds, _, _, _, _, _, _, _, _, _, _, _, _, _, _, by omega, hm, rfl⟩, ?_⟩
          simp [intOf]
          omega
        case stop =>
          rintro D c pre V _ _ h _
          exact h.elim
    · have hke : k = F.code.length := by omega
      have hkI : ¬ ((k : Int) < F.code.length) := by omega
      have hs1 : Hid (BA w W F s (bAll F.fn s F.code.length)) := by have := hs.out.1; rw [hke] at this; exact this
      have hm1 : Hid (Marks w.heap.size Ds W) := hs.out.2
      have hO := hs1.out.o
      have hR := hs1.out.r
      clear hs hke
      go_wp2_with (first
        | (refine wpList_load_row rfl 60 _ rfl (w.heap.size + 1 + 1 + 1) rfl _ _ _ _ hO huP.out rfl (infoSt _) ?_)
        | (refine wpList_store_row rfl 60 _ _ rfl (w.heap.size + 1 + 1) (boolRow 64 (bAll F.fn s F.code.length)) rfl rfl _ _ hR (infoSt _) (by rw [boolRow_size, boolRow_size]) (boolRow_one _ _) ?_))
      have hlW := hs1.out.lt
      have hmE : Marks w.heap.size Ds (W.setRow (w.heap.size + 1 + 1) (boolRow 64 (bAll F.fn s F.code.length))) := hm1.out.keep fun D hD => setRow_other _ _ _ _ fun q => by
        have := (hm1.out.at_ D hD).2
        rw [q, hR] at this
        cases this
      have hbE : Below w.heap.size w (W.setRow (w.heap.size + 1 + 1) (boolRow 64 (bAll F.fn s F.code.length))) := hs1.out.b.trans (below_row (by omega))
      refine leaves_marks (n₀ := w.heap.size) Ds _ hmE fun W' hk => ?_
      exact ⟨_, results_pl Tryd.results34 _ _ (w.heap.size + 1 + 1) _ rfl (hk.c _ _ _ _ (setRow_heap W (w.heap.size + 1 + 1) _ _ _ _ hR)), rfl, hbE.trans hk.b⟩
end Go.Proofs.YtmgmiaonljcfcaaDoor.pg
/- Some places and all that may be come to from them. -/
namespace Go.Proofs.YtmgmiaonljcfcaaDoor.pg
open Go.ChangeShapes Go.WideShapes Go.ChangeAt Go.RowKit Go.Shelf
set_option linter.unusedVariables false
set_option linter.unusedSimpArgs false
set_option maxRecDepth 100000
attribute [local go_sem] Oper.semAt_some
theorem always_any (op : Int) (w : World) : Calls Tryd.prog 38 #[.int .i64 op] w fun e w' => e = .returned (.bool true) ∧ w' = w := by
  go_enter Tryd.func38, Tryd.ntmps38
  go_wp2
  go_ret
  exact ⟨rfl, rfl⟩
theorem three_new (w : World) (a b c : Obj) : (((w.alloc a).alloc b).alloc c).heap[w.heap.size]? = some a ∧ (((w.alloc a).alloc b).alloc c).heap[w.heap.size + 1]? = some b ∧ (((w.alloc a).alloc b).alloc c).heap[w.heap.size + 1 + 1]? = some c := by
  have e1 := (boxed2 (w.alloc a) b c).block w.heap.size (by rw [World.size_alloc]; omega)
  have e2 := (boxed ((w.alloc a).alloc b) c).block (w.heap.size + 1) (by rw [World.size_alloc, World.size_alloc]; omega)
  have n2 := heap_alloc_new (w.alloc a) b
  have n3 := heap_alloc_new ((w.alloc a).alloc b) c
  rw [World.size_alloc] at n2
  rw [World.size_alloc, World.size_alloc] at n3
  exact ⟨e1.trans (heap_alloc_new w a), e2.trans n2, n3⟩
theorem puts_more {o : Nat → Bool} {l : List PlI} {x : PlI} {xn : Nat} (hxn : (xn : Int) = x.1) : boolRow 64 (fun b => if b = xn then true else puts o (l.map (·.1)) b) = boolRow 64 (puts o ((l ++ [x]).map (·.1))) := by
  have : (fun b => if b = xn then true else puts o (l.map (·.1)) b) = puts o ((l ++ [x]).map (·.1)) := by
    rw [List.map_append, ← puts_app]
    funext b
    by_cases c : b = xn
    · subst c
      rw [if_pos rfl]
      unfold puts
      simp [hxn]
    · rw [if_neg c]
      show _ = (puts o (l.map (·.1)) b || decide ((b : Int) ∈ [x.1]))
      have : decide ((b : Int) ∈ [x.1]) = false := by
        rw [decide_eq_false_iff_not, List.mem_singleton, ← hxn]
        omega
      rw [this, Bool.or_false]
  rw [this]
theorem gPass_congr {f : Fn} (hf : FlowF f) (L : Int → Bool) {s t : Nat → Bool} (h : ∀ k, k < 64 → t k = s k) : ∀ m, m ≤ 64 → ∀ j, j < 64 → gPass f L t m j = gPass f L s m j
  | 0, _, j, hj => h j hj
  | m + 1, hm, j, hj => by
    have ih := gPass_congr hf L h m (by omega)
    rw [gPass, gPass, ih m (by omega)]
    split
    · unfold puts; rw [ih j hj]
    · exact ih j hj
theorem below_rowN {n B : Nat} {a w : World} {cs : Array Value} (h : Below n a w) (hB : n ≤ B) : Below n a (w.setRow B cs) :=
  ⟨h.os, h.tape, h.output, by rw [setRow_size]; exact h.size, fun k hk => (setRow_other w B k cs (by omega)).trans (h.block k hk)⟩
abbrev alw : Int → Bool := fun _ => true
/-- Where all lies while places are gathered. -/
structure GA (w W : World) (F : MFn) (s : Nat → Bool) : Prop where
  b : Below w.heap.size w W
  f : W.heap[w.heap.size]? = some (objFn F)
  s : W.heap[w.heap.size + 1]? = some (objPl s)
  r : W.heap[w.heap.size + 1 + 1]? = some (objPl fun _ => false)
theorem GA.lt {w W : World} {F : MFn} {s : Nat → Bool} (h : GA w W F s) : w.heap.size + 1 + 1 < W.heap.size := (Array.getElem?_eq_some_iff.mp h.r).1
theorem GA.keep {w W W' : World} {F : MFn} {s : Nat → Bool} (h : GA w W F s) (hb : Below w.heap.size W W') (hk : ∀ b, b < w.heap.size + 3 → W'.heap[b]? = W.heap[b]?) : GA w W' F s :=
  ⟨h.b.trans hb, (hk _ (by omega)).trans h.f, (hk _ (by omega)).trans h.s, (hk _ (by omega)).trans h.r⟩
theorem GA.later {w W W' : World} {F : MFn} {s : Nat → Bool} (h : GA w W F s) (hb : Below W.heap.size W W') : GA w W' F s := h.keep (hb.mono (by have := h.lt; omega)) fun b q => hb.block b (by have := h.lt; omega)
/-- How many places are not marked, read off the world. -/
def cellT : Option Value → Bool
  | some (.bool true) => true
  | _ => false
def missW (B : Nat) (W : World) : Nat := match W.heap[B]? with
  | some (.cells cs _ _) => miss (fun k => cellT cs[k]?) 64
  | _ => 0
theorem miss_congr {s t : Nat → Bool} : ∀ n, (∀ k, k < n → s k = t k) → miss s n = miss t n
  | 0, _ => rfl
  | n + 1, h => by rw [miss, miss, miss_congr n fun k hk => h k (by omega), h n (by omega)]
theorem missW_is {B : Nat} {W : World} {s : Nat → Bool} (h : W.heap[B]? = some (objPl s)) : missW B W = miss s 64 := by
  unfold missW
  rw [h]
  refine miss_congr 64 fun k hk => ?_
  rw [boolRow_at hk]
  cases s k <;> rfl
theorem pl_same {s t : Nat → Bool} : ((List.range 64).all fun k => s k == t k) = true ↔ ∀ k, k < 64 → s k = t k := by
  rw [List.all_eq_true]
  simp only [List.mem_range, beq_iff_eq]
def gOT (w : World) (F : MFn) (s₀ : Nat → Bool) (u7 u8 u9 u10 u11 u12 u13 u14 u15 u16 u17 u18 u19 u20 u21 u22 u23 u24 u25 u26 u27 u28 u29 u30 u31 u32 u33 u34 u35 u36 u37 u38 u39 : Value) (d : List Deferred) : Act := { tmps := #[F.val, .agg (boolRow 64 s₀), .func (.func 38) #[] #[], .pointer (some ⟨w.heap.size, 0, none⟩), .pointer (some ⟨w.heap.size + 1, 0, none⟩), undef, .pointer (some ⟨w.heap.size + 1 + 1, 0, none⟩), u7, u8, u9, u10, u11, u12, u13, u14, u15, u16, u17, u18, u19, u20, u21, u22, u23, u24, u25, u26, u27, u28, u29, u30, u31, u32, u33, u34, u35, u36, u37, u38, u39], defers := d }
def gIT (w : World) (F : MFn) (s₀ s : Nat → Bool) (BB k : Nat) (u8 u9 u10 u16 u17 u18 u19 u20 u21 u22 u23 u24 u25 u26 u27 u28 u29 u30 u31 u32 u33 u34 u35 u36 u37 u38 u39 : Value) (d : List Deferred) : Act := { tmps := #[F.val, .agg (boolRow 64 s₀), .func (.func 38) #[] #[], .pointer (some ⟨w.heap.size, 0, none⟩), .pointer (some ⟨w.heap.size + 1, 0, none⟩), undef, .pointer (some ⟨w.heap.size + 1 + 1, 0, none⟩), .pointer (some ⟨BB, 0, none⟩), u8, u9, u10, .agg (boolRow 64 s), .pointer (some ⟨w.heap.size, 2, none⟩), .slice F.ca F.code.length F.ccap, .int .i64 F.code.length, .int .i64 (k : Int), u16, u17, u18, u19, u20, u21, u22, u23, u24, u25, u26, u27, u28, u29, u30, u31, u32, u33, u34, u35, u36, u37, u38, u39], defers := d }
/-- What is known between two rounds of the outer loop. -/
structure GO (w W : World) (F : MFn) (s₀ s : Nat → Bool) (Ds : List Nat) : Prop where
  g : GA w W F s
  m : Marks w.heap.size Ds W
  up : ∀ k, s₀ k = true → s k = true
  le : ∀ R, (∀ k, s₀ k = true → R k = true) → closedF F.fn alw R → ∀ k, s k = true → R k = true
/-- And of the inner one. -/
structure GI (w W : World) (F : MFn) (s t : Nat → Bool) (BB : Nat) (Ds : List Nat) : Prop where
  g : GA w W F t
  m : Marks w.heap.size Ds W
  bb : w.heap.size + 1 + 1 < BB
  q : W.heap[BB]? = some (objPl s)
theorem GI.later {w W W' : World} {F : MFn} {s t : Nat → Bool} {BB : Nat} {Ds : List Nat} (h : GI w W F s t BB Ds) (hb : Below W.heap.size W W') : GI w W' F s t BB Ds := ⟨h.g.later hb, h.m.later hb, h.bb, (hb.block BB (Array.getElem?_eq_some_iff.mp h.q).1).trans h.q⟩
set_option maxHeartbeats 8000000 in
theorem grown_any (F : MFn) (s₀ : Nat → Bool) (w : World) (hF : F.lies w) (hfl : FlowF F.fn) :
    Calls Tryd.prog 37 #[F.val, .agg (boolRow 64 s₀), .func (.func 38) #[] #[]] w fun e w' => ∃ R, e = .returned (.agg (boolRow 64 R)) ∧ Least F.fn alw s₀ R ∧ Below w.heap.size w w' := by
  have huP : Hid (Tryd.prog.underlying 60 = _) := Tryd.underlying60
  have hzP : Hid (∀ w, (zeroValue 60).run Tryd.prog w = .ok (.agg (boolRow 64 fun _ => false)) w) := zeroSt
  have hl64 : (F.code.length : Int) ≤ 64 := by have := hfl.l64; have h : F.fn.code.length = F.code.length := rfl; omega
  obtain ⟨p1, p2, p3⟩ := three_new w (objFn F) (objPl s₀) (objPl fun _ => false)
  have s0 : Hid (GO w (((w.alloc (objFn F)).alloc (objPl s₀)).alloc (objPl fun _ => false)) F s₀ s₀ []) := ⟨⟨boxed3 _ _ _ _, p1, p2, p3⟩, Marks.nil _ _, fun _ h => h, fun R h _ => h⟩
  have hFH : Hid (F.lies w) := hF
  have hflH : Hid (FlowF F.fn) := hfl
  clear p1 p2 p3 hF hfl
  refine (callsIn_wide (n := 3)).1 ?_
  refine callsIn_of_wp_marks Tryd.func37 rfl trivial ?_ rfl
  simp only [Tryd.ntmps37, List.size_toArray, List.length_cons, List.length_nil, Nat.reduceAdd, Nat.reduceSub, Array.replicate_succ, Array.replicate_zero, List.push_toArray, List.append_toArray, List.nil_append, List.cons_append]
  refine wpIn_wide.2 ?_
  go_wp2_with (refine wpList_alloc_big rfl 60 rfl hzP.out ?_)
  try simp only [Act.put, List.setIfInBounds_toArray, List.set_cons_zero, List.set_cons_succ, World.size_alloc]
  generalize ((w.alloc (objFn F)).alloc (objPl s₀)).alloc (objPl fun _ => false) = V at *
  refine wp_loop (fun a' W' => ∃ (s : Nat → Bool) (Ds : List Nat) (u7 u8 u9 u10 u11 u12 u13 u14 u15 u16 u17 u18 u19 u20 u21 u22 u23 u24 u25 u26 u27 u28 u29 u30 u31 u32 u33 u34 u35 u36 u37 u38 u39 : Value), Hid (GO w W' F s₀ s Ds) ∧ a' = gOT w F s₀ u7 u8 u9 u10 u11 u12 u13 u14 u15 u16 u17 u18 u19 u20 u21 u22 u23 u24 u25 u26 u27 u28 u29 u30 u31 u32 u33 u34 u35 u36 u37 u38 u39 (Ds.map mkD)) (fun _ W' => missW (w.heap.size + 1) W') ?_ ?_
  · exact ⟨s₀, [], undef, undef, undef, undef, undef, undef, undef, undef, undef, undef, undef, undef, undef, undef, undef, undef, undef, undef, undef, undef, undef, undef, undef, undef, undef, undef, undef, undef, undef, undef, undef, undef, undef, s0, rfl⟩
  · rintro a' W ⟨s, Ds, u7, u8, u9, u10, u11, u12, u13, u14, u15, u16, u17, u18, u19, u20, u21, u22, u23, u24, u25, u26, u27, u28, u29, u30, u31, u32, u33, u34, u35, u36, u37, u38, u39, ho, rfl⟩
    clear s0
    unfold gOT
    have hSB := ho.out.g.s
    have hlt0 := ho.out.g.lt
    have hzi : (W.alloc (objPl fun _ => false)).heap[W.heap.size]? = some (objPl fun _ => false) := heap_alloc_new W _
    have hbw : Below W.heap.size W ((W.alloc (objPl fun _ => false)).setRow W.heap.size (boolRow 64 s)) := below_rowN (boxed _ _) (Nat.le_refl _)
    have f2 := cell_ofF (k := 2) (v := .slice F.ca F.code.length F.ccap) (ho.out.g.later hbw).f rfl
    have i0 : Hid (GI w ((W.alloc (objPl fun _ => false)).setRow W.heap.size (boolRow 64 s)) F s (gPass F.fn alw s 0) W.heap.size Ds) := ⟨ho.out.g.later hbw, ho.out.m.later hbw, hlt0, setRow_heap _ _ _ _ _ _ hzi⟩
    have hup : Hid (∀ k, s₀ k = true → s k = true) := ho.out.up
    have hle : Hid (∀ R, (∀ k, s₀ k = true → R k = true) → closedF F.fn alw R → ∀ k, s k = true → R k = true) := ho.out.le
    have hms : Hid (missW (w.heap.size + 1) W = miss s 64) := missW_is hSB
    have hmsW : ∀ (Z : Nat), Hid (missW (w.heap.size + 1) W = Z) → True := fun _ _ => trivial
    clear hmsW hbw
    obtain ⟨MZ, hMZ⟩ : ∃ MZ, Hid (missW (w.heap.size + 1) W = MZ) := ⟨_, rfl⟩
    go_wp2_with (first
      | (refine wpList_load_row rfl 60 _ rfl (w.heap.size + 1) rfl _ _ _ _ hSB huP.out rfl (infoSt _) ?_)
      | (refine wpList_alloc_big rfl 60 rfl hzP.out ?_)
      | (refine wpList_store_row rfl 60 _ _ rfl W.heap.size (boolRow 64 s) rfl rfl _ _ hzi (infoSt _) (by rw [boolRow_size, boolRow_size]) (boolRow_one _ _) ?_))
    try simp only [Act.put, List.setIfInBounds_toArray, List.set_cons_zero, List.set_cons_succ]
    clear f2 hzi hSB ho
    generalize (W.alloc (objPl fun _ => false)).setRow W.heap.size (boolRow 64 s) = V1 at *
    generalize W.heap.size = BB at *
    refine wp_loop (fun a' W' => ∃ (k : Nat) (Es : List Nat) (u8 u9 u10 u16 u17 u18 u19 u20 u21 u22 u23 u24 u25 u26 u27 u28 u29 u30 u31 u32 u33 u34 u35 u36 u37 u38 u39 : Value), k ≤ F.code.length ∧ Hid (GI w W' F s (gPass F.fn alw s k) BB Es) ∧ a' = gIT w F s₀ s BB k u8 u9 u10 u16 u17 u18 u19 u20 u21 u22 u23 u24 u25 u26 u27 u28 u29 u30 u31 u32 u33 u34 u35 u36 u37 u38 u39 (Es.map mkD)) (fun a' _ => F.code.length - (intOf (a'.tmps.getD 15 undef)).toNat) ?_ ?_
    · exact ⟨0, Ds, u8, u9, u10, u16, u17, u18, u19, u20, u21, u22, u23, u24, u25, u26, u27, u28, u29, u30, u31, u32, u33, u34, u35, u36, u37, u38, u39, Nat.zero_le _, i0, rfl⟩
    · rintro a' Y ⟨k, Es, u8, u9, u10, u16, u17, u18, u19, u20, u21, u22, u23, u24, u25, u26, u27, u28, u29, u30, u31, u32, u33, u34, u35, u36, u37, u38, u39, hk, hi, rfl⟩
      clear i0
      unfold gIT
      by_cases hlt : k < F.code.length
      · obtain ⟨m1, m2⟩ := insAt_mem (code := F.code) (pc := (k : Int)) (by omega) (by omega)
        rw [Int.toNat_natCast] at m1
        obtain ⟨ib, io, hix, hib, i0, i1, i2, i3, i4⟩ := ins_ix (hFH.out.later hi.out.g.b).1 k _ m1
        have hmore : Hid (gPass F.fn alw s (k + 1) = if gPass F.fn alw s k k = true ∧ alw (insAt F.code k).op = true then puts (gPass F.fn alw s k) (nxt F.fn k) else gPass F.fn alw s k) := rfl
        generalize insAt F.code k = i at *
        have hkI : (k : Int) < F.code.length := by omega
        have hk64 : k < 64 := by omega
        have xI := ix_pl (w.heap.size + 1) k hk64
        have hbn := boxed Y (.cells #[.int .i64 i.op, .int .i64 i.a, .int .i64 i.b, .int .i64 i.c, .int .i64 i.n] 72)
        have hCn : (Y.alloc (.cells #[.int .i64 i.op, .int .i64 i.a, .int .i64 i.b, .int .i64 i.c, .int .i64 i.n] 72)).heap[Y.heap.size]? = some (.cells #[.int .i64 i.op, .int .i64 i.a, .int .i64 i.b, .int .i64 i.c, .int .i64 i.n] 72) := heap_alloc_new Y _
        have j0 := cell_ofF (k := 0) (v := .int .i64 i.op) hCn rfl
        have hi2 : Hid (GI w (Y.alloc (.cells #[.int .i64 i.op, .int .i64 i.a, .int .i64 i.b, .int .i64 i.c, .int .i64 i.n] 72)) F s (gPass F.fn alw s k) BB Es) := hi.out.later hbn
        have cI := cell_ofF (k := k) (v := .bool (gPass F.fn alw s k k)) hi2.out.g.s (boolRow_at hk64)
        have hYl := hi.out.g.lt
        clear hbn hCn hi m1 m2 hib
        obtain ⟨bk, hbk⟩ : ∃ bk, gPass F.fn alw s k k = bk := ⟨_, rfl⟩
        rw [hbk] at cI
        cases bk with
        | false =>
          have hN : Hid (gPass F.fn alw s (k + 1) = gPass F.fn alw s k) := by show _ = _; rw [hmore.out, if_neg (by rw [hbk]; simp)]
          clear hmore hbk
          go_wp2
          refine ⟨⟨k + 1, Es, _, _, _, _, _, _, _, _, _, _, _, _, _, _, _, _, _, _, _, _, _, _, _, _, _, _, _, by omega, by rw [hN.out]; exact hi2, rfl⟩, ?_⟩
          simp [intOf]
          omega
        | true =>
          have hN : Hid (gPass F.fn alw s (k + 1) = puts (gPass F.fn alw s k) (nxt F.fn k)) := by show _ = _; rw [hmore.out, if_pos ⟨hbk, rfl⟩]
          have hto : ∀ x ∈ nxt F.fn k, 0 ≤ x ∧ x < 64 := fun x hx => by have h1 := hflH.out.n k hlt x hx; have h2 := hflH.out.l64; omega
          have l0 := cell_ofF (k := 0) (v := .int .i64 F.params) hi2.out.g.f rfl
          have l1 := cell_ofF (k := 1) (v := .int .i64 F.regs) hi2.out.g.f rfl
          have l2 := cell_ofF (k := 2) (v := .slice F.ca F.code.length F.ccap) hi2.out.g.f rfl
          have l3 := cell_ofF (k := 3) (v := .slice F.sa F.sels.length F.scap) hi2.out.g.f rfl
          have cA := always_any i.op (Y.alloc (.cells #[.int .i64 i.op, .int .i64 i.a, .int .i64 i.b, .int .i64 i.c, .int .i64 i.n] 72))
          have cB := behind_any F (k : Int) (Y.alloc (.cells #[.int .i64 i.op, .int .i64 i.a, .int .i64 i.b, .int .i64 i.c, .int .i64 i.n] 72))
          rw [World.size_alloc] at cB
          clear hmore hbk
          go_wp2_with (first
            | (go_at_call 38; (refine cA.mono ?_); rintro e w0 ⟨rfl, hw0⟩; replace hw0 := hw0.symm; subst hw0)
            | (go_at_call 53; (refine cB.mono ?_); rintro e w1 ⟨rfl, hw1⟩))
          clear l0 l1 l2 l3 cI xI cB cA i0 i1 i2 i3 i4 j0
          have hbW : Below (Y.alloc (.cells #[.int .i64 i.op, .int .i64 i.a, .int .i64 i.b, .int .i64 i.c, .int .i64 i.n] 72)).heap.size (Y.alloc (.cells #[.int .i64 i.op, .int .i64 i.a, .int .i64 i.b, .int .i64 i.c, .int .i64 i.n] 72)) w1 := by rw [hw1]; exact boxed2 _ _ _
          obtain ⟨q1, q2⟩ := two_new (Y.alloc (.cells #[.int .i64 i.op, .int .i64 i.a, .int .i64 i.b, .int .i64 i.c, .int .i64 i.n] 72)) (objFn F) (.cells #[.int .i64 (k : Int)] 3)
          rw [← hw1, World.size_alloc] at q1 q2
          rw [← hw1]
          have hsz : w1.heap.size = Y.heap.size + 1 + 1 + 1 := by rw [hw1]; simp [World.size_alloc]
          have hi1 : GI w w1 F s (gPass F.fn alw s k) BB Es := hi2.out.later hbW
          have hDl : ∀ D ∈ Es, D < w1.heap.size := fun D hD => hi1.m.lt hD
          have hBl : BB < w1.heap.size := (Array.getElem?_eq_some_iff.mp hi1.q).1
          clear hw1 hi2 hbW
          refine (wpIn_wide (n := 3)).1 ?_
          refine wpIn_rangeFunc_ownG (n := 3) rfl (by omega) (gf := 59) (lb := #[.pointer (some ⟨Y.heap.size + 1, 0, none⟩), .pointer (some ⟨Y.heap.size + 1 + 1, 0, none⟩)]) rfl trivial (enters_of Tryd.func59 (by kernel_rfl) rfl)
            (behind_stops 2 w F hFH.out hflH.out k hlt hto (w.heap.size + 1) (Y.heap.size + 1) (Y.heap.size + 1 + 1) w1 hi1.g.b (by omega) q1 q2 (by omega)) KeepC.trans (keepC_b (by omega)) (Below.refl _ _) (fun _ => rfl)
            (fun pre Z => GI w Z F s (puts (gPass F.fn alw s k) (pre.map (·.1))) BB Es) (fun _ _ _ => False) ?own (fun _ _ _ _ _ hs _ _ => hs) (by rw [List.map_nil, puts_nil]; exact hi1)
            (fun x => { tmps := #[F.val, .agg (boolRow 64 s₀), .func (.func 38) #[] #[], .pointer (some ⟨w.heap.size, 0, none⟩), .pointer (some ⟨w.heap.size + 1, 0, none⟩), undef, .pointer (some ⟨w.heap.size + 1 + 1, 0, none⟩), .pointer (some ⟨BB, 0, none⟩), .int .i64 (k : Int), .pointer (some ⟨Y.heap.size, 0, none⟩), .int .i64 x.1, .agg (boolRow 64 s), .pointer (some ⟨w.heap.size, 2, none⟩), .slice F.ca F.code.length F.ccap, .int .i64 F.code.length, .int .i64 (k : Int), .bool true, .int .i64 (k : Int), .pointer (some ⟨ib, io, none⟩), i.val, .int .i64 (k : Int), .pointer (some ⟨w.heap.size + 1, k, none⟩), .bool true, .bool true, .func (.func 38) #[] #[], .pointer (some ⟨Y.heap.size, 0, none⟩), .int .i64 i.op, .bool true, .bool true, F.val, .int .i64 (k : Int), .func (.func 59) #[] #[.pointer (some ⟨Y.heap.size + 1, 0, none⟩), .pointer (some ⟨Y.heap.size + 1 + 1, 0, none⟩)], .int .i64 x.1, u33, u34, u35, u36, u37, u38, u39], defers := [] }) ?assign ?body ?done ?stop
          case own =>
            rintro pre A B row h1 hgr hr
            have hA := h1.g.lt
            have hne : ∀ b, b < w1.heap.size → some b ≠ row := fun b hb e => by have := (hr b e.symm).1; omega
            refine ⟨h1.g.keep ((Below.refl _ A).grown hgr (by omega) (fun r e => by have := (hr r e).1; omega)) fun b hb => hgr.block b (by omega) (hne b (by omega)), h1.m.keep fun D hD => hgr.block D (h1.m.lt hD) (hne D (hDl D hD)), h1.bb, ?_⟩
            exact (hgr.block BB (Array.getElem?_eq_some_iff.mp h1.q).1 (hne BB hBl)).trans h1.q
          case assign =>
            intro l x Z K hK
            gi_wp2
            exact hK
          case body =>
            rintro l pre x Z h1 _
            obtain ⟨xn, hxn⟩ : ∃ xn : Nat, (xn : Int) = x.1 := ⟨x.1.toNat, by have := x.2.1; omega⟩
            have hx64 : xn < 64 := by have := x.2.2; omega
            have xO := ix_pl (w.heap.size + 1) xn hx64
            rw [hxn] at xO
            have cO := cell_ofF (k := xn) (v := .bool (puts (gPass F.fn alw s k) (pre.map (·.1)) xn)) h1.g.s (boolRow_at hx64)
            have fO : Z.frozen? ⟨w.heap.size + 1, xn, none⟩ = false := frozen_of_row _ _ _ _ _ h1.g.s
            have hlV := h1.g.lt
            have hbb := h1.bb
            have nx : Hid (∀ W', W' = Z.setCell ⟨w.heap.size + 1, xn, none⟩ (.bool true) → KeepsFrom w1.heap.size Z W' ∧ KeepC w.heap.size (w.heap.size + 1) Z W' ∧ GI w W' F s (puts (gPass F.fn alw s k) ((pre ++ [x]).map (·.1))) BB Es) := fun W' e => by
              have hk : ∀ b, b ≠ w.heap.size + 1 → W'.heap[b]? = Z.heap[b]? := fun b q => by rw [e]; exact Below.heap_setCell _ _ _ _ q
              have hb : Below w.heap.size Z W' := by rw [e]; exact (Below.refl _ Z).setCell (p := ⟨w.heap.size + 1, xn, none⟩) (by show w.heap.size ≤ w.heap.size + 1; omega) _
              refine ⟨by rw [e]; exact (KeepsOthers.setCell _ _ _).from _, ⟨hb, fun b cs t z hb' q => (hk b hb').trans q⟩, ⟨h1.g.b.trans hb, (hk _ (by omega)).trans h1.g.f, ?_, (hk _ (by omega)).trans h1.g.r⟩, h1.m.keep fun D hD => hk D fun q => ?_, h1.bb, (hk _ (by omega)).trans h1.q⟩
              · rw [e, setCell_eq_setRow Z (w.heap.size + 1) xn _ _ _ _ h1.g.s, boolRow_set, setRow_heap Z (w.heap.size + 1) _ _ _ _ h1.g.s, puts_more hxn]
              · have := (h1.m.at_ D hD).2
                rw [q, h1.g.s] at this
                cases this
            clear h1
            gi_wp2_with (refine inR_list rfl (by simp) (wpList_putb rfl 4 _ _ rfl ⟨w.heap.size + 1, xn, none⟩ rfl true rfl (by kernel_rfl) _ cO fO fun W' hW' => wpList_nil ?_); (have hfin := nx.out W' hW'); clear hW'; show wpListIn (Fence.wide.inRound l) _ _ _ _ _ _ _)
            exact hfin
          case done =>
            rintro D ys Z hD rfl h1 hK
            rw [subL_val] at h1
            have hm : Hid (GI w Z F s (gPass F.fn alw s (k + 1)) BB (D :: Es)) := ⟨by rw [hN.out]; exact h1.g, h1.m.more (by omega) (fun q => by have := hDl D q; omega) hK, h1.bb, h1.q⟩
            clear h1 hK
            go_wp2
            refine ⟨⟨k + 1, D :: Es, _, _, _, _, _, _, _, _, _, _, _, _, _, _, _, _, _, _, _, _, _, _, _, _, _, _, _, by omega, hm, rfl⟩, ?_⟩
            simp [intOf]
            omega
          case stop =>
            rintro D c pre Z _ _ h _
            exact h.elim
      · have hke : k = F.code.length := by omega
        have hkI : ¬ ((k : Int) < F.code.length) := by omega
        obtain ⟨t, ht⟩ : ∃ t, Hid (t = gPass F.fn alw s F.code.length) := ⟨_, rfl⟩
        have hi1 : Hid (GI w Y F s t BB Es) := by have := hi.out; rw [hke, ← ht.out] at this; exact this
        have hS := hi1.out.g.s
        have hQ := hi1.out.q
        have hR := hi1.out.g.r
        have eq1 := eqS_run t s
        obtain ⟨eb, heb⟩ : ∃ eb, Hid (((List.range 64).all fun k => t k == s k) = eb) := ⟨_, rfl⟩
        rw [heb.out] at eq1
        clear hi hke
        cases eb with
        | true =>
          have hsm := pl_same.mp heb.out
          clear heb
          go_wp2_with (first
            | (refine wpList_load_row rfl 60 _ rfl (w.heap.size + 1) rfl _ _ _ _ hS huP.out rfl (infoSt _) ?_)
            | (refine wpList_load_row rfl 60 _ rfl BB rfl _ _ _ _ hQ huP.out rfl (infoSt _) ?_)
            | (refine wpList_store_row rfl 60 _ _ rfl (w.heap.size + 1 + 1) (boolRow 64 t) rfl rfl _ _ hR (infoSt _) (by rw [boolRow_size, boolRow_size]) (boolRow_one _ _) ?_))
          have hlW := hi1.out.g.lt
          have hmE : Marks w.heap.size Es (Y.setRow (w.heap.size + 1 + 1) (boolRow 64 t)) := hi1.out.m.keep fun D hD => setRow_other _ _ _ _ fun q => by
            have := (hi1.out.m.at_ D hD).2
            rw [q, hR] at this
            cases this
          have hbE : Below w.heap.size w (Y.setRow (w.heap.size + 1 + 1) (boolRow 64 t)) := hi1.out.g.b.trans (below_row (by omega))
          refine leaves_marks (n₀ := w.heap.size) Es _ hmE fun W' hk => ?_
          refine ⟨_, results_pl Tryd.results37 _ _ (w.heap.size + 1 + 1) t rfl (hk.c _ _ _ _ (setRow_heap Y (w.heap.size + 1 + 1) _ _ _ _ hR)), t, rfl, ?_, hbE.trans hk.b⟩
          have hts : ∀ k, s₀ k = true → t k = true := fun k h => by rw [ht.out]; exact gPass_up _ _ _ _ k (hup.out k h)
          have htl : ∀ R, (∀ k, s₀ k = true → R k = true) → closedF F.fn alw R → ∀ k, t k = true → R k = true := fun R h1 h2 k h3 => gPass_le hflH.out alw (fun k q => hle.out R h1 h2 k q) h2 F.code.length (Nat.le_refl _) k (by rw [← ht.out]; exact h3)
          refine least_fix hflH.out alw hts htl fun k hk => ?_
          have hcg : ∀ m, m ≤ 64 → ∀ j, j < 64 → gPass F.fn alw t m j = gPass F.fn alw s m j := gPass_congr hflH.out alw hsm
          rw [show F.fn.code.length = F.code.length from rfl, hcg F.code.length (by omega) k hk, ← ht.out]
        | false =>
          have hd : ∃ k, k < 64 ∧ t k ≠ s k := by
            apply Classical.byContradiction
            intro q
            have : ((List.range 64).all fun k => t k == s k) = true := pl_same.mpr fun k hk => Classical.byContradiction fun h => q ⟨k, hk, h⟩
            rw [heb.out] at this
            cases this
          have hlt2 : Hid (missW (w.heap.size + 1) Y < missW (w.heap.size + 1) W) := by
            show _ < _
            rw [hms.out, missW_is hS]
            exact miss_lt (fun k h => by rw [ht.out]; exact gPass_up _ _ _ _ k h) 64 hd
          have hgo : Hid (GO w Y F s₀ t Es) := ⟨hi1.out.g, hi1.out.m, fun k h => by rw [ht.out]; exact gPass_up _ _ _ _ k (hup.out k h), fun R h1 h2 k h3 => gPass_le hflH.out alw (fun k q => hle.out R h1 h2 k q) h2 F.code.length (Nat.le_refl _) k (by rw [← ht.out]; exact h3)⟩
          clear heb hd
          go_wp2_with (first
            | (refine wpList_load_row rfl 60 _ rfl (w.heap.size + 1) rfl _ _ _ _ hS huP.out rfl (infoSt _) ?_)
            | (refine wpList_load_row rfl 60 _ rfl BB rfl _ _ _ _ hQ huP.out rfl (infoSt _) ?_))
          exact ⟨⟨t, Es, hgo, rfl⟩, hlt2.out⟩
end Go.Proofs.YtmgmiaonljcfcaaDoor.pg
/- The contracts of package prog's look at a function, and of Check. -/
namespace Go.Proofs.YtmgmiaonljcfcaaDoor.pg
open Go.ChangeShapes Go.WideShapes Go.ChangeAt Go.RowKit
set_option linter.unusedVariables false
set_option linter.unusedSimpArgs false
set_option maxRecDepth 100000
theorem fnE_shape {ins : Pr → Fn → Ins → Int} {P : Pr} {n : Nat} {f : Fn} (h : ¬ (shaped f ∧ (n = 0 → f.params = 0))) : fnE ins P n f = (32, 0) := by unfold fnE; rw [if_neg h]
theorem fnE_sel {ins : Pr → Fn → Ins → Int} {P : Pr} {n : Nat} {f : Fn} {e : Int} (h : shaped f ∧ (n = 0 → f.params = 0)) (h2 : firstE (selE P f) f.sels = e) (he : e ≠ 0) : fnE ins P n f = (e, 0) := by
  unfold fnE; rw [if_pos h, if_neg (by rw [h2]; exact he), h2]
theorem fnE_ins {ins : Pr → Fn → Ins → Int} {P : Pr} {n : Nat} {f : Fn} {e : Int} {k : Nat} (h : shaped f ∧ (n = 0 → f.params = 0)) (h2 : firstE (selE P f) f.sels = 0) (h3 : firstAt (ins P f) f.code 0 = (e, k)) (he : e ≠ 0) : fnE ins P n f = (e, (k : Int)) := by
  have h4 : firstE (ins P f) f.code ≠ 0 := by rw [← firstAt_fst (ins P f) f.code 0, h3]; exact he
  unfold fnE; rw [if_pos h, if_pos h2, if_neg h4, h3]
theorem fnE_fall {ins : Pr → Fn → Ins → Int} {P : Pr} {n : Nat} {f : Fn} (h : shaped f ∧ (n = 0 → f.params = 0)) (h2 : firstE (selE P f) f.sels = 0) (h3 : firstE (ins P f) f.code = 0) (h4 : ¬ ends (lastOp f)) : fnE ins P n f = (39, (f.code.length : Int) - 1) := by
  unfold fnE; rw [if_pos h, if_pos h2, if_pos h3, if_neg h4]
theorem fnE_ok {ins : Pr → Fn → Ins → Int} {P : Pr} {n : Nat} {f : Fn} (h : shaped f ∧ (n = 0 → f.params = 0)) (h2 : firstE (selE P f) f.sels = 0) (h3 : firstE (ins P f) f.code = 0) (h4 : ends (lastOp f)) : fnE ins P n f = (0, 0) := by
  unfold fnE; rw [if_pos h, if_pos h2, if_pos h3, if_pos h4]
theorem ret_ii {a b c d : Int} (h : (a, c) = (b, d)) : Ending.returned (.tuple #[.int .i64 a, .int .i64 c]) = .returned (.tuple #[.int .i64 b, .int .i64 d]) := by
  cases h; rfl
theorem sels_get (f : MFn) (k : Nat) (x : MSel) (hx : f.sels[k]? = some x) : f.fn.sels[k]? = some x.sel := by simp [MFn.fn, hx]
set_option maxHeartbeats 4000000 in
theorem checkFunc_any (M : MPr) (n : Nat) (f : MFn) (w : World) (r q : Int) (hl : M.lies w) (hF : prog.Forms w) (hf : M.fns[n]? = some f) (hr : Hid (fnE insP M.pr n f.fn = (r, q))) :
    Calls Tryd.prog 66 #[M.val, .int .i64 n] w fun e w' => e = .returned (.tuple #[.int .i64 r, .int .i64 q]) ∧ Below w.heap.size w w' := by
  have hb1 := boxed w (objP M)
  have hb2 := boxed (w.alloc (objP M)) (objF f)
  have hb := boxed2 w (objP M) (objF f)
  have bP0 := boxP_new w M
  have bP := bP0.later hb2
  have bF := boxF_new (w.alloc (objP M)) f
  simp only [World.size_alloc] at bF
  have hfm : f ∈ M.fns := List.mem_of_getElem? hf
  have hL := hl.later hb
  have hFW := hF.later hb
  have hfL : f.lies ((w.alloc (objP M)).alloc (objF f)) := hL.2.2.2.2.2.2 f hfm
  have hz : w.heap.size + 1 < ((w.alloc (objP M)).alloc (objF f)).heap.size := by simp only [World.size_alloc]; omega
  have hln := rows_len hfL.1
  have hlns := rows_len hfL.2.1
  obtain ⟨b, o, hix, hbl, c0, c1, c2, c3⟩ := fn_ix (hl.later hb1).2.2.1 n f hf
  obtain ⟨rs, hrs⟩ : ∃ rs, Hid (decide (shaped f.fn) = rs) := ⟨_, rfl⟩
  have hsh := shaped_any f _ hfL rs hrs
  clear hb1 hb2 hl hF bP0 hf hfm
  have hn0 : Hid ((0 : Int) ≤ n) := by show (0 : Int) ≤ n; omega
  go_enter Tryd.func66, Tryd.ntmps66
  cases rs with
  | false =>
    have hv : Hid (fnE insP M.pr n f.fn = (32, 0)) := fnE_shape (fun h => by have := hrs.out; rw [decide_eq_false_iff_not] at this; exact this h.1)
    go_wp2_with (go_at_call 73; (with_reducible refine hsh.mono ?_); rintro e w2 ⟨rfl, hb2⟩)
    go_ret2
    exact ⟨ret_ii (hv.out.symm.trans hr.out), bthen hb hb2⟩
  | true =>
    have hS : Hid (shaped f.fn) := by have := hrs.out; rw [decide_eq_true_iff] at this; exact this
    by_cases h0 : (n : Int) = 0 ∧ ¬ f.params = 0
    · have hv : Hid (fnE insP M.pr n f.fn = (32, 0)) := fnE_shape (fun h => h0.2 (h.2 (by omega)))
      obtain ⟨h00, h01⟩ := h0
      rw [h00] at hix
      go_wp2_with (go_at_call 73; (with_reducible refine hsh.mono ?_); rintro e w2 ⟨rfl, hb2⟩; obtain ⟨f0, f1, f2, f3⟩ := bF.later hb2)
      go_ret2
      exact ⟨ret_ii (hv.out.symm.trans hr.out), bthen hb hb2⟩
    · have hS0 : Hid (shaped f.fn ∧ (n = 0 → f.fn.params = 0)) := ⟨hS.out, fun hn => by
        apply Classical.byContradiction
        intro hp
        exact h0 ⟨by omega, hp⟩⟩
      have hreg : 0 ≤ f.regs ∧ f.regs ≤ 8 := hS.out.1
      have hcl : 1 ≤ f.code.length := hS.out.2.2.1.1
      obtain ⟨xl, hxl, hxm⟩ := get_lt f.code (f.code.length - 1) (by omega)
      have hlast : Hid (lastOp f.fn = xl.op) := by
        show lastOp f.fn = _
        unfold lastOp
        have : f.fn.code.getLast? = some xl := by rw [List.getLast?_eq_getElem?]; exact hxl
        rw [this]
      by_cases hn00 : (n : Int) = 0
      all_goals
        have hp0 : (n : Int) = 0 → f.params = 0 := fun hn => Classical.byContradiction fun hp => h0 ⟨hn, hp⟩
        first | (have hp0h : Hid (f.params = 0) := hp0 hn00; rw [hn00] at hix) | skip
        clear h0 hp0
        go_wp2_with (go_at_call 73; (with_reducible refine hsh.mono ?_); rintro e w2 ⟨rfl, hb2⟩; obtain ⟨f0, f1, f2, f3⟩ := bF.later hb2; first | (have hp00 := hp0h.out) | skip)
        first | clear hp00 | skip
        have hP2 : Hid (BoxP w2 w.heap.size M) := bP.later hb2
        have hF2 : Hid (BoxF w2 (w.heap.size + 1) f) := bF.later hb2
        have hL2 : Hid (M.lies w2) := hL.later hb2
        have hf2 : Hid (f.lies w2) := hfL.later hb2
        have hFo2 : Hid (prog.Forms w2) := hFW.later hb2
        have hbw2 : Below w.heap.size w w2 := bthen hb hb2
        have hz2 : w.heap.size + 1 < w2.heap.size := by have := hb2.size; omega
        clear hb2 hb bP bF hL hfL hFW hz hsh hix c0 c1 c2 c3 hbl f0 f1 f2 f3
        go_loopw [34] (fun u wr => ∃ k : Nat, k ≤ f.sels.length ∧ u = .int .i64 k ∧ (∀ j y, j < k → f.sels[j]? = some y → selE M.pr f.fn y.sel = 0) ∧ Below w2.heap.size w2 wr) (fun u _ => f.sels.length - (intOf u).toNat)
        case atStart => exact ⟨0, Nat.zero_le _, rfl, fun j y hj => by omega, Below.refl _ _⟩
        case round =>
          obtain ⟨k, hk, rfl, hall, hbr⟩ := hrel
          have hPr : Hid (BoxP wr w.heap.size M) := hP2.out.later hbr
          have hFr : Hid (BoxF wr (w.heap.size + 1) f) := hF2.out.later hbr
          obtain ⟨p0, p1, p2, p3⟩ := hPr.out
          obtain ⟨f0, f1, f2, f3⟩ := hFr.out
          have z := hbr.size
          have z0 : w.heap.size < wr.heap.size := by omega
          have z1 : w.heap.size + 1 < wr.heap.size := by omega
          have hbwr : Below w.heap.size w wr := bthen hbw2 hbr
          by_cases hlt : k < f.sels.length
          · obtain ⟨x, hx, hm⟩ := get_lt f.sels k hlt
            have hfr := hf2.out.later hbr
            obtain ⟨b, o, hix, hbl, c0, c1⟩ := sel_ix hfr.2.1 k x hx
            have hLa := (hL2.out.later hbr).later (boxed wr (objS x))
            have hSa := (hfr.2.2.2.1 x hm).later (boxed wr (objS x))
            obtain ⟨e, he⟩ : ∃ e, Hid (selE M.pr f.fn x.sel = e) := ⟨_, rfl⟩
            have hcall := checkSelect_any M f x _ hLa hSa e he
            have hbx : Below w.heap.size w (wr.alloc (objS x)) := bthen hbwr (boxed wr (objS x))
            have hbW : Below w2.heap.size w2 (wr.alloc (objS x)) := bthen hbr (boxed wr (objS x))
            clear hLa hSa hfr
            by_cases h0 : e = 0
            · subst h0
              go_wp2_with (go_at_call 74; (with_reducible refine hcall.mono ?_); rintro e w3 ⟨rfl, hb3⟩)
              go_roundw
              case rel => exact ⟨k + 1, by omega, by go_num, (fun j y hj hy => by
                by_cases hjk : j = k
                · subst hjk; rw [hx] at hy; cases hy; exact he.out
                · exact hall j y (by omega) hy), bthen hbW hb3⟩
              case measure => simp [intOf]; omega
            · have hv : Hid (fnE insP M.pr n f.fn = (e, 0)) := fnE_sel hS0.out ((firstE_hit _ _ k x.sel (sels_get f k x hx) (fun i y hi hy => by
                simp only [MFn.fn, List.getElem?_map, Option.map_eq_some_iff] at hy
                obtain ⟨y', hy', rfl⟩ := hy
                exact hall i y' hi hy') (by rw [he.out]; exact h0)).trans he.out) h0
              go_wp2_with (go_at_call 74; (with_reducible refine hcall.mono ?_); rintro e w3 ⟨rfl, hb3⟩)
              go_ret2
              exact ⟨ret_ii (hv.out.symm.trans hr.out), bthen hbx hb3⟩
          · have hs0 : Hid (firstE (selE M.pr f.fn) f.fn.sels = 0) := firstE_zero _ _ fun s hs => by
              simp only [MFn.fn, List.mem_map] at hs
              obtain ⟨y, hy, rfl⟩ := hs
              obtain ⟨j, hj, rfl⟩ := List.getElem_of_mem hy
              exact hall j _ (by omega) (List.getElem?_eq_getElem hj)
            have hLr : Hid (M.lies wr) := hL2.out.later hbr
            have hfr : Hid (f.lies wr) := hf2.out.later hbr
            have hFor : Hid (prog.Forms wr) := hFo2.out.later hbr
            clear hall hP2 hF2 hL2 hf2 hFo2 hbw2 hbr hz2 z
            go_wp2
            generalize hwq : wr = w4 at *
            go_loopw [49] (fun u wr => ∃ k : Nat, k ≤ f.code.length ∧ u = .int .i64 k ∧ (∀ j y, j < k → f.code[j]? = some y → insP M.pr f.fn y = 0) ∧ Below w4.heap.size w4 wr) (fun u _ => f.code.length - (intOf u).toNat)
            case atStart => exact ⟨0, Nat.zero_le _, rfl, fun j y hj => by omega, Below.refl _ _⟩
            case round =>
              obtain ⟨k, hk, rfl, hall, hbr⟩ := hrel
              have hPr2 : Hid (BoxP wr w.heap.size M) := hPr.out.later hbr
              have hFr2 : Hid (BoxF wr (w.heap.size + 1) f) := hFr.out.later hbr
              clear p0 p1 p2 p3 f0 f1 f2 f3
              obtain ⟨p0, p1, p2, p3⟩ := hPr2.out
              obtain ⟨f0, f1, f2, f3⟩ := hFr2.out
              have z := hbr.size
              have y0 : w.heap.size < wr.heap.size := by omega
              have y1 : w.heap.size + 1 < wr.heap.size := by omega
              have hbwr2 : Below w.heap.size w wr := bthen hbwr hbr
              by_cases hlt : k < f.code.length
              · obtain ⟨x, hx, hm⟩ := get_lt f.code k hlt
                have hfr2 := hfr.out.later hbr
                obtain ⟨b, o, hix, hbl, c0, c1, c2, c3, c4⟩ := ins_ix hfr2.1 k x hx
                have hLa := (hLr.out.later hbr).later (boxed wr (objI x))
                have hFoa := (hFor.out.later hbr).later (boxed wr (objI x))
                obtain ⟨e, he⟩ : ∃ e, Hid (insP M.pr f.fn x = e) := ⟨_, rfl⟩
                have hcall := checkInstr_any M f x _ e hLa (hfr2.2.2.1 x hm) hreg.1 hreg.2 hFoa he
                have hbx : Below w.heap.size w (wr.alloc (objI x)) := bthen hbwr2 (boxed wr (objI x))
                have hbW : Below w4.heap.size w4 (wr.alloc (objI x)) := bthen hbr (boxed wr (objI x))
                clear hLa hFoa hfr2
                by_cases h0 : e = 0
                · subst h0
                  go_wp2_with (go_at_call 75; (with_reducible refine hcall.mono ?_); rintro e w5 ⟨rfl, hb5⟩)
                  go_roundw
                  case rel => exact ⟨k + 1, by omega, by go_num, (fun j y hj hy => by
                    by_cases hjk : j = k
                    · subst hjk; rw [hx] at hy; cases hy; exact he.out
                    · exact hall j y (by omega) hy), bthen hbW hb5⟩
                  case measure => simp [intOf]; omega
                · have hv : Hid (fnE insP M.pr n f.fn = (e, (k : Int))) := fnE_ins hS0.out hs0.out ((firstAt_hit _ _ 0 k x hx hall (by rw [he.out]; exact h0)).trans (by rw [he.out, Nat.zero_add])) h0
                  go_wp2_with (go_at_call 75; (with_reducible refine hcall.mono ?_); rintro e w5 ⟨rfl, hb5⟩)
                  go_ret2
                  exact ⟨ret_ii (hv.out.symm.trans hr.out), bthen hbx hb5⟩
              · have hi0 : Hid (firstE (insP M.pr f.fn) f.fn.code = 0) := firstE_zero _ _ fun s hs => by
                  obtain ⟨j, hj, rfl⟩ := List.getElem_of_mem hs
                  exact hall j _ (by have : j < f.code.length := hj; omega) (List.getElem?_eq_getElem hj)
                have hfr2 := hfr.out.later hbr
                obtain ⟨b, o, hix, hbl, c0, c1, c2, c3, c4⟩ := ins_ix hfr2.1 (f.code.length - 1) xl hxl
                rw [show ((f.code.length - 1 : Nat) : Int) = (f.code.length : Int) - 1 by omega] at hix
                have hclI : (1 : Int) ≤ f.code.length := by omega
                clear hall hfr2
                by_cases e1 : xl.op = 42
                · have hv : Hid (fnE insP M.pr n f.fn = (0, 0)) := fnE_ok hS0.out hs0.out hi0.out (by rw [hlast.out]; exact .inl e1)
                  go_wp2
                  go_ret2
                  exact ⟨ret_ii (hv.out.symm.trans hr.out), hbwr2⟩
                · by_cases e2 : xl.op = 45
                  · have hv : Hid (fnE insP M.pr n f.fn = (0, 0)) := fnE_ok hS0.out hs0.out hi0.out (by rw [hlast.out]; exact .inr (.inl e2))
                    go_wp2
                    go_ret2
                    exact ⟨ret_ii (hv.out.symm.trans hr.out), hbwr2⟩
                  · by_cases e3 : xl.op = 61
                    · have hv : Hid (fnE insP M.pr n f.fn = (0, 0)) := fnE_ok hS0.out hs0.out hi0.out (by rw [hlast.out]; exact .inr (.inr e3))
                      go_wp2
                      go_ret2
                      exact ⟨ret_ii (hv.out.symm.trans hr.out), hbwr2⟩
                    · have hv : Hid (fnE insP M.pr n f.fn = (39, (f.fn.code.length : Int) - 1)) := fnE_fall hS0.out hs0.out hi0.out (by rw [hlast.out]; rintro (h | h | h) <;> omega)
                      go_wp2
                      go_ret2
                      exact ⟨ret_ii (hv.out.symm.trans hr.out), hbwr2⟩
end Go.Proofs.YtmgmiaonljcfcaaDoor.pg
