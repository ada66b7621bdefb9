/- All that may come behind some places. -/
import Derived.Test.YtlcljdldhajkiaaDoorM11
import Derived.Deep.MidRow
namespace Go.Proofs.YtlcljdldhajkiaaDoor.pg
open Go.ChangeShapes Go.WideShapes Go.ChangeAt Go.RowKit Go.Shelf
set_option linter.unusedVariables false
set_option linter.unusedSimpArgs false
set_option maxRecDepth 100000
attribute [local go_sem] Oper.semAt_some
abbrev objPl (s : Nat → Bool) : Obj := .cells (boolRow 64 s) 65
theorem four_new (w : World) (a b c d : Obj) : ((((w.alloc a).alloc b).alloc c).alloc d).heap[w.heap.size]? = some a ∧ ((((w.alloc a).alloc b).alloc c).alloc d).heap[w.heap.size + 1]? = some b ∧ ((((w.alloc a).alloc b).alloc c).alloc d).heap[w.heap.size + 1 + 1]? = some c ∧ ((((w.alloc a).alloc b).alloc c).alloc d).heap[w.heap.size + 1 + 1 + 1]? = some d := by
  have e1 := (boxed3 (w.alloc a) b c d).block w.heap.size (by rw [World.size_alloc]; omega)
  have e2 := (boxed2 ((w.alloc a).alloc b) c d).block (w.heap.size + 1) (by rw [World.size_alloc, World.size_alloc]; omega)
  have e3 := (boxed (((w.alloc a).alloc b).alloc c) d).block (w.heap.size + 1 + 1) (by rw [World.size_alloc, World.size_alloc, World.size_alloc]; omega)
  have n2 := heap_alloc_new (w.alloc a) b
  have n3 := heap_alloc_new ((w.alloc a).alloc b) c
  have n4 := heap_alloc_new (((w.alloc a).alloc b).alloc c) d
  rw [World.size_alloc] at n2
  rw [World.size_alloc, World.size_alloc] at n3
  rw [World.size_alloc, World.size_alloc, World.size_alloc] at n4
  exact ⟨e1.trans (heap_alloc_new w a), e2.trans n2, e3.trans n3, n4⟩
theorem two_new (w : World) (a b : Obj) : ((w.alloc a).alloc b).heap[w.heap.size]? = some a ∧ ((w.alloc a).alloc b).heap[w.heap.size + 1]? = some b := by
  have n2 := heap_alloc_new (w.alloc a) b
  rw [World.size_alloc] at n2
  exact ⟨((boxed (w.alloc a) b).block w.heap.size (by rw [World.size_alloc]; omega)).trans (heap_alloc_new w a), n2⟩
theorem below_row {n B : Nat} {w : World} {cs : Array Value} (hB : n ≤ B) : Below n w (w.setRow B cs) := ⟨rfl, rfl, rfl, by rw [setRow_size]; exact Nat.le_refl _, fun k hk => setRow_other w B k cs (by omega)⟩
/-- Where all lies while the places behind some are gathered. -/
structure BA (w W : World) (F : MFn) (s o : Nat → Bool) : Prop where
  b : Below w.heap.size w W
  f : W.heap[w.heap.size]? = some (objFn F)
  s : W.heap[w.heap.size + 1]? = some (objPl s)
  r : W.heap[w.heap.size + 1 + 1]? = some (objPl fun _ => false)
  o : W.heap[w.heap.size + 1 + 1 + 1]? = some (objPl o)
theorem BA.lt {w W : World} {F : MFn} {s o : Nat → Bool} (h : BA w W F s o) : w.heap.size + 1 + 1 + 1 < W.heap.size := (Array.getElem?_eq_some_iff.mp h.o).1
theorem BA.keep {w W W' : World} {F : MFn} {s o : Nat → Bool} (h : BA w W F s o) (hb : Below w.heap.size W W') (hk : ∀ b, b < w.heap.size + 4 → W'.heap[b]? = W.heap[b]?) : BA w W' F s o :=
  ⟨h.b.trans hb, (hk _ (by omega)).trans h.f, (hk _ (by omega)).trans h.s, (hk _ (by omega)).trans h.r, (hk _ (by omega)).trans h.o⟩
theorem BA.later {w W W' : World} {F : MFn} {s o : Nat → Bool} (h : BA w W F s o) (hb : Below W.heap.size W W') : BA w W' F s o := h.keep (hb.mono (by have := h.lt; omega)) fun b q => hb.block b (by have := h.lt; omega)
theorem ix_pl (B k : Nat) (h : k < 64) : ∀ wx, (Instr.indexAt 65 (.pointer (some ⟨B, 0, none⟩)) (.int .i64 (k : Int))).run Tryd.prog wx = .ok (.pointer (some ⟨B, k, none⟩)) wx := ix_set B k h
theorem results_pl {fn : Func} {p : Tmp} (h : fn.results = #[.cell p 65]) (tmps : Array Value) (w : World) (B : Nat) (x : Nat → Bool) (hp : tmps.getD p undef = .pointer (some ⟨B, 0, none⟩)) (hB : w.heap[B]? = some (objPl x)) :
    (results fn tmps).run Tryd.prog w = .ok (.agg (boolRow 64 x)) w := by
  have hp' : tmps[p]?.getD undef = .pointer (some ⟨B, 0, none⟩) := by simpa using hp
  simp [results, h, hp', asAddr, run_loadVar_row w B _ 65 _ _ _ hB Tryd.underlying65 rfl (infoSt x)]
def bAT (w : World) (F : MFn) (s : Nat → Bool) (k : Nat) (u6 u7 u12 u13 u14 u15 u16 u17 u18 u19 u20 u21 u22 u23 : Value) (d : List Deferred) : Act :=
  { tmps := #[F.val, .agg (boolRow 64 s), .pointer (some ⟨w.heap.size, 0, none⟩), .pointer (some ⟨w.heap.size + 1, 0, none⟩), .pointer (some ⟨w.heap.size + 1 + 1, 0, none⟩), .pointer (some ⟨w.heap.size + 1 + 1 + 1, 0, none⟩), u6, u7, .pointer (some ⟨w.heap.size, 2, none⟩), .slice F.ca F.code.length F.ccap, .int .i64 F.code.length, .int .i64 (k : Int), u12, u13, u14, u15, u16, u17, u18, u19, u20, u21, u22, u23, undef], defers := d }
set_option maxHeartbeats 4000000 in
theorem behindAll_any (F : MFn) (s : Nat → Bool) (w : World) (hF : F.lies w) (hfl : FlowF F.fn) :
    Calls Tryd.prog 45 #[F.val, .agg (boolRow 64 s)] w fun e w' => e = .returned (.agg (boolRow 64 (bAll F.fn s F.code.length))) ∧ Below w.heap.size w w' := by
  have huP : Hid (Tryd.prog.underlying 65 = _) := Tryd.underlying65
  have hzP : Hid (∀ w, (zeroValue 65).run Tryd.prog w = .ok (.agg (boolRow 64 fun _ => false)) w) := zeroSt
  have hl64 : (F.code.length : Int) ≤ 64 := by have := hfl.l64; have h : F.fn.code.length = F.code.length := rfl; omega
  obtain ⟨p1, p2, p3, p4⟩ := four_new w (objFn F) (objPl s) (objPl fun _ => false) (objPl fun _ => false)
  have s0 : Hid (BA w ((((w.alloc (objFn F)).alloc (objPl s)).alloc (objPl fun _ => false)).alloc (objPl fun _ => false)) F s (bAll F.fn s 0)) := ⟨(boxed _ _).trans ((boxed3 _ _ _ _).mono (boxed _ _).size), p1, p2, p3, p4⟩
  have f2 := cell_ofF (k := 2) (v := .slice F.ca F.code.length F.ccap) p1 rfl
  have hFH : Hid (F.lies w) := hF
  have hflH : Hid (FlowF F.fn) := hfl
  clear p1 p2 p3 p4 hF hfl
  refine (callsIn_wide (n := 3)).1 ?_
  refine callsIn_of_wp_marks Tryd.func45 rfl trivial ?_ rfl
  simp only [Tryd.ntmps45, List.size_toArray, List.length_cons, List.length_nil, Nat.reduceAdd, Nat.reduceSub, Array.replicate_succ, Array.replicate_zero, List.push_toArray, List.append_toArray, List.nil_append, List.cons_append]
  refine wpIn_wide.2 ?_
  go_wp2_with (refine wpList_alloc_big rfl 65 rfl hzP.out ?_)
  clear f2
  generalize (((w.alloc (objFn F)).alloc (objPl s)).alloc (objPl fun _ => false)).alloc (objPl fun _ => false) = V at *
  refine wp_loop (fun a' W' => ∃ (k : Nat) (Ds : List Nat) (u6 u7 u12 u13 u14 u15 u16 u17 u18 u19 u20 u21 u22 u23 : Value), k ≤ F.code.length ∧ Hid (BA w W' F s (bAll F.fn s k) ∧ Marks w.heap.size Ds W') ∧ a' = bAT w F s k u6 u7 u12 u13 u14 u15 u16 u17 u18 u19 u20 u21 u22 u23 (Ds.map mkD)) (fun a' _ => F.code.length - (intOf (a'.tmps.getD 11 undef)).toNat) ?_ ?_
  · exact ⟨0, [], undef, undef, undef, undef, undef, undef, undef, undef, undef, undef, undef, undef, undef, undef, Nat.zero_le _, ⟨s0.out, Marks.nil _ _⟩, rfl⟩
  · rintro a' W ⟨k, Ds, u6, u7, u12, u13, u14, u15, u16, u17, u18, u19, u20, u21, u22, u23, hk, hs, rfl⟩
    clear s0
    unfold bAT
    by_cases hlt : k < F.code.length
    · have hkI : (k : Int) < F.code.length := by omega
      have xI := ix_pl (w.heap.size + 1) k (by omega)
      have cI := cell_ofF (k := k) (v := .bool (s k)) hs.out.1.s (boolRow_at (by omega))
      have hmore : Hid (bAll F.fn s (k + 1) = if s k = true then puts (bAll F.fn s k) (nxt F.fn k) else bAll F.fn s k) := rfl
      obtain ⟨bk, hbk⟩ : ∃ bk, s k = bk := ⟨_, rfl⟩
      rw [hbk] at cI
      cases bk with
      | false =>
        have hN : Hid (bAll F.fn s (k + 1) = bAll F.fn s k) := by show _ = _; rw [hmore.out, hbk]; rfl
        clear hmore hbk
        go_wp2
        refine ⟨⟨k + 1, Ds, _, _, _, _, _, _, _, _, _, _, _, _, _, _, by omega, ⟨by rw [hN.out]; exact hs.out.1, hs.out.2⟩, rfl⟩, ?_⟩
        simp [intOf]
        omega
      | true =>
        have hN : Hid (bAll F.fn s (k + 1) = puts (bAll F.fn s k) (nxt F.fn k)) := by show _ = _; rw [hmore.out, hbk]; rfl
        have cB := behind_any F (k : Int) W
        have hto : ∀ x ∈ nxt F.fn k, 0 ≤ x ∧ x < 64 := fun x hx => by have h1 := hflH.out.n k hlt x hx; have h2 := hflH.out.l64; omega
        have l0 := cell_ofF (k := 0) (v := .int .i64 F.params) hs.out.1.f rfl
        have l1 := cell_ofF (k := 1) (v := .int .i64 F.regs) hs.out.1.f rfl
        have l2 := cell_ofF (k := 2) (v := .slice F.ca F.code.length F.ccap) hs.out.1.f rfl
        have l3 := cell_ofF (k := 3) (v := .slice F.sa F.sels.length F.scap) hs.out.1.f rfl
        clear hmore hbk
        go_wp2_with (go_at_call 37; (refine cB.mono ?_); rintro e w1 ⟨rfl, hw1⟩)
        clear l0 l1 l2 l3 cI xI cB
        have hbW : Below W.heap.size W w1 := by rw [hw1]; exact boxed2 _ _ _
        obtain ⟨q1, q2⟩ := two_new W (objFn F) (.cells #[.int .i64 (k : Int)] 3)
        rw [← hw1] at q1 q2 ⊢
        have hsz : w1.heap.size = W.heap.size + 1 + 1 := by rw [hw1]; simp [World.size_alloc]
        have hs1 : BA w w1 F s (bAll F.fn s k) := hs.out.1.later hbW
        have hm1 : Marks w.heap.size Ds w1 := hs.out.2.later hbW
        have hlt1 := hs.out.1.lt
        have hDl : ∀ D ∈ Ds, D < w1.heap.size := fun D hD => by have := hs.out.2.lt hD; omega
        clear hw1 hs
        refine (wpIn_wide (n := 3)).1 ?_
        refine wpIn_rangeFunc_ownG (n := 3) rfl (by omega) (gf := 54) (lb := #[.pointer (some ⟨W.heap.size, 0, none⟩), .pointer (some ⟨W.heap.size + 1, 0, none⟩)]) rfl trivial (enters_of Tryd.func54 (by kernel_rfl) rfl)
          (behind_stops 2 w F hFH.out hflH.out k hlt hto (w.heap.size + 1 + 1 + 1) W.heap.size (W.heap.size + 1) w1 hs1.b (by omega) q1 q2 (by omega)) KeepC.trans (keepC_b (by omega)) (Below.refl _ _) (fun _ => rfl)
          (fun pre V => BA w V F s (puts (bAll F.fn s k) (pre.map (·.1))) ∧ Marks w.heap.size Ds V) (fun _ _ _ => False) ?own (fun _ _ _ _ _ hs _ _ => hs) ⟨by rw [List.map_nil, puts_nil]; exact hs1, hm1⟩
          (fun x => bAT w F s k (.int .i64 (k : Int)) (.int .i64 x.1) (.bool true) (.int .i64 (k : Int)) (.int .i64 (k : Int)) (.pointer (some ⟨w.heap.size + 1, k, none⟩)) (.bool true) F.val (.int .i64 (k : Int)) (.func (.func 54) #[] #[.pointer (some ⟨W.heap.size, 0, none⟩), .pointer (some ⟨W.heap.size + 1, 0, none⟩)]) (.int .i64 x.1) u21 u22 u23 []) ?assign ?body ?done ?stop
        case own =>
          rintro pre A B row ⟨h1, h2⟩ hgr hr
          have hA := h1.lt
          have hne : ∀ b, b < w1.heap.size → some b ≠ row := fun b hb e => by have := (hr b e.symm).1; omega
          refine ⟨h1.keep ((Below.refl _ A).grown hgr (by omega) (fun r e => by have := (hr r e).1; omega)) fun b hb => hgr.block b (by omega) (hne b (by omega)), h2.keep fun D hD => hgr.block D (h2.lt hD) (hne D (hDl D hD))⟩
        case assign =>
          intro l x V K hK
          unfold bAT at hK
          gi_wp2
          exact hK
        case body =>
          rintro l pre x V ⟨h1, h2⟩ _
          obtain ⟨xn, hxn⟩ : ∃ xn : Nat, (xn : Int) = x.1 := ⟨x.1.toNat, by have := x.2.1; omega⟩
          have hx64 : xn < 64 := by have := x.2.2; omega
          have xO := ix_pl (w.heap.size + 1 + 1 + 1) xn hx64
          rw [hxn] at xO
          have cO := cell_ofF (k := xn) (v := .bool (puts (bAll F.fn s k) (pre.map (·.1)) xn)) h1.o (boolRow_at hx64)
          have fO : V.frozen? ⟨w.heap.size + 1 + 1 + 1, xn, none⟩ = false := frozen_of_row _ _ _ _ _ h1.o
          have hlV := h1.lt
          have nx : Hid (∀ W', W' = V.setCell ⟨w.heap.size + 1 + 1 + 1, xn, none⟩ (.bool true) → KeepsFrom w1.heap.size V W' ∧ KeepC w.heap.size (w.heap.size + 1 + 1 + 1) V W' ∧ BA w W' F s (puts (bAll F.fn s k) ((pre ++ [x]).map (·.1))) ∧ Marks w.heap.size Ds W') := fun W' e => by
            have hk : ∀ b, b ≠ w.heap.size + 1 + 1 + 1 → W'.heap[b]? = V.heap[b]? := fun b q => by rw [e]; exact Below.heap_setCell _ _ _ _ q
            have hb : Below w.heap.size V W' := by rw [e]; exact (Below.refl _ V).setCell (p := ⟨w.heap.size + 1 + 1 + 1, xn, none⟩) (by show w.heap.size ≤ w.heap.size + 1 + 1 + 1; omega) _
            refine ⟨by rw [e]; exact (KeepsOthers.setCell _ _ _).from _, ⟨hb, fun b cs t z hb' q => (hk b hb').trans q⟩, ⟨h1.b.trans hb, (hk _ (by omega)).trans h1.f, (hk _ (by omega)).trans h1.s, (hk _ (by omega)).trans h1.r, ?_⟩, h2.keep fun D hD => hk D fun q => ?_⟩
            · rw [e, setCell_eq_setRow V (w.heap.size + 1 + 1 + 1) xn _ _ _ _ h1.o, boolRow_set, setRow_heap V (w.heap.size + 1 + 1 + 1) _ _ _ _ h1.o]
              have : (fun b => if b = xn then true else puts (bAll F.fn s k) (pre.map (·.1)) b) = puts (bAll F.fn s k) ((pre ++ [x]).map (·.1)) := by
                rw [List.map_append, ← puts_app]
                funext b
                by_cases c : b = xn
                · subst c
                  rw [if_pos rfl]
                  unfold puts
                  simp [hxn]
                · rw [if_neg c]
                  show _ = (puts (bAll F.fn s k) (pre.map (·.1)) b || decide ((b : Int) ∈ [x.1]))
                  have : decide ((b : Int) ∈ [x.1]) = false := by
                    rw [decide_eq_false_iff_not, List.mem_singleton, ← hxn]
                    omega
                  rw [this, Bool.or_false]
              rw [this]
            · have := (h2.at_ D hD).2
              rw [q, h1.o] at this
              cases this
          clear h1 h2
          unfold bAT
          gi_wp2_with (refine inR_list rfl (by simp) (wpList_putb rfl 4 _ _ rfl ⟨w.heap.size + 1 + 1 + 1, xn, none⟩ rfl true rfl (by kernel_rfl) _ cO fO fun W' hW' => wpList_nil ?_); (have hfin := nx.out W' hW'); clear hW'; show wpListIn (Fence.wide.inRound l) _ _ _ _ _ _ _)
          exact hfin
        case done =>
          rintro D ys V hD rfl ⟨h1, h2⟩ hK
          rw [subL_val] at h1
          have hm : Hid (BA w V F s (bAll F.fn s (k + 1)) ∧ Marks w.heap.size (D :: Ds) V) := ⟨by rw [hN.out]; exact h1, h2.more (by omega) (fun q => by have := hDl D q; omega) hK⟩
          clear h1 h2 hK
          go_wp2
          refine ⟨⟨k + 1, D :: Ds, _, _, _, _, _, _, _, _, _, _, _, _, _, _, by omega, hm, rfl⟩, ?_⟩
          simp [intOf]
          omega
        case stop =>
          rintro D c pre V _ _ h _
          exact h.elim
    · have hke : k = F.code.length := by omega
      have hkI : ¬ ((k : Int) < F.code.length) := by omega
      have hs1 : Hid (BA w W F s (bAll F.fn s F.code.length)) := by have := hs.out.1; rw [hke] at this; exact this
      have hm1 : Hid (Marks w.heap.size Ds W) := hs.out.2
      have hO := hs1.out.o
      have hR := hs1.out.r
      clear hs hke
      go_wp2_with (first
        | (refine wpList_load_row rfl 65 _ rfl (w.heap.size + 1 + 1 + 1) rfl _ _ _ _ hO huP.out rfl (infoSt _) ?_)
        | (refine wpList_store_row rfl 65 _ _ rfl (w.heap.size + 1 + 1) (boolRow 64 (bAll F.fn s F.code.length)) rfl rfl _ _ hR (infoSt _) (by rw [boolRow_size, boolRow_size]) (boolRow_one _ _) ?_))
      have hlW := hs1.out.lt
      have hmE : Marks w.heap.size Ds (W.setRow (w.heap.size + 1 + 1) (boolRow 64 (bAll F.fn s F.code.length))) := hm1.out.keep fun D hD => setRow_other _ _ _ _ fun q => by
        have := (hm1.out.at_ D hD).2
        rw [q, hR] at this
        cases this
      have hbE : Below w.heap.size w (W.setRow (w.heap.size + 1 + 1) (boolRow 64 (bAll F.fn s F.code.length))) := hs1.out.b.trans (below_row (by omega))
      refine leaves_marks (n₀ := w.heap.size) Ds _ hmE fun W' hk => ?_
      exact ⟨_, results_pl Tryd.results45 _ _ (w.heap.size + 1 + 1) _ rfl (hk.c _ _ _ _ (setRow_heap W (w.heap.size + 1 + 1) _ _ _ _ hR)), rfl, hbE.trans hk.b⟩
end Go.Proofs.YtlcljdldhajkiaaDoor.pg
/- Some places and all that may be come to from them. -/
namespace Go.Proofs.YtlcljdldhajkiaaDoor.pg
open Go.ChangeShapes Go.WideShapes Go.ChangeAt Go.RowKit Go.Shelf
set_option linter.unusedVariables false
set_option linter.unusedSimpArgs false
set_option maxRecDepth 100000
attribute [local go_sem] Oper.semAt_some
theorem always_any (op : Int) (w : World) : Calls Tryd.prog 50 #[.int .i64 op] w fun e w' => e = .returned (.bool true) ∧ w' = w := by
  go_enter Tryd.func50, Tryd.ntmps50
  go_wp2
  go_ret
  exact ⟨rfl, rfl⟩
theorem three_new (w : World) (a b c : Obj) : (((w.alloc a).alloc b).alloc c).heap[w.heap.size]? = some a ∧ (((w.alloc a).alloc b).alloc c).heap[w.heap.size + 1]? = some b ∧ (((w.alloc a).alloc b).alloc c).heap[w.heap.size + 1 + 1]? = some c := by
  have e1 := (boxed2 (w.alloc a) b c).block w.heap.size (by rw [World.size_alloc]; omega)
  have e2 := (boxed ((w.alloc a).alloc b) c).block (w.heap.size + 1) (by rw [World.size_alloc, World.size_alloc]; omega)
  have n2 := heap_alloc_new (w.alloc a) b
  have n3 := heap_alloc_new ((w.alloc a).alloc b) c
  rw [World.size_alloc] at n2
  rw [World.size_alloc, World.size_alloc] at n3
  exact ⟨e1.trans (heap_alloc_new w a), e2.trans n2, n3⟩
theorem puts_more {o : Nat → Bool} {l : List PlI} {x : PlI} {xn : Nat} (hxn : (xn : Int) = x.1) : boolRow 64 (fun b => if b = xn then true else puts o (l.map (·.1)) b) = boolRow 64 (puts o ((l ++ [x]).map (·.1))) := by
  have : (fun b => if b = xn then true else puts o (l.map (·.1)) b) = puts o ((l ++ [x]).map (·.1)) := by
    rw [List.map_append, ← puts_app]
    funext b
    by_cases c : b = xn
    · subst c
      rw [if_pos rfl]
      unfold puts
      simp [hxn]
    · rw [if_neg c]
      show _ = (puts o (l.map (·.1)) b || decide ((b : Int) ∈ [x.1]))
      have : decide ((b : Int) ∈ [x.1]) = false := by
        rw [decide_eq_false_iff_not, List.mem_singleton, ← hxn]
        omega
      rw [this, Bool.or_false]
  rw [this]
theorem gPass_congr {f : Fn} (hf : FlowF f) (L : Int → Bool) {s t : Nat → Bool} (h : ∀ k, k < 64 → t k = s k) : ∀ m, m ≤ 64 → ∀ j, j < 64 → gPass f L t m j = gPass f L s m j
  | 0, _, j, hj => h j hj
  | m + 1, hm, j, hj => by
    have ih := gPass_congr hf L h m (by omega)
    rw [gPass, gPass, ih m (by omega)]
    split
    · unfold puts; rw [ih j hj]
    · exact ih j hj
theorem below_rowN {n B : Nat} {a w : World} {cs : Array Value} (h : Below n a w) (hB : n ≤ B) : Below n a (w.setRow B cs) :=
  ⟨h.os, h.tape, h.output, by rw [setRow_size]; exact h.size, fun k hk => (setRow_other w B k cs (by omega)).trans (h.block k hk)⟩
abbrev alw : Int → Bool := fun _ => true
/-- Where all lies while places are gathered. -/
structure GA (w W : World) (F : MFn) (s : Nat → Bool) : Prop where
  b : Below w.heap.size w W
  f : W.heap[w.heap.size]? = some (objFn F)
  s : W.heap[w.heap.size + 1]? = some (objPl s)
  r : W.heap[w.heap.size + 1 + 1]? = some (objPl fun _ => false)
theorem GA.lt {w W : World} {F : MFn} {s : Nat → Bool} (h : GA w W F s) : w.heap.size + 1 + 1 < W.heap.size := (Array.getElem?_eq_some_iff.mp h.r).1
theorem GA.keep {w W W' : World} {F : MFn} {s : Nat → Bool} (h : GA w W F s) (hb : Below w.heap.size W W') (hk : ∀ b, b < w.heap.size + 3 → W'.heap[b]? = W.heap[b]?) : GA w W' F s :=
  ⟨h.b.trans hb, (hk _ (by omega)).trans h.f, (hk _ (by omega)).trans h.s, (hk _ (by omega)).trans h.r⟩
theorem GA.later {w W W' : World} {F : MFn} {s : Nat → Bool} (h : GA w W F s) (hb : Below W.heap.size W W') : GA w W' F s := h.keep (hb.mono (by have := h.lt; omega)) fun b q => hb.block b (by have := h.lt; omega)
/-- How many places are not marked, read off the world. -/
def cellT : Option Value → Bool
  | some (.bool true) => true
  | _ => false
def missW (B : Nat) (W : World) : Nat := match W.heap[B]? with
  | some (.cells cs _ _) => miss (fun k => cellT cs[k]?) 64
  | _ => 0
theorem miss_congr {s t : Nat → Bool} : ∀ n, (∀ k, k < n → s k = t k) → miss s n = miss t n
  | 0, _ => rfl
  | n + 1, h => by rw [miss, miss, miss_congr n fun k hk => h k (by omega), h n (by omega)]
theorem missW_is {B : Nat} {W : World} {s : Nat → Bool} (h : W.heap[B]? = some (objPl s)) : missW B W = miss s 64 := by
  unfold missW
  rw [h]
  refine miss_congr 64 fun k hk => ?_
  rw [boolRow_at hk]
  cases s k <;> rfl
theorem pl_same {s t : Nat → Bool} : ((List.range 64).all fun k => s k == t k) = true ↔ ∀ k, k < 64 → s k = t k := by
  rw [List.all_eq_true]
  simp only [List.mem_range, beq_iff_eq]
def gOT (w : World) (F : MFn) (s₀ : Nat → Bool) (u7 u8 u9 u10 u11 u12 u13 u14 u15 u16 u17 u18 u19 u20 u21 u22 u23 u24 u25 u26 u27 u28 u29 u30 u31 u32 u33 u34 u35 u36 u37 u38 u39 : Value) (d : List Deferred) : Act := { tmps := #[F.val, .agg (boolRow 64 s₀), .func (.func 50) #[] #[], .pointer (some ⟨w.heap.size, 0, none⟩), .pointer (some ⟨w.heap.size + 1, 0, none⟩), undef, .pointer (some ⟨w.heap.size + 1 + 1, 0, none⟩), u7, u8, u9, u10, u11, u12, u13, u14, u15, u16, u17, u18, u19, u20, u21, u22, u23, u24, u25, u26, u27, u28, u29, u30, u31, u32, u33, u34, u35, u36, u37, u38, u39], defers := d }
def gIT (w : World) (F : MFn) (s₀ s : Nat → Bool) (BB k : Nat) (u8 u9 u10 u16 u17 u18 u19 u20 u21 u22 u23 u24 u25 u26 u27 u28 u29 u30 u31 u32 u33 u34 u35 u36 u37 u38 u39 : Value) (d : List Deferred) : Act := { tmps := #[F.val, .agg (boolRow 64 s₀), .func (.func 50) #[] #[], .pointer (some ⟨w.heap.size, 0, none⟩), .pointer (some ⟨w.heap.size + 1, 0, none⟩), undef, .pointer (some ⟨w.heap.size + 1 + 1, 0, none⟩), .pointer (some ⟨BB, 0, none⟩), u8, u9, u10, .agg (boolRow 64 s), .pointer (some ⟨w.heap.size, 2, none⟩), .slice F.ca F.code.length F.ccap, .int .i64 F.code.length, .int .i64 (k : Int), u16, u17, u18, u19, u20, u21, u22, u23, u24, u25, u26, u27, u28, u29, u30, u31, u32, u33, u34, u35, u36, u37, u38, u39], defers := d }
/-- What is known between two rounds of the outer loop. -/
structure GO (w W : World) (F : MFn) (s₀ s : Nat → Bool) (Ds : List Nat) : Prop where
  g : GA w W F s
  m : Marks w.heap.size Ds W
  up : ∀ k, s₀ k = true → s k = true
  le : ∀ R, (∀ k, s₀ k = true → R k = true) → closedF F.fn alw R → ∀ k, s k = true → R k = true
/-- And of the inner one. -/
structure GI (w W : World) (F : MFn) (s t : Nat → Bool) (BB : Nat) (Ds : List Nat) : Prop where
  g : GA w W F t
  m : Marks w.heap.size Ds W
  bb : w.heap.size + 1 + 1 < BB
  q : W.heap[BB]? = some (objPl s)
theorem GI.later {w W W' : World} {F : MFn} {s t : Nat → Bool} {BB : Nat} {Ds : List Nat} (h : GI w W F s t BB Ds) (hb : Below W.heap.size W W') : GI w W' F s t BB Ds := ⟨h.g.later hb, h.m.later hb, h.bb, (hb.block BB (Array.getElem?_eq_some_iff.mp h.q).1).trans h.q⟩
set_option maxHeartbeats 8000000 in
theorem grown_any (F : MFn) (s₀ : Nat → Bool) (w : World) (hF : F.lies w) (hfl : FlowF F.fn) :
    Calls Tryd.prog 49 #[F.val, .agg (boolRow 64 s₀), .func (.func 50) #[] #[]] w fun e w' => ∃ R, e = .returned (.agg (boolRow 64 R)) ∧ Least F.fn alw s₀ R ∧ Below w.heap.size w w' := by
  have huP : Hid (Tryd.prog.underlying 65 = _) := Tryd.underlying65
  have hzP : Hid (∀ w, (zeroValue 65).run Tryd.prog w = .ok (.agg (boolRow 64 fun _ => false)) w) := zeroSt
  have hl64 : (F.code.length : Int) ≤ 64 := by have := hfl.l64; have h : F.fn.code.length = F.code.length := rfl; omega
  obtain ⟨p1, p2, p3⟩ := three_new w (objFn F) (objPl s₀) (objPl fun _ => false)
  have s0 : Hid (GO w (((w.alloc (objFn F)).alloc (objPl s₀)).alloc (objPl fun _ => false)) F s₀ s₀ []) := ⟨⟨boxed3 _ _ _ _, p1, p2, p3⟩, Marks.nil _ _, fun _ h => h, fun R h _ => h⟩
  have hFH : Hid (F.lies w) := hF
  have hflH : Hid (FlowF F.fn) := hfl
  clear p1 p2 p3 hF hfl
  refine (callsIn_wide (n := 3)).1 ?_
  refine callsIn_of_wp_marks Tryd.func49 rfl trivial ?_ rfl
  simp only [Tryd.ntmps49, List.size_toArray, List.length_cons, List.length_nil, Nat.reduceAdd, Nat.reduceSub, Array.replicate_succ, Array.replicate_zero, List.push_toArray, List.append_toArray, List.nil_append, List.cons_append]
  refine wpIn_wide.2 ?_
  go_wp2_with (refine wpList_alloc_big rfl 65 rfl hzP.out ?_)
  try simp only [Act.put, List.setIfInBounds_toArray, List.set_cons_zero, List.set_cons_succ, World.size_alloc]
  generalize ((w.alloc (objFn F)).alloc (objPl s₀)).alloc (objPl fun _ => false) = V at *
  refine wp_loop (fun a' W' => ∃ (s : Nat → Bool) (Ds : List Nat) (u7 u8 u9 u10 u11 u12 u13 u14 u15 u16 u17 u18 u19 u20 u21 u22 u23 u24 u25 u26 u27 u28 u29 u30 u31 u32 u33 u34 u35 u36 u37 u38 u39 : Value), Hid (GO w W' F s₀ s Ds) ∧ a' = gOT w F s₀ u7 u8 u9 u10 u11 u12 u13 u14 u15 u16 u17 u18 u19 u20 u21 u22 u23 u24 u25 u26 u27 u28 u29 u30 u31 u32 u33 u34 u35 u36 u37 u38 u39 (Ds.map mkD)) (fun _ W' => missW (w.heap.size + 1) W') ?_ ?_
  · exact ⟨s₀, [], undef, undef, undef, undef, undef, undef, undef, undef, undef, undef, undef, undef, undef, undef, undef, undef, undef, undef, undef, undef, undef, undef, undef, undef, undef, undef, undef, undef, undef, undef, undef, undef, undef, s0, rfl⟩
  · rintro a' W ⟨s, Ds, u7, u8, u9, u10, u11, u12, u13, u14, u15, u16, u17, u18, u19, u20, u21, u22, u23, u24, u25, u26, u27, u28, u29, u30, u31, u32, u33, u34, u35, u36, u37, u38, u39, ho, rfl⟩
    clear s0
    unfold gOT
    have hSB := ho.out.g.s
    have hlt0 := ho.out.g.lt
    have hzi : (W.alloc (objPl fun _ => false)).heap[W.heap.size]? = some (objPl fun _ => false) := heap_alloc_new W _
    have hbw : Below W.heap.size W ((W.alloc (objPl fun _ => false)).setRow W.heap.size (boolRow 64 s)) := below_rowN (boxed _ _) (Nat.le_refl _)
    have f2 := cell_ofF (k := 2) (v := .slice F.ca F.code.length F.ccap) (ho.out.g.later hbw).f rfl
    have i0 : Hid (GI w ((W.alloc (objPl fun _ => false)).setRow W.heap.size (boolRow 64 s)) F s (gPass F.fn alw s 0) W.heap.size Ds) := ⟨ho.out.g.later hbw, ho.out.m.later hbw, hlt0, setRow_heap _ _ _ _ _ _ hzi⟩
    have hup : Hid (∀ k, s₀ k = true → s k = true) := ho.out.up
    have hle : Hid (∀ R, (∀ k, s₀ k = true → R k = true) → closedF F.fn alw R → ∀ k, s k = true → R k = true) := ho.out.le
    have hms : Hid (missW (w.heap.size + 1) W = miss s 64) := missW_is hSB
    have hmsW : ∀ (Z : Nat), Hid (missW (w.heap.size + 1) W = Z) → True := fun _ _ => trivial
    clear hmsW hbw
    obtain ⟨MZ, hMZ⟩ : ∃ MZ, Hid (missW (w.heap.size + 1) W = MZ) := ⟨_, rfl⟩
    go_wp2_with (first
      | (refine wpList_load_row rfl 65 _ rfl (w.heap.size + 1) rfl _ _ _ _ hSB huP.out rfl (infoSt _) ?_)
      | (refine wpList_alloc_big rfl 65 rfl hzP.out ?_)
      | (refine wpList_store_row rfl 65 _ _ rfl W.heap.size (boolRow 64 s) rfl rfl _ _ hzi (infoSt _) (by rw [boolRow_size, boolRow_size]) (boolRow_one _ _) ?_))
    try simp only [Act.put, List.setIfInBounds_toArray, List.set_cons_zero, List.set_cons_succ]
    clear f2 hzi hSB ho
    generalize (W.alloc (objPl fun _ => false)).setRow W.heap.size (boolRow 64 s) = V1 at *
    generalize W.heap.size = BB at *
    refine wp_loop (fun a' W' => ∃ (k : Nat) (Es : List Nat) (u8 u9 u10 u16 u17 u18 u19 u20 u21 u22 u23 u24 u25 u26 u27 u28 u29 u30 u31 u32 u33 u34 u35 u36 u37 u38 u39 : Value), k ≤ F.code.length ∧ Hid (GI w W' F s (gPass F.fn alw s k) BB Es) ∧ a' = gIT w F s₀ s BB k u8 u9 u10 u16 u17 u18 u19 u20 u21 u22 u23 u24 u25 u26 u27 u28 u29 u30 u31 u32 u33 u34 u35 u36 u37 u38 u39 (Es.map mkD)) (fun a' _ => F.code.length - (intOf (a'.tmps.getD 15 undef)).toNat) ?_ ?_
    · exact ⟨0, Ds, u8, u9, u10, u16, u17, u18, u19, u20, u21, u22, u23, u24, u25, u26, u27, u28, u29, u30, u31, u32, u33, u34, u35, u36, u37, u38, u39, Nat.zero_le _, i0, rfl⟩
    · rintro a' Y ⟨k, Es, u8, u9, u10, u16, u17, u18, u19, u20, u21, u22, u23, u24, u25, u26, u27, u28, u29, u30, u31, u32, u33, u34, u35, u36, u37, u38, u39, hk, hi, rfl⟩
      clear i0
      unfold gIT
      by_cases hlt : k < F.code.length
      · obtain ⟨m1, m2⟩ := insAt_mem (code := F.code) (pc := (k : Int)) (by omega) (by omega)
        rw [Int.toNat_natCast] at m1
        obtain ⟨ib, io, hix, hib, i0, i1, i2, i3, i4⟩ := ins_ix (hFH.out.later hi.out.g.b).1 k _ m1
        have hmore : Hid (gPass F.fn alw s (k + 1) = if gPass F.fn alw s k k = true ∧ alw (insAt F.code k).op = true then puts (gPass F.fn alw s k) (nxt F.fn k) else gPass F.fn alw s k) := rfl
        generalize insAt F.code k = i at *
        have hkI : (k : Int) < F.code.length := by omega
        have hk64 : k < 64 := by omega
        have xI := ix_pl (w.heap.size + 1) k hk64
        have hbn := boxed Y (.cells #[.int .i64 i.op, .int .i64 i.a, .int .i64 i.b, .int .i64 i.c, .int .i64 i.n] 70)
        have hCn : (Y.alloc (.cells #[.int .i64 i.op, .int .i64 i.a, .int .i64 i.b, .int .i64 i.c, .int .i64 i.n] 70)).heap[Y.heap.size]? = some (.cells #[.int .i64 i.op, .int .i64 i.a, .int .i64 i.b, .int .i64 i.c, .int .i64 i.n] 70) := heap_alloc_new Y _
        have j0 := cell_ofF (k := 0) (v := .int .i64 i.op) hCn rfl
        have hi2 : Hid (GI w (Y.alloc (.cells #[.int .i64 i.op, .int .i64 i.a, .int .i64 i.b, .int .i64 i.c, .int .i64 i.n] 70)) F s (gPass F.fn alw s k) BB Es) := hi.out.later hbn
        have cI := cell_ofF (k := k) (v := .bool (gPass F.fn alw s k k)) hi2.out.g.s (boolRow_at hk64)
        have hYl := hi.out.g.lt
        clear hbn hCn hi m1 m2 hib
        obtain ⟨bk, hbk⟩ : ∃ bk, gPass F.fn alw s k k = bk := ⟨_, rfl⟩
        rw [hbk] at cI
        cases bk with
        | false =>
          have hN : Hid (gPass F.fn alw s (k + 1) = gPass F.fn alw s k) := by show _ = _; rw [hmore.out, if_neg (by rw [hbk]; simp)]
          clear hmore hbk
          go_wp2
          refine ⟨⟨k + 1, Es, _, _, _, _, _, _, _, _, _, _, _, _, _, _, _, _, _, _, _, _, _, _, _, _, _, _, _, by omega, by rw [hN.out]; exact hi2, rfl⟩, ?_⟩
          simp [intOf]
          omega
        | true =>
          have hN : Hid (gPass F.fn alw s (k + 1) = puts (gPass F.fn alw s k) (nxt F.fn k)) := by show _ = _; rw [hmore.out, if_pos ⟨hbk, rfl⟩]
          have hto : ∀ x ∈ nxt F.fn k, 0 ≤ x ∧ x < 64 := fun x hx => by have h1 := hflH.out.n k hlt x hx; have h2 := hflH.out.l64; omega
          have l0 := cell_ofF (k := 0) (v := .int .i64 F.params) hi2.out.g.f rfl
          have l1 := cell_ofF (k := 1) (v := .int .i64 F.regs) hi2.out.g.f rfl
          have l2 := cell_ofF (k := 2) (v := .slice F.ca F.code.length F.ccap) hi2.out.g.f rfl
          have l3 := cell_ofF (k := 3) (v := .slice F.sa F.sels.length F.scap) hi2.out.g.f rfl
          have cA := always_any i.op (Y.alloc (.cells #[.int .i64 i.op, .int .i64 i.a, .int .i64 i.b, .int .i64 i.c, .int .i64 i.n] 70))
          have cB := behind_any F (k : Int) (Y.alloc (.cells #[.int .i64 i.op, .int .i64 i.a, .int .i64 i.b, .int .i64 i.c, .int .i64 i.n] 70))
          rw [World.size_alloc] at cB
          clear hmore hbk
          go_wp2_with (first
            | (go_at_call 50; (refine cA.mono ?_); rintro e w0 ⟨rfl, hw0⟩; replace hw0 := hw0.symm; subst hw0)
            | (go_at_call 37; (refine cB.mono ?_); rintro e w1 ⟨rfl, hw1⟩))
          clear l0 l1 l2 l3 cI xI cB cA i0 i1 i2 i3 i4 j0
          have hbW : Below (Y.alloc (.cells #[.int .i64 i.op, .int .i64 i.a, .int .i64 i.b, .int .i64 i.c, .int .i64 i.n] 70)).heap.size (Y.alloc (.cells #[.int .i64 i.op, .int .i64 i.a, .int .i64 i.b, .int .i64 i.c, .int .i64 i.n] 70)) w1 := by rw [hw1]; exact boxed2 _ _ _
          obtain ⟨q1, q2⟩ := two_new (Y.alloc (.cells #[.int .i64 i.op, .int .i64 i.a, .int .i64 i.b, .int .i64 i.c, .int .i64 i.n] 70)) (objFn F) (.cells #[.int .i64 (k : Int)] 3)
          rw [← hw1, World.size_alloc] at q1 q2
          rw [← hw1]
          have hsz : w1.heap.size = Y.heap.size + 1 + 1 + 1 := by rw [hw1]; simp [World.size_alloc]
          have hi1 : GI w w1 F s (gPass F.fn alw s k) BB Es := hi2.out.later hbW
          have hDl : ∀ D ∈ Es, D < w1.heap.size := fun D hD => hi1.m.lt hD
          have hBl : BB < w1.heap.size := (Array.getElem?_eq_some_iff.mp hi1.q).1
          clear hw1 hi2 hbW
          refine (wpIn_wide (n := 3)).1 ?_
          refine wpIn_rangeFunc_ownG (n := 3) rfl (by omega) (gf := 54) (lb := #[.pointer (some ⟨Y.heap.size + 1, 0, none⟩), .pointer (some ⟨Y.heap.size + 1 + 1, 0, none⟩)]) rfl trivial (enters_of Tryd.func54 (by kernel_rfl) rfl)
            (behind_stops 2 w F hFH.out hflH.out k hlt hto (w.heap.size + 1) (Y.heap.size + 1) (Y.heap.size + 1 + 1) w1 hi1.g.b (by omega) q1 q2 (by omega)) KeepC.trans (keepC_b (by omega)) (Below.refl _ _) (fun _ => rfl)
            (fun pre Z => GI w Z F s (puts (gPass F.fn alw s k) (pre.map (·.1))) BB Es) (fun _ _ _ => False) ?own (fun _ _ _ _ _ hs _ _ => hs) (by rw [List.map_nil, puts_nil]; exact hi1)
            (fun x => { tmps := #[F.val, .agg (boolRow 64 s₀), .func (.func 50) #[] #[], .pointer (some ⟨w.heap.size, 0, none⟩), .pointer (some ⟨w.heap.size + 1, 0, none⟩), undef, .pointer (some ⟨w.heap.size + 1 + 1, 0, none⟩), .pointer (some ⟨BB, 0, none⟩), .int .i64 (k : Int), .pointer (some ⟨Y.heap.size, 0, none⟩), .int .i64 x.1, .agg (boolRow 64 s), .pointer (some ⟨w.heap.size, 2, none⟩), .slice F.ca F.code.length F.ccap, .int .i64 F.code.length, .int .i64 (k : Int), .bool true, .int .i64 (k : Int), .pointer (some ⟨ib, io, none⟩), i.val, .int .i64 (k : Int), .pointer (some ⟨w.heap.size + 1, k, none⟩), .bool true, .bool true, .func (.func 50) #[] #[], .pointer (some ⟨Y.heap.size, 0, none⟩), .int .i64 i.op, .bool true, .bool true, F.val, .int .i64 (k : Int), .func (.func 54) #[] #[.pointer (some ⟨Y.heap.size + 1, 0, none⟩), .pointer (some ⟨Y.heap.size + 1 + 1, 0, none⟩)], .int .i64 x.1, u33, u34, u35, u36, u37, u38, u39], defers := [] }) ?assign ?body ?done ?stop
          case own =>
            rintro pre A B row h1 hgr hr
            have hA := h1.g.lt
            have hne : ∀ b, b < w1.heap.size → some b ≠ row := fun b hb e => by have := (hr b e.symm).1; omega
            refine ⟨h1.g.keep ((Below.refl _ A).grown hgr (by omega) (fun r e => by have := (hr r e).1; omega)) fun b hb => hgr.block b (by omega) (hne b (by omega)), h1.m.keep fun D hD => hgr.block D (h1.m.lt hD) (hne D (hDl D hD)), h1.bb, ?_⟩
            exact (hgr.block BB (Array.getElem?_eq_some_iff.mp h1.q).1 (hne BB hBl)).trans h1.q
          case assign =>
            intro l x Z K hK
            gi_wp2
            exact hK
          case body =>
            rintro l pre x Z h1 _
            obtain ⟨xn, hxn⟩ : ∃ xn : Nat, (xn : Int) = x.1 := ⟨x.1.toNat, by have := x.2.1; omega⟩
            have hx64 : xn < 64 := by have := x.2.2; omega
            have xO := ix_pl (w.heap.size + 1) xn hx64
            rw [hxn] at xO
            have cO := cell_ofF (k := xn) (v := .bool (puts (gPass F.fn alw s k) (pre.map (·.1)) xn)) h1.g.s (boolRow_at hx64)
            have fO : Z.frozen? ⟨w.heap.size + 1, xn, none⟩ = false := frozen_of_row _ _ _ _ _ h1.g.s
            have hlV := h1.g.lt
            have hbb := h1.bb
            have nx : Hid (∀ W', W' = Z.setCell ⟨w.heap.size + 1, xn, none⟩ (.bool true) → KeepsFrom w1.heap.size Z W' ∧ KeepC w.heap.size (w.heap.size + 1) Z W' ∧ GI w W' F s (puts (gPass F.fn alw s k) ((pre ++ [x]).map (·.1))) BB Es) := fun W' e => by
              have hk : ∀ b, b ≠ w.heap.size + 1 → W'.heap[b]? = Z.heap[b]? := fun b q => by rw [e]; exact Below.heap_setCell _ _ _ _ q
              have hb : Below w.heap.size Z W' := by rw [e]; exact (Below.refl _ Z).setCell (p := ⟨w.heap.size + 1, xn, none⟩) (by show w.heap.size ≤ w.heap.size + 1; omega) _
              refine ⟨by rw [e]; exact (KeepsOthers.setCell _ _ _).from _, ⟨hb, fun b cs t z hb' q => (hk b hb').trans q⟩, ⟨h1.g.b.trans hb, (hk _ (by omega)).trans h1.g.f, ?_, (hk _ (by omega)).trans h1.g.r⟩, h1.m.keep fun D hD => hk D fun q => ?_, h1.bb, (hk _ (by omega)).trans h1.q⟩
              · rw [e, setCell_eq_setRow Z (w.heap.size + 1) xn _ _ _ _ h1.g.s, boolRow_set, setRow_heap Z (w.heap.size + 1) _ _ _ _ h1.g.s, puts_more hxn]
              · have := (h1.m.at_ D hD).2
                rw [q, h1.g.s] at this
                cases this
            clear h1
            gi_wp2_with (refine inR_list rfl (by simp) (wpList_putb rfl 4 _ _ rfl ⟨w.heap.size + 1, xn, none⟩ rfl true rfl (by kernel_rfl) _ cO fO fun W' hW' => wpList_nil ?_); (have hfin := nx.out W' hW'); clear hW'; show wpListIn (Fence.wide.inRound l) _ _ _ _ _ _ _)
            exact hfin
          case done =>
            rintro D ys Z hD rfl h1 hK
            rw [subL_val] at h1
            have hm : Hid (GI w Z F s (gPass F.fn alw s (k + 1)) BB (D :: Es)) := ⟨by rw [hN.out]; exact h1.g, h1.m.more (by omega) (fun q => by have := hDl D q; omega) hK, h1.bb, h1.q⟩
            clear h1 hK
            go_wp2
            refine ⟨⟨k + 1, D :: Es, _, _, _, _, _, _, _, _, _, _, _, _, _, _, _, _, _, _, _, _, _, _, _, _, _, _, _, by omega, hm, rfl⟩, ?_⟩
            simp [intOf]
            omega
          case stop =>
            rintro D c pre Z _ _ h _
            exact h.elim
      · have hke : k = F.code.length := by omega
        have hkI : ¬ ((k : Int) < F.code.length) := by omega
        obtain ⟨t, ht⟩ : ∃ t, Hid (t = gPass F.fn alw s F.code.length) := ⟨_, rfl⟩
        have hi1 : Hid (GI w Y F s t BB Es) := by have := hi.out; rw [hke, ← ht.out] at this; exact this
        have hS := hi1.out.g.s
        have hQ := hi1.out.q
        have hR := hi1.out.g.r
        have eq1 := eqS_run t s
        obtain ⟨eb, heb⟩ : ∃ eb, Hid (((List.range 64).all fun k => t k == s k) = eb) := ⟨_, rfl⟩
        rw [heb.out] at eq1
        clear hi hke
        cases eb with
        | true =>
          have hsm := pl_same.mp heb.out
          clear heb
          go_wp2_with (first
            | (refine wpList_load_row rfl 65 _ rfl (w.heap.size + 1) rfl _ _ _ _ hS huP.out rfl (infoSt _) ?_)
            | (refine wpList_load_row rfl 65 _ rfl BB rfl _ _ _ _ hQ huP.out rfl (infoSt _) ?_)
            | (refine wpList_store_row rfl 65 _ _ rfl (w.heap.size + 1 + 1) (boolRow 64 t) rfl rfl _ _ hR (infoSt _) (by rw [boolRow_size, boolRow_size]) (boolRow_one _ _) ?_))
          have hlW := hi1.out.g.lt
          have hmE : Marks w.heap.size Es (Y.setRow (w.heap.size + 1 + 1) (boolRow 64 t)) := hi1.out.m.keep fun D hD => setRow_other _ _ _ _ fun q => by
            have := (hi1.out.m.at_ D hD).2
            rw [q, hR] at this
            cases this
          have hbE : Below w.heap.size w (Y.setRow (w.heap.size + 1 + 1) (boolRow 64 t)) := hi1.out.g.b.trans (below_row (by omega))
          refine leaves_marks (n₀ := w.heap.size) Es _ hmE fun W' hk => ?_
          refine ⟨_, results_pl Tryd.results49 _ _ (w.heap.size + 1 + 1) t rfl (hk.c _ _ _ _ (setRow_heap Y (w.heap.size + 1 + 1) _ _ _ _ hR)), t, rfl, ?_, hbE.trans hk.b⟩
          have hts : ∀ k, s₀ k = true → t k = true := fun k h => by rw [ht.out]; exact gPass_up _ _ _ _ k (hup.out k h)
          have htl : ∀ R, (∀ k, s₀ k = true → R k = true) → closedF F.fn alw R → ∀ k, t k = true → R k = true := fun R h1 h2 k h3 => gPass_le hflH.out alw (fun k q => hle.out R h1 h2 k q) h2 F.code.length (Nat.le_refl _) k (by rw [← ht.out]; exact h3)
          refine least_fix hflH.out alw hts htl fun k hk => ?_
          have hcg : ∀ m, m ≤ 64 → ∀ j, j < 64 → gPass F.fn alw t m j = gPass F.fn alw s m j := gPass_congr hflH.out alw hsm
          rw [show F.fn.code.length = F.code.length from rfl, hcg F.code.length (by omega) k hk, ← ht.out]
        | false =>
          have hd : ∃ k, k < 64 ∧ t k ≠ s k := by
            apply Classical.byContradiction
            intro q
            have : ((List.range 64).all fun k => t k == s k) = true := pl_same.mpr fun k hk => Classical.byContradiction fun h => q ⟨k, hk, h⟩
            rw [heb.out] at this
            cases this
          have hlt2 : Hid (missW (w.heap.size + 1) Y < missW (w.heap.size + 1) W) := by
            show _ < _
            rw [hms.out, missW_is hS]
            exact miss_lt (fun k h => by rw [ht.out]; exact gPass_up _ _ _ _ k h) 64 hd
          have hgo : Hid (GO w Y F s₀ t Es) := ⟨hi1.out.g, hi1.out.m, fun k h => by rw [ht.out]; exact gPass_up _ _ _ _ k (hup.out k h), fun R h1 h2 k h3 => gPass_le hflH.out alw (fun k q => hle.out R h1 h2 k q) h2 F.code.length (Nat.le_refl _) k (by rw [← ht.out]; exact h3)⟩
          clear heb hd
          go_wp2_with (first
            | (refine wpList_load_row rfl 65 _ rfl (w.heap.size + 1) rfl _ _ _ _ hS huP.out rfl (infoSt _) ?_)
            | (refine wpList_load_row rfl 65 _ rfl BB rfl _ _ _ _ hQ huP.out rfl (infoSt _) ?_))
          exact ⟨⟨t, Es, hgo, rfl⟩, hlt2.out⟩
end Go.Proofs.YtlcljdldhajkiaaDoor.pg
/- Places, function by function: what may be come to, spawned too; plain, and as it lies. -/
namespace Go.Proofs.YtlcljdldhajkiaaDoor.pg
open Go.ChangeShapes Go.WideShapes Go.ChangeAt Go.RowKit Go.Shelf
set_option linter.unusedVariables false
set_option linter.unusedSimpArgs false
set_option maxRecDepth 100000
abbrev TS : TypeId := 66
def rowS (R : Nat → Nat → Bool) : Array Value := boolRow 512 fun j => R (j / 64) (j % 64)
def emS : Nat → Nat → Bool := fun _ _ => false
def oneS (f k : Nat) : Nat → Nat → Bool := fun g j => decide (g = f ∧ j = k)
abbrev objQ (R : Nat → Nat → Bool) : Obj := .cells (rowS R) TS
def upF (R : Nat → Nat → Bool) (f : Nat) (q : Nat → Bool) : Nat → Nat → Bool := fun g => if g = f then q else R g
def upP (R : Nat → Nat → Bool) (f k : Nat) : Nat → Nat → Bool := fun g j => if g = f ∧ j = k then true else R g j
theorem rowS_size (R : Nat → Nat → Bool) : (rowS R).size = 512 := boolRow_size _ _
theorem rowS_one (R : Nat → Nat → Bool) : (rowS R).all (·.oneCell') = true := boolRow_one _ _
theorem rowS_at {R : Nat → Nat → Bool} {f k : Nat} (hf : f < 8) (hk : k < 64) : (rowS R)[f * 64 + k]? = some (.bool (R f k)) := by
  unfold rowS
  rw [boolRow_at (by omega), show (f * 64 + k) / 64 = f by omega, show (f * 64 + k) % 64 = k by omega]
theorem infoSp (R : Nat → Nat → Bool) : (Tryd.prog.info? 66).map (·.size) = some (rowS R).size := by rw [rowS_size]; kernel_rfl
theorem zeroSp : ∀ w, (zeroValue 66).run Tryd.prog w = .ok (.agg (rowS emS)) w := fun w => by kernel_rfl
theorem upP_one (f k : Nat) : upP emS f k = oneS f k := by
  funext g j
  unfold upP oneS emS
  by_cases c : g = f ∧ j = k
  · rw [if_pos c, decide_eq_true c]
  · rw [if_neg c, decide_eq_false c]
theorem ixS (B f : Nat) (hf : f < 8) : ∀ wx, (Instr.indexAt 66 (.pointer (some ⟨B, 0, none⟩)) (.int .i64 (f : Int))).run Tryd.prog wx = .ok (.pointer (some ⟨B, f * 64, none⟩)) wx := by
  match f, hf with
  | 0, _ => exact fun _ => by kernel_rfl
  | 1, _ => exact fun _ => by kernel_rfl
  | 2, _ => exact fun _ => by kernel_rfl
  | 3, _ => exact fun _ => by kernel_rfl
  | 4, _ => exact fun _ => by kernel_rfl
  | 5, _ => exact fun _ => by kernel_rfl
  | 6, _ => exact fun _ => by kernel_rfl
  | 7, _ => exact fun _ => by kernel_rfl
theorem ixP (B o k : Nat) (h : k < 64) : ∀ wx, (Instr.indexAt 65 (.pointer (some ⟨B, o, none⟩)) (.int .i64 (k : Int))).run Tryd.prog wx = .ok (.pointer (some ⟨B, o + k, none⟩)) wx := by
  intro wx
  have u := Tryd.underlying65
  have z := Tryd.sizeOf4
  have q1 : (k : Int) < 64 := by omega
  have q2 : ¬ (k : Int) < 0 := by omega
  simp [Instr.indexAt, run_underlying u, asIntOf, go_sem, z, q1, q2]
  intro q
  omega
theorem sp_put {W : World} {B f k : Nat} {R : Nat → Nat → Bool} (h : W.heap[B]? = some (objQ R)) (hf : f < 8) (hk : k < 64) : (W.setCell ⟨B, f * 64 + k, none⟩ (.bool true)).heap[B]? = some (objQ (upP R f k)) := by
  rw [heap_setCell_same W B _ _ _ _ h]
  unfold rowS
  rw [boolRow_set]
  congr 2
  congr 1
  funext b
  unfold upP
  by_cases c : b = f * 64 + k
  · rw [if_pos c, if_pos (by omega)]
  · rw [if_neg c, if_neg (by omega)]
theorem sets_heap {B : Nat} {t : TypeId} : ∀ (vs : List Value) (o : Nat) (W : World) (cs : Array Value), W.heap[B]? = some (.cells cs t (0, 0)) → o + vs.length ≤ cs.size →
    ∃ cs' : Array Value, (W.setCells B o vs).heap[B]? = some (.cells cs' t (0, 0)) ∧ cs'.size = cs.size ∧ ∀ j, cs'[j]? = if o ≤ j ∧ j < o + vs.length then vs[j - o]? else cs[j]?
  | [], o, W, cs, h, _ => ⟨cs, h, rfl, fun j => by rw [if_neg (by simp only [List.length_nil]; omega)]⟩
  | v :: vs, o, W, cs, h, hl => by
    simp only [List.length_cons] at hl
    have h1 := heap_setCell_same W B o cs t v h
    obtain ⟨cs', e1, e2, e3⟩ := sets_heap vs (o + 1) (W.setCell ⟨B, o, none⟩ v) (cs.setIfInBounds o v) h1 (by rw [Array.size_setIfInBounds]; omega)
    refine ⟨cs', e1, by rw [e2, Array.size_setIfInBounds], fun j => ?_⟩
    rw [e3 j, List.length_cons]
    by_cases c : o + 1 ≤ j ∧ j < o + 1 + vs.length
    · rw [if_pos c, if_pos (by omega), show j - o = (j - (o + 1)) + 1 by omega, List.getElem?_cons_succ]
    · rw [if_neg c]
      by_cases d : j = o
      · subst d
        rw [if_pos (by omega), Nat.sub_self, List.getElem?_cons_zero, Array.getElem?_setIfInBounds_self_of_lt (by omega)]
      · rw [if_neg (by omega), Array.getElem?_setIfInBounds_ne (by omega)]
theorem sets_other {B b : Nat} (hb : b ≠ B) : ∀ (vs : List Value) (o : Nat) (W : World), (W.setCells B o vs).heap[b]? = W.heap[b]?
  | [], _, _ => rfl
  | v :: vs, o, W => (sets_other hb vs (o + 1) _).trans (heap_setCell_other W ⟨B, o, none⟩ b _ hb)
theorem sets_below {n B : Nat} {a : World} (hB : n ≤ B) : ∀ (vs : List Value) (o : Nat) (W : World), Below n a W → Below n a (W.setCells B o vs)
  | [], _, _, h => h
  | v :: vs, o, W, h => sets_below hB vs (o + 1) _ (h.setCell (p := ⟨B, o, none⟩) hB v)
theorem sp_row {W : World} {B f : Nat} {R : Nat → Nat → Bool} (h : W.heap[B]? = some (objQ R)) (hf : f < 8) (q : Nat → Bool) : (W.setCells B (f * 64) (boolRow 64 q).toList).heap[B]? = some (objQ (upF R f q)) := by
  have hl : (boolRow 64 q).toList.length = 64 := by rw [Array.length_toList, boolRow_size]
  obtain ⟨cs', e1, e2, e3⟩ := sets_heap (boolRow 64 q).toList (f * 64) W _ h (by rw [hl, rowS_size]; omega)
  rw [e1]
  have : cs' = rowS (upF R f q) := by
    apply Array.ext_getElem?
    intro j
    rw [e3 j, hl]
    by_cases hj : j < 512
    · have hr : ∀ R' : Nat → Nat → Bool, (rowS R')[j]? = some (.bool (R' (j / 64) (j % 64))) := fun R' => by unfold rowS; exact boolRow_at hj
      rw [hr, hr]
      unfold upF
      by_cases c : j / 64 = f
      · rw [if_pos (by omega), if_pos c, Array.getElem?_toList, boolRow_at (by omega), show j - f * 64 = j % 64 by omega]
      · rw [if_neg (by omega), if_neg c]
    · rw [if_neg (by omega), Array.getElem?_eq_none (by rw [rowS_size]; omega), Array.getElem?_eq_none (by rw [rowS_size]; omega)]
  rw [this]
theorem sp_rng {W : World} {B f : Nat} {R : Nat → Nat → Bool} (h : W.heap[B]? = some (objQ R)) (hf : f < 8) : W.rangeAt B (f * 64) (boolRow 64 (R f)).toList := fun j v hj => by
  have hl : j < 64 := by
    have := (List.getElem?_eq_some_iff.mp hj).1
    rw [Array.length_toList, boolRow_size] at this
    exact this
  rw [Array.getElem?_toList, boolRow_at hl] at hj
  rw [← hj]
  exact cell_lcQ h (rowS_at hf hl)
theorem sp_there {W : World} {B f : Nat} {R : Nat → Nat → Bool} (h : W.heap[B]? = some (objQ R)) (hf : f < 8) (q : Nat → Bool) : W.there B (f * 64) (boolRow 64 q).size := fun j hj => by
  rw [boolRow_size] at hj
  exact ⟨by rw [cell_lcQ h (rowS_at hf hj)]; rfl, frozen_of_row _ _ _ _ _ h⟩
theorem info64 {f : Nat → Bool} : (Tryd.prog.info? 65).map (·.size) = some (boolRow 64 f).toList.length := by rw [Array.length_toList, boolRow_size]; kernel_rfl
/-- Two such are the same? -/
theorem eqP_one (a b : Bool) (w : World) : (Op.equalIn 9998 4 (.bool a) (.bool b)).run Tryd.prog w = .ok (a == b) w := by
  have ub := Tryd.underlying4
  go_simp
theorem run_eqP (f g : Nat → Bool) (w : World) : ∀ is : List Nat, (∀ i ∈ is, i < 64) → (Op.eqItems 9998 4 1 (boolRow 64 f) (boolRow 64 g) is).run Tryd.prog w = .ok (is.all fun k => f k == g k) w
  | [], _ => by rw [Op.eqItems]; rfl
  | i :: is, h => by
    have ih := run_eqP f g w is fun k hk => h k (by simp [hk])
    have hi := h i (by simp)
    rw [Op.eqItems]
    simp only [Sem.run_bind, eqS_part _ _ hi, eqP_one, Result.andThen_ok, List.all_cons]
    cases hq : (f i == g i)
    · rfl
    · simp only [Bool.not_true, Bool.false_eq_true, if_false, Bool.true_and]
      exact ih
theorem eqP_row (f g : Nat → Bool) (w : World) : (Op.equalIn 9999 65 (.agg (boolRow 64 f)) (.agg (boolRow 64 g))).run Tryd.prog w = .ok ((List.range 64).all fun k => f k == g k) w := by
  obtain ⟨i, hi⟩ := infoB_some
  have hc1 : Tryd.prog.cellsOf 4 = 1 := by kernel_rfl
  rw [show (9999 : Nat) = 9998 + 1 from rfl, run_equalIn_array w 9998 _ _ Tryd.underlying65 hi, hc1]
  exact run_eqP f g w _ fun k hk => List.mem_range.mp hk
theorem sp_part (R : Nat → Nat → Bool) (i : Nat) (hi : i < 8) (w : World) : (part 65 (rowS R) (i * 64)).run Tryd.prog w = .ok (.agg (boolRow 64 (R i))) w := by
  have a1 := Tryd.isAgg65
  have z := Tryd.sizeOf65
  have e : (rowS R).extract (i * 64) (i * 64 + 64) = boolRow 64 (R i) := by
    apply Array.ext_getElem?
    intro j
    by_cases hj : j < 64
    · rw [Array.getElem?_extract, if_pos (by rw [rowS_size]; omega), rowS_at hi hj, boolRow_at hj]
    · rw [Array.getElem?_eq_none (by rw [Array.size_extract, rowS_size]; omega), Array.getElem?_eq_none (by rw [boolRow_size]; omega)]
  unfold part
  simp only [Sem.run_bind, a1, z, Result.andThen_ok, if_true, Sem.run_pure]
  rw [e]
theorem run_eqQ (R T : Nat → Nat → Bool) (w : World) : ∀ is : List Nat, (∀ i ∈ is, i < 8) → (Op.eqItems 9999 65 64 (rowS R) (rowS T) is).run Tryd.prog w = .ok (is.all fun f => (List.range 64).all fun k => R f k == T f k) w
  | [], _ => by rw [Op.eqItems]; rfl
  | i :: is, h => by
    have ih := run_eqQ R T w is fun k hk => h k (by simp [hk])
    have hi := h i (by simp)
    rw [Op.eqItems]
    simp only [Sem.run_bind, sp_part _ _ hi, eqP_row, Result.andThen_ok, List.all_cons]
    cases hq : ((List.range 64).all fun k => R i k == T i k)
    · rfl
    · simp only [Bool.not_true, Bool.false_eq_true, if_false, Bool.true_and]
      exact ih
theorem infoPl_some : ∃ i, Tryd.prog.info? 65 = some i := by
  have h : (Tryd.prog.info? 65).isSome = true := by kernel_rfl
  exact Option.isSome_iff_exists.mp h
theorem eqQ_run (R T : Nat → Nat → Bool) (w : World) : (binOp .eql 66 (.agg (rowS R)) (.agg (rowS T))).run Tryd.prog w = .ok (.bool ((List.range 8).all fun f => (List.range 64).all fun k => R f k == T f k)) w := by
  obtain ⟨i, hi⟩ := infoPl_some
  have hc1 : Tryd.prog.cellsOf 65 = 64 := by kernel_rfl
  have h : (Op.equalIn 10000 66 (.agg (rowS R)) (.agg (rowS T))).run Tryd.prog w = .ok ((List.range 8).all fun f => (List.range 64).all fun k => R f k == T f k) w := by
    rw [show (10000 : Nat) = 9999 + 1 from rfl, run_equalIn_array w 9999 _ _ Tryd.underlying66 hi, hc1]
    exact run_eqQ R T w _ fun k hk => List.mem_range.mp hk
  rw [run_eql_struct, h]; rfl
theorem same_sp {R T : Nat → Nat → Bool} : ((List.range 8).all fun f => (List.range 64).all fun k => R f k == T f k) = true ↔ ∀ f k, f < 8 → k < 64 → R f k = T f k := by
  rw [List.all_eq_true]
  simp only [List.mem_range, List.all_eq_true, beq_iff_eq]
  exact ⟨fun h f k hf hk => h f hf k hk, fun h f hf k hk => h f k hf hk⟩
/-- How many are not marked, read off the world. -/
def missQ (B : Nat) (W : World) : Nat := match W.heap[B]? with
  | some (.cells cs _ _) => miss (fun k => cellT cs[k]?) 512
  | _ => 0
theorem missQ_is {B : Nat} {W : World} {R : Nat → Nat → Bool} (h : W.heap[B]? = some (objQ R)) : missQ B W = miss (fun j => R (j / 64) (j % 64)) 512 := by
  unfold missQ
  rw [h]
  refine miss_congr 512 fun k hk => ?_
  show cellT (rowS R)[k]? = R (k / 64) (k % 64)
  unfold rowS
  rw [boolRow_at hk]
  cases R (k / 64) (k % 64) <;> rfl
theorem missQ_lt {R T : Nat → Nat → Bool} (h : ∀ f k, R f k = true → T f k = true) (hd : ∃ f k, f < 8 ∧ k < 64 ∧ T f k ≠ R f k) : miss (fun j => T (j / 64) (j % 64)) 512 < miss (fun j => R (j / 64) (j % 64)) 512 := by
  obtain ⟨f, k, hf, hk, hn⟩ := hd
  refine miss_lt (s := fun j => R (j / 64) (j % 64)) (t := fun j => T (j / 64) (j % 64)) (fun j => h _ _) 512 ⟨f * 64 + k, by omega, ?_⟩
  rw [show (f * 64 + k) / 64 = f by omega, show (f * 64 + k) % 64 = k by omega]
  exact hn
/-- A pass over the functions, as far as it has come. -/
structure SpI (fns : List Fn) (f0 p0 : Nat) (s t : Nat → Nat → Bool) (g : Nat) : Prop where
  i : s f0 p0 = true
  up : ∀ a k, s a k = true → t a k = true
  le : ∀ R', R' f0 p0 = true → ClosedP fns R' → ∀ a k, t a k = true → R' a k = true
  dn : ∀ a F, a < g → fns[a]? = some F → ∀ pc, pc < F.code.length → s a pc = true → (∀ x ∈ nxt F pc, t a x.toNat = true) ∧ ((insAt F.code pc).op = 62 → t (insAt F.code pc).b.toNat 0 = true)
/-- And inside one. -/
structure SpJ (fns : List Fn) (f0 p0 : Nat) (s t : Nat → Nat → Bool) (g : Nat) (F : Fn) (c : Nat) : Prop where
  q : SpI fns f0 p0 s t g
  cn : ∀ pc, pc < F.code.length → s g pc = true → ∀ x ∈ nxt F pc, t g x.toNat = true
  sp : ∀ pc, pc < c → s g pc = true → (insAt F.code pc).op = 62 → t (insAt F.code pc).b.toNat 0 = true
theorem SpI.mono {fns : List Fn} {f0 p0 : Nat} {s t t' : Nat → Nat → Bool} {g : Nat} (h : SpI fns f0 p0 s t g) (hu : ∀ a k, t a k = true → t' a k = true) (hl : ∀ R', R' f0 p0 = true → ClosedP fns R' → ∀ a k, t' a k = true → R' a k = true) : SpI fns f0 p0 s t' g :=
  ⟨h.i, fun a k q => hu a k (h.up a k q), hl, fun a F ha hF pc hp hs => ⟨fun x hx => hu _ _ ((h.dn a F ha hF pc hp hs).1 x hx), fun ho => hu _ _ ((h.dn a F ha hF pc hp hs).2 ho)⟩⟩
theorem SpI.grow {fns : List Fn} {f0 p0 : Nat} {s t : Nat → Nat → Bool} {g : Nat} (h : SpI fns f0 p0 s t g) {F : Fn} (hF : fns[g]? = some F) {R : Nat → Bool} (hR : Least F alw (t g) R) : SpJ fns f0 p0 s (upF t g R) g F 0 := by
  have hu : ∀ a k, t a k = true → upF t g R a k = true := fun a k q => by
    unfold upF
    by_cases c : a = g
    · subst c; rw [if_pos rfl]; exact hR.up k q
    · rw [if_neg c]; exact q
  refine ⟨h.mono hu fun R' h1 h2 a k q => ?_, fun pc hp hs x hx => ?_, fun pc hp => absurd hp (Nat.not_lt_zero _)⟩
  · unfold upF at q
    by_cases c : a = g
    · subst c
      rw [if_pos rfl] at q
      exact hR.le (R' a) (fun j hj => h.le R' h1 h2 a j hj) (h2.c a F hF) k q
    · rw [if_neg c] at q
      exact h.le R' h1 h2 a k q
  · have e : upF t g R g = R := by unfold upF; rw [if_pos rfl]
    rw [e]
    exact hR.cl pc hp (hR.up pc (h.up g pc hs)) rfl x hx
theorem SpJ.mono {fns : List Fn} {f0 p0 : Nat} {s t t' : Nat → Nat → Bool} {g c : Nat} {F : Fn} (h : SpJ fns f0 p0 s t g F c) (hu : ∀ a k, t a k = true → t' a k = true) (hl : ∀ R', R' f0 p0 = true → ClosedP fns R' → ∀ a k, t' a k = true → R' a k = true) : SpJ fns f0 p0 s t' g F c :=
  ⟨h.q.mono hu hl, fun pc hp hs x hx => hu _ _ (h.cn pc hp hs x hx), fun pc hp hs ho => hu _ _ (h.sp pc hp hs ho)⟩
theorem SpJ.skip {fns : List Fn} {f0 p0 : Nat} {s t : Nat → Nat → Bool} {g c : Nat} {F : Fn} (h : SpJ fns f0 p0 s t g F c) (hn : ¬ (t g c = true ∧ (insAt F.code c).op = 62)) : SpJ fns f0 p0 s t g F (c + 1) :=
  ⟨h.q, h.cn, fun pc hp hs ho => by
    by_cases e : pc = c
    · subst e
      exact absurd ⟨h.q.up g pc hs, ho⟩ hn
    · exact h.sp pc (by omega) hs ho⟩
theorem SpJ.spawn {fns : List Fn} {f0 p0 : Nat} {s t : Nat → Nat → Bool} {g c : Nat} {F : Fn} (h : SpJ fns f0 p0 s t g F c) (hF : fns[g]? = some F) (hc : c < F.code.length) (hn : t g c = true ∧ (insAt F.code c).op = 62) : SpJ fns f0 p0 s (upP t (insAt F.code c).b.toNat 0) g F (c + 1) := by
  have hu : ∀ a k, t a k = true → upP t (insAt F.code c).b.toNat 0 a k = true := fun a k q => by
    unfold upP
    split
    · rfl
    · exact q
  have h2 := h.mono hu fun R' h1 h2 a k q => by
    unfold upP at q
    split at q
    · rename_i e
      rw [e.1, e.2]
      exact h2.s g F hF c hc (h.q.le R' h1 h2 g c hn.1) hn.2
    · exact h.q.le R' h1 h2 a k q
  refine ⟨h2.q, h2.cn, fun pc hp hs ho => ?_⟩
  by_cases e : pc = c
  · subst e
    unfold upP
    rw [if_pos ⟨rfl, rfl⟩]
  · exact h2.sp pc (by omega) hs ho
theorem SpJ.done {fns : List Fn} {f0 p0 : Nat} {s t : Nat → Nat → Bool} {g : Nat} {F : Fn} (h : SpJ fns f0 p0 s t g F F.code.length) (hF : fns[g]? = some F) : SpI fns f0 p0 s t (g + 1) :=
  ⟨h.q.i, h.q.up, h.q.le, fun a F' ha hF' pc hp hs => by
    by_cases e : a = g
    · subst e
      have : F' = F := by rw [hF] at hF'; exact (Option.some.inj hF').symm
      subst this
      exact ⟨h.cn pc hp hs, h.sp pc hp hs⟩
    · exact h.q.dn a F' (by omega) hF' pc hp hs⟩
theorem SpI.fin {fns : List Fn} {f0 p0 : Nat} {s t : Nat → Nat → Bool} (h : SpI fns f0 p0 s t fns.length) (h8 : fns.length ≤ 8) (h64 : ∀ F ∈ fns, F.code.length ≤ 64) (he : ∀ f k, f < 8 → k < 64 → t f k = s f k) : LeastP fns f0 p0 t := by
  have hlt : ∀ {f : Nat} {F : Fn}, fns[f]? = some F → f < fns.length := fun hF => (List.getElem?_eq_some_iff.mp hF).1
  have hb : ∀ {f pc : Nat} {F : Fn}, fns[f]? = some F → pc < F.code.length → t f pc = true → s f pc = true := fun hF hp hr => by
    have := hlt hF
    have := h64 _ (List.mem_of_getElem? hF)
    rw [← he _ _ (by omega) (by omega)]
    exact hr
  exact ⟨h.up _ _ h.i, ⟨fun f F hF pc hp hr _ x hx => (h.dn f F (hlt hF) hF pc hp (hb hF hp hr)).1 x hx, fun f F hF pc hp hr ho => (h.dn f F (hlt hF) hF pc hp (hb hF hp hr)).2 ho⟩, h.le⟩
theorem SpI.again {fns : List Fn} {f0 p0 : Nat} {s t : Nat → Nat → Bool} {g : Nat} (h : SpI fns f0 p0 s t g) : SpI fns f0 p0 t t 0 := ⟨h.up _ _ h.i, fun _ _ q => q, h.le, fun a F ha => absurd ha (Nat.not_lt_zero _)⟩
theorem SpI.first (fns : List Fn) (f0 p0 : Nat) : SpI fns f0 p0 (oneS f0 p0) (oneS f0 p0) 0 := ⟨by simp [oneS], fun _ _ q => q, fun R' h1 _ a k q => by
  unfold oneS at q
  have := of_decide_eq_true q
  rw [this.1, this.2]
  exact h1, fun a F ha => absurd ha (Nat.not_lt_zero _)⟩
/-- How all lies. -/
structure SpA (w W : World) (M : MPr) (t : Nat → Nat → Bool) : Prop where
  b : Below w.heap.size w W
  p : BoxP W w.heap.size M
  r : W.heap[w.heap.size + 1]? = some (objQ emS)
  s : W.heap[w.heap.size + 1 + 1]? = some (objQ t)
theorem SpA.lt {w W : World} {M : MPr} {t : Nat → Nat → Bool} (h : SpA w W M t) : w.heap.size + 1 + 1 < W.heap.size := (Array.getElem?_eq_some_iff.mp h.s).1
theorem SpA.keep {w W W' : World} {M : MPr} {t t' : Nat → Nat → Bool} (h : SpA w W M t) (hb : Below w.heap.size W W') (hk : ∀ b, b < w.heap.size + 1 + 1 → W'.heap[b]? = W.heap[b]?) (hs : W'.heap[w.heap.size + 1 + 1]? = some (objQ t')) : SpA w W' M t' :=
  ⟨h.b.trans hb, ⟨cell_keepQ h.p.1 (hk _ (by omega)), cell_keepQ h.p.2.1 (hk _ (by omega)), cell_keepQ h.p.2.2.1 (hk _ (by omega)), cell_keepQ h.p.2.2.2 (hk _ (by omega))⟩, (hk _ (by omega)).trans h.r, hs⟩
theorem SpA.later {w W W' : World} {M : MPr} {t : Nat → Nat → Bool} (h : SpA w W M t) (hb : Below W.heap.size W W') : SpA w W' M t := h.keep (hb.mono (by have := h.lt; omega)) (fun b q => hb.block b (by have := h.lt; omega)) (blk_onQ h.s hb)
theorem SpA.put {w W : World} {M : MPr} {t : Nat → Nat → Bool} (h : SpA w W M t) {f k : Nat} (hf : f < 8) (hk : k < 64) : SpA w (W.setCell ⟨w.heap.size + 1 + 1, f * 64 + k, none⟩ (.bool true)) M (upP t f k) :=
  h.keep ((Below.refl _ _).setCell (p := ⟨w.heap.size + 1 + 1, f * 64 + k, none⟩) (by show w.heap.size ≤ w.heap.size + 1 + 1; omega) _) (fun b q => heap_setCell_other W ⟨w.heap.size + 1 + 1, f * 64 + k, none⟩ b _ (by show b ≠ w.heap.size + 1 + 1; omega)) (sp_put h.s hf hk)
theorem SpA.row {w W : World} {M : MPr} {t : Nat → Nat → Bool} (h : SpA w W M t) {f : Nat} (hf : f < 8) (q : Nat → Bool) : SpA w (W.setCells (w.heap.size + 1 + 1) (f * 64) (boolRow 64 q).toList) M (upF t f q) :=
  h.keep (sets_below (by omega) _ _ _ (Below.refl _ _)) (fun b hb => sets_other (by omega) _ _ _) (sp_row h.s hf q)
end Go.Proofs.YtlcljdldhajkiaaDoor.pg
