/- Some places and all that may be come to from them on local ways. -/
import Derived.Test.YtlcljdldhajkiaaDoorM19
import Derived.Test.YtlcljdldhajkiaaDoorM15
namespace Go.Proofs.YtlcljdldhajkiaaDoor.pg
open Go.ChangeShapes Go.WideShapes Go.ChangeAt Go.RowKit Go.Shelf
set_option linter.unusedVariables false
set_option linter.unusedSimpArgs false
set_option maxRecDepth 100000
attribute [local go_sem] Oper.semAt_some
abbrev lcl : Int → Bool := prog.loc
def gOTL (w : World) (F : MFn) (s₀ : Nat → Bool) (u7 u8 u9 u10 u11 u12 u13 u14 u15 u16 u17 u18 u19 u20 u21 u22 u23 u24 u25 u26 u27 u28 u29 u30 u31 u32 u33 u34 u35 u36 u37 u38 u39 : Value) (d : List Deferred) : Act := { tmps := #[F.val, .agg (boolRow 64 s₀), .func (.func 53) #[] #[], .pointer (some ⟨w.heap.size, 0, none⟩), .pointer (some ⟨w.heap.size + 1, 0, none⟩), undef, .pointer (some ⟨w.heap.size + 1 + 1, 0, none⟩), u7, u8, u9, u10, u11, u12, u13, u14, u15, u16, u17, u18, u19, u20, u21, u22, u23, u24, u25, u26, u27, u28, u29, u30, u31, u32, u33, u34, u35, u36, u37, u38, u39], defers := d }
def gITL (w : World) (F : MFn) (s₀ s : Nat → Bool) (BB k : Nat) (u8 u9 u10 u16 u17 u18 u19 u20 u21 u22 u23 u24 u25 u26 u27 u28 u29 u30 u31 u32 u33 u34 u35 u36 u37 u38 u39 : Value) (d : List Deferred) : Act := { tmps := #[F.val, .agg (boolRow 64 s₀), .func (.func 53) #[] #[], .pointer (some ⟨w.heap.size, 0, none⟩), .pointer (some ⟨w.heap.size + 1, 0, none⟩), undef, .pointer (some ⟨w.heap.size + 1 + 1, 0, none⟩), .pointer (some ⟨BB, 0, none⟩), u8, u9, u10, .agg (boolRow 64 s), .pointer (some ⟨w.heap.size, 2, none⟩), .slice F.ca F.code.length F.ccap, .int .i64 F.code.length, .int .i64 (k : Int), u16, u17, u18, u19, u20, u21, u22, u23, u24, u25, u26, u27, u28, u29, u30, u31, u32, u33, u34, u35, u36, u37, u38, u39], defers := d }
/-- What is known between two rounds of the outer loop. -/
structure GOL (w W : World) (F : MFn) (s₀ s : Nat → Bool) (Ds : List Nat) : Prop where
  g : GA w W F s
  m : Marks w.heap.size Ds W
  up : ∀ k, s₀ k = true → s k = true
  le : ∀ R, (∀ k, s₀ k = true → R k = true) → closedF F.fn lcl R → ∀ k, s k = true → R k = true
set_option maxHeartbeats 8000000 in
theorem grownL_any (F : MFn) (s₀ : Nat → Bool) (w : World) (hF : F.lies w) (hPF : prog.Forms w) (hfl : FlowF F.fn) :
    Calls Tryd.prog 49 #[F.val, .agg (boolRow 64 s₀), .func (.func 53) #[] #[]] w fun e w' => ∃ R, e = .returned (.agg (boolRow 64 R)) ∧ Least F.fn lcl s₀ R ∧ Below w.heap.size w w' := by
  have huP : Hid (Tryd.prog.underlying 65 = _) := Tryd.underlying65
  have hzP : Hid (∀ w, (zeroValue 65).run Tryd.prog w = .ok (.agg (boolRow 64 fun _ => false)) w) := zeroSt
  have hl64 : (F.code.length : Int) ≤ 64 := by have := hfl.l64; have h : F.fn.code.length = F.code.length := rfl; omega
  obtain ⟨p1, p2, p3⟩ := three_new w (objFn F) (objPl s₀) (objPl fun _ => false)
  have s0 : Hid (GOL w (((w.alloc (objFn F)).alloc (objPl s₀)).alloc (objPl fun _ => false)) F s₀ s₀ []) := ⟨⟨boxed3 _ _ _ _, p1, p2, p3⟩, Marks.nil _ _, fun _ h => h, fun R h _ => h⟩
  have hFH : Hid (F.lies w) := hF
  have hPH : Hid (prog.Forms w) := hPF
  have hflH : Hid (FlowF F.fn) := hfl
  clear p1 p2 p3 hF hfl hPF
  refine (callsIn_wide (n := 3)).1 ?_
  refine callsIn_of_wp_marks Tryd.func49 rfl trivial ?_ rfl
  simp only [Tryd.ntmps49, List.size_toArray, List.length_cons, List.length_nil, Nat.reduceAdd, Nat.reduceSub, Array.replicate_succ, Array.replicate_zero, List.push_toArray, List.append_toArray, List.nil_append, List.cons_append]
  refine wpIn_wide.2 ?_
  go_wp2_with (refine wpList_alloc_big rfl 65 rfl hzP.out ?_)
  try simp only [Act.put, List.setIfInBounds_toArray, List.set_cons_zero, List.set_cons_succ, World.size_alloc]
  generalize ((w.alloc (objFn F)).alloc (objPl s₀)).alloc (objPl fun _ => false) = V at *
  refine wp_loop (fun a' W' => ∃ (s : Nat → Bool) (Ds : List Nat) (u7 u8 u9 u10 u11 u12 u13 u14 u15 u16 u17 u18 u19 u20 u21 u22 u23 u24 u25 u26 u27 u28 u29 u30 u31 u32 u33 u34 u35 u36 u37 u38 u39 : Value), Hid (GOL w W' F s₀ s Ds) ∧ a' = gOTL w F s₀ u7 u8 u9 u10 u11 u12 u13 u14 u15 u16 u17 u18 u19 u20 u21 u22 u23 u24 u25 u26 u27 u28 u29 u30 u31 u32 u33 u34 u35 u36 u37 u38 u39 (Ds.map mkD)) (fun _ W' => missW (w.heap.size + 1) W') ?_ ?_
  · exact ⟨s₀, [], undef, undef, undef, undef, undef, undef, undef, undef, undef, undef, undef, undef, undef, undef, undef, undef, undef, undef, undef, undef, undef, undef, undef, undef, undef, undef, undef, undef, undef, undef, undef, undef, undef, s0, rfl⟩
  · rintro a' W ⟨s, Ds, u7, u8, u9, u10, u11, u12, u13, u14, u15, u16, u17, u18, u19, u20, u21, u22, u23, u24, u25, u26, u27, u28, u29, u30, u31, u32, u33, u34, u35, u36, u37, u38, u39, ho, rfl⟩
    clear s0
    unfold gOTL
    have hSB := ho.out.g.s
    have hlt0 := ho.out.g.lt
    have hzi : (W.alloc (objPl fun _ => false)).heap[W.heap.size]? = some (objPl fun _ => false) := heap_alloc_new W _
    have hbw : Below W.heap.size W ((W.alloc (objPl fun _ => false)).setRow W.heap.size (boolRow 64 s)) := below_rowN (boxed _ _) (Nat.le_refl _)
    have f2 := cell_ofF (k := 2) (v := .slice F.ca F.code.length F.ccap) (ho.out.g.later hbw).f rfl
    have i0 : Hid (GI w ((W.alloc (objPl fun _ => false)).setRow W.heap.size (boolRow 64 s)) F s (gPass F.fn lcl s 0) W.heap.size Ds) := ⟨ho.out.g.later hbw, ho.out.m.later hbw, hlt0, setRow_heap _ _ _ _ _ _ hzi⟩
    have hup : Hid (∀ k, s₀ k = true → s k = true) := ho.out.up
    have hle : Hid (∀ R, (∀ k, s₀ k = true → R k = true) → closedF F.fn lcl R → ∀ k, s k = true → R k = true) := ho.out.le
    have hms : Hid (missW (w.heap.size + 1) W = miss s 64) := missW_is hSB
    have hmsW : ∀ (Z : Nat), Hid (missW (w.heap.size + 1) W = Z) → True := fun _ _ => trivial
    clear hmsW hbw
    obtain ⟨MZ, hMZ⟩ : ∃ MZ, Hid (missW (w.heap.size + 1) W = MZ) := ⟨_, rfl⟩
    go_wp2_with (first
      | (refine wpList_load_row rfl 65 _ rfl (w.heap.size + 1) rfl _ _ _ _ hSB huP.out rfl (infoSt _) ?_)
      | (refine wpList_alloc_big rfl 65 rfl hzP.out ?_)
      | (refine wpList_store_row rfl 65 _ _ rfl W.heap.size (boolRow 64 s) rfl rfl _ _ hzi (infoSt _) (by rw [boolRow_size, boolRow_size]) (boolRow_one _ _) ?_))
    try simp only [Act.put, List.setIfInBounds_toArray, List.set_cons_zero, List.set_cons_succ]
    clear f2 hzi hSB ho
    generalize (W.alloc (objPl fun _ => false)).setRow W.heap.size (boolRow 64 s) = V1 at *
    generalize W.heap.size = BB at *
    refine wp_loop (fun a' W' => ∃ (k : Nat) (Es : List Nat) (u8 u9 u10 u16 u17 u18 u19 u20 u21 u22 u23 u24 u25 u26 u27 u28 u29 u30 u31 u32 u33 u34 u35 u36 u37 u38 u39 : Value), k ≤ F.code.length ∧ Hid (GI w W' F s (gPass F.fn lcl s k) BB Es) ∧ a' = gITL w F s₀ s BB k u8 u9 u10 u16 u17 u18 u19 u20 u21 u22 u23 u24 u25 u26 u27 u28 u29 u30 u31 u32 u33 u34 u35 u36 u37 u38 u39 (Es.map mkD)) (fun a' _ => F.code.length - (intOf (a'.tmps.getD 15 undef)).toNat) ?_ ?_
    · exact ⟨0, Ds, u8, u9, u10, u16, u17, u18, u19, u20, u21, u22, u23, u24, u25, u26, u27, u28, u29, u30, u31, u32, u33, u34, u35, u36, u37, u38, u39, Nat.zero_le _, i0, rfl⟩
    · rintro a' Y ⟨k, Es, u8, u9, u10, u16, u17, u18, u19, u20, u21, u22, u23, u24, u25, u26, u27, u28, u29, u30, u31, u32, u33, u34, u35, u36, u37, u38, u39, hk, hi, rfl⟩
      clear i0
      unfold gITL
      by_cases hlt : k < F.code.length
      · obtain ⟨m1, m2⟩ := insAt_mem (code := F.code) (pc := (k : Int)) (by omega) (by omega)
        rw [Int.toNat_natCast] at m1
        have hio := (hFH.out.2.2.1 _ m2).1
        obtain ⟨ib, io, hix, hib, i0, i1, i2, i3, i4⟩ := ins_ix (hFH.out.later hi.out.g.b).1 k _ m1
        have hmore : Hid (gPass F.fn lcl s (k + 1) = if gPass F.fn lcl s k k = true ∧ lcl (insAt F.code k).op = true then puts (gPass F.fn lcl s k) (nxt F.fn k) else gPass F.fn lcl s k) := rfl
        generalize insAt F.code k = i at *
        have hkI : (k : Int) < F.code.length := by omega
        have hk64 : k < 64 := by omega
        have xI := ix_pl (w.heap.size + 1) k hk64
        have hbn := boxed Y (.cells #[.int .i64 i.op, .int .i64 i.a, .int .i64 i.b, .int .i64 i.c, .int .i64 i.n] 70)
        have hCn : (Y.alloc (.cells #[.int .i64 i.op, .int .i64 i.a, .int .i64 i.b, .int .i64 i.c, .int .i64 i.n] 70)).heap[Y.heap.size]? = some (.cells #[.int .i64 i.op, .int .i64 i.a, .int .i64 i.b, .int .i64 i.c, .int .i64 i.n] 70) := heap_alloc_new Y _
        have j0 := cell_ofF (k := 0) (v := .int .i64 i.op) hCn rfl
        have hi2 : Hid (GI w (Y.alloc (.cells #[.int .i64 i.op, .int .i64 i.a, .int .i64 i.b, .int .i64 i.c, .int .i64 i.n] 70)) F s (gPass F.fn lcl s k) BB Es) := hi.out.later hbn
        have cI := cell_ofF (k := k) (v := .bool (gPass F.fn lcl s k k)) hi2.out.g.s (boolRow_at hk64)
        have hYl := hi.out.g.lt
        clear hbn hCn hi m1 m2 hib
        obtain ⟨bk, hbk⟩ : ∃ bk, gPass F.fn lcl s k k = bk := ⟨_, rfl⟩
        rw [hbk] at cI
        cases bk with
        | false =>
          have hN : Hid (gPass F.fn lcl s (k + 1) = gPass F.fn lcl s k) := by show _ = _; rw [hmore.out, if_neg (by rw [hbk]; simp)]
          clear hmore hbk
          go_wp2
          refine ⟨⟨k + 1, Es, _, _, _, _, _, _, _, _, _, _, _, _, _, _, _, _, _, _, _, _, _, _, _, _, _, _, _, by omega, by rw [hN.out]; exact hi2, rfl⟩, ?_⟩
          simp [intOf]
          omega
        | true =>
          obtain ⟨lq, hlb⟩ : ∃ lq, prog.loc i.op = lq := ⟨_, rfl⟩
          cases lq with
          | false =>
            have hN : Hid (gPass F.fn lcl s (k + 1) = gPass F.fn lcl s k) := by show _ = _; rw [hmore.out, if_neg (fun q => by have := q.2; rw [show lcl i.op = false from hlb] at this; cases this)]
            have cA := prog.local_any i.op hio.1 hio.2 (Y.alloc (.cells #[.int .i64 i.op, .int .i64 i.a, .int .i64 i.b, .int .i64 i.c, .int .i64 i.n] 70)) (hPH.out.later hi2.out.g.b) false hlb
            clear hmore hbk
            go_wp2_with (go_at_call 53; (refine cA.mono ?_); rintro e w0 ⟨rfl, hw0⟩; replace hw0 := hw0.symm; subst hw0)
            refine ⟨⟨k + 1, Es, _, _, _, _, _, _, _, _, _, _, _, _, _, _, _, _, _, _, _, _, _, _, _, _, _, _, _, by omega, by rw [hN.out]; exact hi2, rfl⟩, ?_⟩
            simp [intOf]
            omega
          | true =>
            have hN : Hid (gPass F.fn lcl s (k + 1) = puts (gPass F.fn lcl s k) (nxt F.fn k)) := by show _ = _; rw [hmore.out, if_pos ⟨hbk, hlb⟩]
            have hto : ∀ x ∈ nxt F.fn k, 0 ≤ x ∧ x < 64 := fun x hx => by have h1 := hflH.out.n k hlt x hx; have h2 := hflH.out.l64; omega
            have l0 := cell_ofF (k := 0) (v := .int .i64 F.params) hi2.out.g.f rfl
            have l1 := cell_ofF (k := 1) (v := .int .i64 F.regs) hi2.out.g.f rfl
            have l2 := cell_ofF (k := 2) (v := .slice F.ca F.code.length F.ccap) hi2.out.g.f rfl
            have l3 := cell_ofF (k := 3) (v := .slice F.sa F.sels.length F.scap) hi2.out.g.f rfl
            have cA := prog.local_any i.op hio.1 hio.2 (Y.alloc (.cells #[.int .i64 i.op, .int .i64 i.a, .int .i64 i.b, .int .i64 i.c, .int .i64 i.n] 70)) (hPH.out.later hi2.out.g.b) true hlb
            have cB := behind_any F (k : Int) (Y.alloc (.cells #[.int .i64 i.op, .int .i64 i.a, .int .i64 i.b, .int .i64 i.c, .int .i64 i.n] 70))
            rw [World.size_alloc] at cB
            clear hmore hbk
            go_wp2_with (first
              | (go_at_call 53; (refine cA.mono ?_); rintro e w0 ⟨rfl, hw0⟩; replace hw0 := hw0.symm; subst hw0)
              | (go_at_call 37; (refine cB.mono ?_); rintro e w1 ⟨rfl, hw1⟩))
            clear l0 l1 l2 l3 cI xI cB cA i0 i1 i2 i3 i4 j0
            have hbW : Below (Y.alloc (.cells #[.int .i64 i.op, .int .i64 i.a, .int .i64 i.b, .int .i64 i.c, .int .i64 i.n] 70)).heap.size (Y.alloc (.cells #[.int .i64 i.op, .int .i64 i.a, .int .i64 i.b, .int .i64 i.c, .int .i64 i.n] 70)) w1 := by rw [hw1]; exact boxed2 _ _ _
            obtain ⟨q1, q2⟩ := two_new (Y.alloc (.cells #[.int .i64 i.op, .int .i64 i.a, .int .i64 i.b, .int .i64 i.c, .int .i64 i.n] 70)) (objFn F) (.cells #[.int .i64 (k : Int)] 3)
            rw [← hw1, World.size_alloc] at q1 q2
            rw [← hw1]
            have hsz : w1.heap.size = Y.heap.size + 1 + 1 + 1 := by rw [hw1]; simp [World.size_alloc]
            have hi1 : GI w w1 F s (gPass F.fn lcl s k) BB Es := hi2.out.later hbW
            have hDl : ∀ D ∈ Es, D < w1.heap.size := fun D hD => hi1.m.lt hD
            have hBl : BB < w1.heap.size := (Array.getElem?_eq_some_iff.mp hi1.q).1
            clear hw1 hi2 hbW
            refine (wpIn_wide (n := 3)).1 ?_
            refine wpIn_rangeFunc_ownG (n := 3) rfl (by omega) (gf := 54) (lb := #[.pointer (some ⟨Y.heap.size + 1, 0, none⟩), .pointer (some ⟨Y.heap.size + 1 + 1, 0, none⟩)]) rfl trivial (enters_of Tryd.func54 (by kernel_rfl) rfl)
              (behind_stops 2 w F hFH.out hflH.out k hlt hto (w.heap.size + 1) (Y.heap.size + 1) (Y.heap.size + 1 + 1) w1 hi1.g.b (by omega) q1 q2 (by omega)) KeepC.trans (keepC_b (by omega)) (Below.refl _ _) (fun _ => rfl)
              (fun pre Z => GI w Z F s (puts (gPass F.fn lcl s k) (pre.map (·.1))) BB Es) (fun _ _ _ => False) ?own (fun _ _ _ _ _ hs _ _ => hs) (by rw [List.map_nil, puts_nil]; exact hi1)
              (fun x => { tmps := #[F.val, .agg (boolRow 64 s₀), .func (.func 53) #[] #[], .pointer (some ⟨w.heap.size, 0, none⟩), .pointer (some ⟨w.heap.size + 1, 0, none⟩), undef, .pointer (some ⟨w.heap.size + 1 + 1, 0, none⟩), .pointer (some ⟨BB, 0, none⟩), .int .i64 (k : Int), .pointer (some ⟨Y.heap.size, 0, none⟩), .int .i64 x.1, .agg (boolRow 64 s), .pointer (some ⟨w.heap.size, 2, none⟩), .slice F.ca F.code.length F.ccap, .int .i64 F.code.length, .int .i64 (k : Int), .bool true, .int .i64 (k : Int), .pointer (some ⟨ib, io, none⟩), i.val, .int .i64 (k : Int), .pointer (some ⟨w.heap.size + 1, k, none⟩), .bool true, .bool true, .func (.func 53) #[] #[], .pointer (some ⟨Y.heap.size, 0, none⟩), .int .i64 i.op, .bool true, .bool true, F.val, .int .i64 (k : Int), .func (.func 54) #[] #[.pointer (some ⟨Y.heap.size + 1, 0, none⟩), .pointer (some ⟨Y.heap.size + 1 + 1, 0, none⟩)], .int .i64 x.1, u33, u34, u35, u36, u37, u38, u39], defers := [] }) ?assign ?body ?done ?stop
            case own =>
              rintro pre A B row h1 hgr hr
              have hA := h1.g.lt
              have hne : ∀ b, b < w1.heap.size → some b ≠ row := fun b hb e => by have := (hr b e.symm).1; omega
              refine ⟨h1.g.keep ((Below.refl _ A).grown hgr (by omega) (fun r e => by have := (hr r e).1; omega)) fun b hb => hgr.block b (by omega) (hne b (by omega)), h1.m.keep fun D hD => hgr.block D (h1.m.lt hD) (hne D (hDl D hD)), h1.bb, ?_⟩
              exact (hgr.block BB (Array.getElem?_eq_some_iff.mp h1.q).1 (hne BB hBl)).trans h1.q
            case assign =>
              intro l x Z K hK
              gi_wp2
              exact hK
            case body =>
              rintro l pre x Z h1 _
              obtain ⟨xn, hxn⟩ : ∃ xn : Nat, (xn : Int) = x.1 := ⟨x.1.toNat, by have := x.2.1; omega⟩
              have hx64 : xn < 64 := by have := x.2.2; omega
              have xO := ix_pl (w.heap.size + 1) xn hx64
              rw [hxn] at xO
              have cO := cell_ofF (k := xn) (v := .bool (puts (gPass F.fn lcl s k) (pre.map (·.1)) xn)) h1.g.s (boolRow_at hx64)
              have fO : Z.frozen? ⟨w.heap.size + 1, xn, none⟩ = false := frozen_of_row _ _ _ _ _ h1.g.s
              have hlV := h1.g.lt
              have hbb := h1.bb
              have nx : Hid (∀ W', W' = Z.setCell ⟨w.heap.size + 1, xn, none⟩ (.bool true) → KeepsFrom w1.heap.size Z W' ∧ KeepC w.heap.size (w.heap.size + 1) Z W' ∧ GI w W' F s (puts (gPass F.fn lcl s k) ((pre ++ [x]).map (·.1))) BB Es) := fun W' e => by
                have hk : ∀ b, b ≠ w.heap.size + 1 → W'.heap[b]? = Z.heap[b]? := fun b q => by rw [e]; exact Below.heap_setCell _ _ _ _ q
                have hb : Below w.heap.size Z W' := by rw [e]; exact (Below.refl _ Z).setCell (p := ⟨w.heap.size + 1, xn, none⟩) (by show w.heap.size ≤ w.heap.size + 1; omega) _
                refine ⟨by rw [e]; exact (KeepsOthers.setCell _ _ _).from _, ⟨hb, fun b cs t z hb' q => (hk b hb').trans q⟩, ⟨h1.g.b.trans hb, (hk _ (by omega)).trans h1.g.f, ?_, (hk _ (by omega)).trans h1.g.r⟩, h1.m.keep fun D hD => hk D fun q => ?_, h1.bb, (hk _ (by omega)).trans h1.q⟩
                · rw [e, setCell_eq_setRow Z (w.heap.size + 1) xn _ _ _ _ h1.g.s, boolRow_set, setRow_heap Z (w.heap.size + 1) _ _ _ _ h1.g.s, puts_more hxn]
                · have := (h1.m.at_ D hD).2
                  rw [q, h1.g.s] at this
                  cases this
              clear h1
              gi_wp2_with (refine inR_list rfl (by simp) (wpList_putb rfl 4 _ _ rfl ⟨w.heap.size + 1, xn, none⟩ rfl true rfl (by kernel_rfl) _ cO fO fun W' hW' => wpList_nil ?_); (have hfin := nx.out W' hW'); clear hW'; show wpListIn (Fence.wide.inRound l) _ _ _ _ _ _ _)
              exact hfin
            case done =>
              rintro D ys Z hD rfl h1 hK
              rw [subL_val] at h1
              have hm : Hid (GI w Z F s (gPass F.fn lcl s (k + 1)) BB (D :: Es)) := ⟨by rw [hN.out]; exact h1.g, h1.m.more (by omega) (fun q => by have := hDl D q; omega) hK, h1.bb, h1.q⟩
              clear h1 hK
              go_wp2
              refine ⟨⟨k + 1, D :: Es, _, _, _, _, _, _, _, _, _, _, _, _, _, _, _, _, _, _, _, _, _, _, _, _, _, _, _, by omega, hm, rfl⟩, ?_⟩
              simp [intOf]
              omega
            case stop =>
              rintro D c pre Z _ _ h _
              exact h.elim
      · have hke : k = F.code.length := by omega
        have hkI : ¬ ((k : Int) < F.code.length) := by omega
        obtain ⟨t, ht⟩ : ∃ t, Hid (t = gPass F.fn lcl s F.code.length) := ⟨_, rfl⟩
        have hi1 : Hid (GI w Y F s t BB Es) := by have := hi.out; rw [hke, ← ht.out] at this; exact this
        have hS := hi1.out.g.s
        have hQ := hi1.out.q
        have hR := hi1.out.g.r
        have eq1 := eqS_run t s
        obtain ⟨eb, heb⟩ : ∃ eb, Hid (((List.range 64).all fun k => t k == s k) = eb) := ⟨_, rfl⟩
        rw [heb.out] at eq1
        clear hi hke
        cases eb with
        | true =>
          have hsm := pl_same.mp heb.out
          clear heb
          go_wp2_with (first
            | (refine wpList_load_row rfl 65 _ rfl (w.heap.size + 1) rfl _ _ _ _ hS huP.out rfl (infoSt _) ?_)
            | (refine wpList_load_row rfl 65 _ rfl BB rfl _ _ _ _ hQ huP.out rfl (infoSt _) ?_)
            | (refine wpList_store_row rfl 65 _ _ rfl (w.heap.size + 1 + 1) (boolRow 64 t) rfl rfl _ _ hR (infoSt _) (by rw [boolRow_size, boolRow_size]) (boolRow_one _ _) ?_))
          have hlW := hi1.out.g.lt
          have hmE : Marks w.heap.size Es (Y.setRow (w.heap.size + 1 + 1) (boolRow 64 t)) := hi1.out.m.keep fun D hD => setRow_other _ _ _ _ fun q => by
            have := (hi1.out.m.at_ D hD).2
            rw [q, hR] at this
            cases this
          have hbE : Below w.heap.size w (Y.setRow (w.heap.size + 1 + 1) (boolRow 64 t)) := hi1.out.g.b.trans (below_row (by omega))
          refine leaves_marks (n₀ := w.heap.size) Es _ hmE fun W' hk => ?_
          refine ⟨_, results_pl Tryd.results49 _ _ (w.heap.size + 1 + 1) t rfl (hk.c _ _ _ _ (setRow_heap Y (w.heap.size + 1 + 1) _ _ _ _ hR)), t, rfl, ?_, hbE.trans hk.b⟩
          have hts : ∀ k, s₀ k = true → t k = true := fun k h => by rw [ht.out]; exact gPass_up _ _ _ _ k (hup.out k h)
          have htl : ∀ R, (∀ k, s₀ k = true → R k = true) → closedF F.fn lcl R → ∀ k, t k = true → R k = true := fun R h1 h2 k h3 => gPass_le hflH.out lcl (fun k q => hle.out R h1 h2 k q) h2 F.code.length (Nat.le_refl _) k (by rw [← ht.out]; exact h3)
          refine least_fix hflH.out lcl hts htl fun k hk => ?_
          have hcg : ∀ m, m ≤ 64 → ∀ j, j < 64 → gPass F.fn lcl t m j = gPass F.fn lcl s m j := gPass_congr hflH.out lcl hsm
          rw [show F.fn.code.length = F.code.length from rfl, hcg F.code.length (by omega) k hk, ← ht.out]
        | false =>
          have hd : ∃ k, k < 64 ∧ t k ≠ s k := by
            apply Classical.byContradiction
            intro q
            have : ((List.range 64).all fun k => t k == s k) = true := pl_same.mpr fun k hk => Classical.byContradiction fun h => q ⟨k, hk, h⟩
            rw [heb.out] at this
            cases this
          have hlt2 : Hid (missW (w.heap.size + 1) Y < missW (w.heap.size + 1) W) := by
            show _ < _
            rw [hms.out, missW_is hS]
            exact miss_lt (fun k h => by rw [ht.out]; exact gPass_up _ _ _ _ k h) 64 hd
          have hgo : Hid (GOL w Y F s₀ t Es) := ⟨hi1.out.g, hi1.out.m, fun k h => by rw [ht.out]; exact gPass_up _ _ _ _ k (hup.out k h), fun R h1 h2 k h3 => gPass_le hflH.out lcl (fun k q => hle.out R h1 h2 k q) h2 F.code.length (Nat.le_refl _) k (by rw [← ht.out]; exact h3)⟩
          clear heb hd
          go_wp2_with (first
            | (refine wpList_load_row rfl 65 _ rfl (w.heap.size + 1) rfl _ _ _ _ hS huP.out rfl (infoSt _) ?_)
            | (refine wpList_load_row rfl 65 _ rfl BB rfl _ _ _ _ hQ huP.out rfl (infoSt _) ?_))
          exact ⟨⟨t, Es, hgo, rfl⟩, hlt2.out⟩
end Go.Proofs.YtlcljdldhajkiaaDoor.pg
/- Does a place lie on a ring? -/
namespace Go.Proofs.YtlcljdldhajkiaaDoor.pg
open Go.ChangeShapes Go.WideShapes Go.ChangeAt Go.RowKit Go.Shelf
set_option linter.unusedVariables false
set_option linter.unusedSimpArgs false
set_option maxRecDepth 100000
/-- A place is local, and a local way leads back to it. -/
def RingP (f : Fn) (pc : Nat) (b : Bool) : Prop := prog.loc (insAt f.code pc).op = false ∧ b = false ∨ prog.loc (insAt f.code pc).op = true ∧ ∃ R, Least f lcl (bAll f (onePl pc) f.code.length) R ∧ b = R pc
set_option maxHeartbeats 4000000 in
theorem onRing_any (F : MFn) (pc : Nat) (w : World) (hF : F.lies w) (hPF : prog.Forms w) (hfl : FlowF F.fn) (hpc : pc < F.code.length) :
    Calls Tryd.prog 35 #[F.val, .int .i64 (pc : Int)] w fun e w' => ∃ b, e = .returned (.bool b) ∧ RingP F.fn pc b ∧ Below w.heap.size w w' := by
  have hb := boxed w (objFn F)
  have hbH : Hid (Below w.heap.size w (w.alloc (objFn F))) := hb
  have hlF : Hid (F.lies (w.alloc (objFn F))) := hF.later hb
  have hl64 : pc < 64 := by (have := hfl.l64; have h : F.fn.code.length = F.code.length := rfl; omega)
  obtain ⟨m1, m2⟩ := insAt_mem (code := F.code) (pc := (pc : Int)) (by omega) (by omega)
  rw [Int.toNat_natCast] at m1
  obtain ⟨ib, io, hix, hib, i0, i1, i2, i3, i4⟩ := ins_ix hlF.out.1 pc _ m1
  have hio := (hlF.out.2.2.1 _ m2).1
  have k2 : (w.alloc (objFn F)).cell? ⟨w.heap.size, 2, none⟩ = some (.slice F.ca F.code.length F.ccap) := cell_lcQ (heap_alloc_new _ _) rfl
  have hFB : (w.alloc (objFn F)).heap[w.heap.size]? = some (objFn F) := heap_alloc_new _ _
  have cL : ∀ V, Below w.heap.size w V → Calls Tryd.prog 53 #[.int .i64 (insAt F.code pc).op] V _ := fun V hV => prog.local_any (insAt F.code pc).op hio.1 hio.2 V (hPF.later hV) (prog.loc (insAt F.code pc).op) rfl
  have hPH : Hid (prog.Forms w) := hPF
  clear hF hPF hb m1 m2 hib i1 i2 i3 i4 hio
  obtain ⟨lb, hlb⟩ : ∃ lb, Hid (prog.loc (insAt F.code pc).op = lb) := ⟨_, rfl⟩
  simp only [hlb.out] at cL
  go_enter Tryd.func35, Tryd.ntmps35
  go_upto_region 1 with fail
  generalize w.alloc (objFn F) = V at *
  have hH : Below V.heap.size V V.drew := bey_drew V
  refine wp_region_held_drew (S := fun w' => Below V.heap.size V w') (by kernel_rfl) hH (fun _ => ?_)
  refine reg_move (i := 0) rfl (by kernel_rfl) (by kernel_rfl) (by kernel_rfl) (fun _ _ _ _ h => h) rfl (.pointer (some ⟨w.heap.size, 2, none⟩)) (fun _ => by kernel_rfl) hH ?_
  simp only [Act.put, List.getElem_toArray, List.getElem_cons_succ, List.getElem_cons_zero, List.setIfInBounds_toArray, List.set_cons_zero, List.set_cons_succ]
  refine reg_load1 (i := 1) rfl (by kernel_rfl) (by kernel_rfl) (by kernel_rfl) (fun _ _ _ _ h => h) rfl 59 _ rfl ⟨w.heap.size, 2, none⟩ rfl _ Tryd.underlying59 rfl (.slice F.ca F.code.length F.ccap) (fun w' h' => cell_later h' k2) hH ?_
  simp only [Act.put, List.getElem_toArray, List.getElem_cons_succ, List.getElem_cons_zero, List.setIfInBounds_toArray, List.set_cons_zero, List.set_cons_succ]
  refine reg_move (i := 2) rfl (by kernel_rfl) (by kernel_rfl) (by kernel_rfl) (fun _ _ _ _ h => h) rfl (.int .i64 (pc : Int)) (fun _ => by kernel_rfl) hH ?_
  simp only [Act.put, List.getElem_toArray, List.getElem_cons_succ, List.getElem_cons_zero, List.setIfInBounds_toArray, List.set_cons_zero, List.set_cons_succ]
  refine reg_move (i := 3) rfl (by kernel_rfl) (by kernel_rfl) (by kernel_rfl) (fun _ _ _ _ h => h) rfl (.pointer (some ⟨ib, io, none⟩)) (fun wx => by unfold execOp; exact run_valueF (hix wx)) hH ?_
  simp only [Act.put, List.getElem_toArray, List.getElem_cons_succ, List.getElem_cons_zero, List.setIfInBounds_toArray, List.set_cons_zero, List.set_cons_succ]
  refine reg_move (i := 4) rfl (by kernel_rfl) (by kernel_rfl) (by kernel_rfl) (fun _ _ _ _ h => h) rfl (.pointer (some ⟨ib, io, none⟩)) (fun _ => by kernel_rfl) hH ?_
  simp only [Act.put, List.getElem_toArray, List.getElem_cons_succ, List.getElem_cons_zero, List.setIfInBounds_toArray, List.set_cons_zero, List.set_cons_succ]
  refine reg_load1 (i := 5) rfl (by kernel_rfl) (by kernel_rfl) (by kernel_rfl) (fun _ _ _ _ h => h) rfl 68 _ rfl ⟨ib, io, none⟩ rfl _ Tryd.underlying68 rfl (.int .i64 (insAt F.code pc).op) (fun w' h' => cell_later h' i0) hH ?_
  simp only [Act.put, List.getElem_toArray, List.getElem_cons_succ, List.getElem_cons_zero, List.setIfInBounds_toArray, List.set_cons_zero, List.set_cons_succ]
  refine reg_call1 (i := 6) (by kernel_rfl) rfl rfl 53 _ _ rfl (.int .i64 (insAt F.code pc).op) rfl (cf_fn Tryd.func53 (by kernel_rfl) (by kernel_rfl) _ _) _ (cL V.drew (bthen hbH.out hH)) ?_
  rintro e2 w2 ⟨rfl, hw2⟩
  replace hw2 := hw2.symm
  subst hw2
  refine ⟨_, rfl, hH, fun _ => ?_⟩
  simp only [Act.put, List.getElem_toArray, List.getElem_cons_succ, List.getElem_cons_zero, List.setIfInBounds_toArray, List.set_cons_zero, List.set_cons_succ]
  cases lb with
  | false =>
    refine reg_move (i := 7) rfl (by kernel_rfl) (by kernel_rfl) (by kernel_rfl) (fun _ _ _ _ h => h) rfl (.bool false) (fun _ => by kernel_rfl) hH ?_
    simp only [Act.put, List.getElem_toArray, List.getElem_cons_succ, List.getElem_cons_zero, List.setIfInBounds_toArray, List.set_cons_zero, List.set_cons_succ]
    refine reg_skipQ (i := 8) rfl (by kernel_rfl) (by kernel_rfl) (by kernel_rfl) (fun _ _ _ _ h => h) rfl hH ?_
    simp only [Act.put, List.getElem_toArray, List.getElem_cons_succ, List.getElem_cons_zero, List.setIfInBounds_toArray, List.set_cons_zero, List.set_cons_succ]
    refine reg_skipQ (i := 9) rfl (by kernel_rfl) (by kernel_rfl) (by kernel_rfl) (fun _ _ _ _ h => h) rfl hH ?_
    simp only [Act.put, List.getElem_toArray, List.getElem_cons_succ, List.getElem_cons_zero, List.setIfInBounds_toArray, List.set_cons_zero, List.set_cons_succ]
    refine reg_skipQ (i := 10) rfl (by kernel_rfl) (by kernel_rfl) (by kernel_rfl) (fun _ _ _ _ h => h) rfl hH ?_
    simp only [Act.put, List.getElem_toArray, List.getElem_cons_succ, List.getElem_cons_zero, List.setIfInBounds_toArray, List.set_cons_zero, List.set_cons_succ]
    refine reg_skipQ (i := 11) rfl (by kernel_rfl) (by kernel_rfl) (by kernel_rfl) (fun _ _ _ _ h => h) rfl hH ?_
    simp only [Act.put, List.getElem_toArray, List.getElem_cons_succ, List.getElem_cons_zero, List.setIfInBounds_toArray, List.set_cons_zero, List.set_cons_succ]
    refine reg_skipQ (i := 12) rfl (by kernel_rfl) (by kernel_rfl) (by kernel_rfl) (fun _ _ _ _ h => h) rfl hH ?_
    simp only [Act.put, List.getElem_toArray, List.getElem_cons_succ, List.getElem_cons_zero, List.setIfInBounds_toArray, List.set_cons_zero, List.set_cons_succ]
    refine reg_skipQ (i := 13) rfl (by kernel_rfl) (by kernel_rfl) (by kernel_rfl) (fun _ _ _ _ h => h) rfl hH ?_
    simp only [Act.put, List.getElem_toArray, List.getElem_cons_succ, List.getElem_cons_zero, List.setIfInBounds_toArray, List.set_cons_zero, List.set_cons_succ]
    refine reg_skipQ (i := 14) rfl (by kernel_rfl) (by kernel_rfl) (by kernel_rfl) (fun _ _ _ _ h => h) rfl hH ?_
    simp only [Act.put, List.getElem_toArray, List.getElem_cons_succ, List.getElem_cons_zero, List.setIfInBounds_toArray, List.set_cons_zero, List.set_cons_succ]
    refine reg_skipQ (i := 15) rfl (by kernel_rfl) (by kernel_rfl) (by kernel_rfl) (fun _ _ _ _ h => h) rfl hH ?_
    simp only [Act.put, List.getElem_toArray, List.getElem_cons_succ, List.getElem_cons_zero, List.setIfInBounds_toArray, List.set_cons_zero, List.set_cons_succ]
    refine reg_move (i := 16) rfl (by kernel_rfl) (by kernel_rfl) (by kernel_rfl) (fun _ _ _ _ h => h) rfl (.bool false) (fun _ => by kernel_rfl) hH ?_
    simp only [Act.put, List.getElem_toArray, List.getElem_cons_succ, List.getElem_cons_zero, List.setIfInBounds_toArray, List.set_cons_zero, List.set_cons_succ]
    refine reg_move (i := 17) rfl (by kernel_rfl) (by kernel_rfl) (by kernel_rfl) (fun _ _ _ _ h => h) rfl (.bool false) (fun _ => by kernel_rfl) hH ?_
    simp only [Act.put, List.getElem_toArray, List.getElem_cons_succ, List.getElem_cons_zero, List.setIfInBounds_toArray, List.set_cons_zero, List.set_cons_succ]
    refine wpAnyH_done (by kernel_rfl) ?_ _
    go_wp2
    go_ret
    exact ⟨false, rfl, .inl ⟨hlb.out, rfl⟩, bthen hbH.out (bey_drew V)⟩
  | true =>
    have hrF : ∀ w', Below V.heap.size V w' → w'.rangeAt w.heap.size 0 ([.int .i64 F.params, .int .i64 F.regs, .slice F.ca F.code.length F.ccap, .slice F.sa F.sels.length F.scap] : List Value) := fun w' h' => rng_blkQ (blk_onQ hFB h')
    refine reg_move (i := 7) rfl (by kernel_rfl) (by kernel_rfl) (by kernel_rfl) (fun _ _ _ _ h => h) rfl (.bool true) (fun _ => by kernel_rfl) hH ?_
    simp only [Act.put, List.getElem_toArray, List.getElem_cons_succ, List.getElem_cons_zero, List.setIfInBounds_toArray, List.set_cons_zero, List.set_cons_succ]
    refine reg_load (i := 8) rfl (by kernel_rfl) (by kernel_rfl) (by kernel_rfl) (fun _ _ _ _ h => h) rfl 62 _ rfl w.heap.size 0 rfl [.int .i64 F.params, .int .i64 F.regs, .slice F.ca F.code.length F.ccap, .slice F.sa F.sels.length F.scap] _ hrF Tryd.underlying62 rfl (by kernel_rfl) hH ?_
    simp only [Act.put, List.getElem_toArray, List.getElem_cons_succ, List.getElem_cons_zero, List.setIfInBounds_toArray, List.set_cons_zero, List.set_cons_succ]
    refine reg_load (i := 9) rfl (by kernel_rfl) (by kernel_rfl) (by kernel_rfl) (fun _ _ _ _ h => h) rfl 62 _ rfl w.heap.size 0 rfl [.int .i64 F.params, .int .i64 F.regs, .slice F.ca F.code.length F.ccap, .slice F.sa F.sels.length F.scap] _ hrF Tryd.underlying62 rfl (by kernel_rfl) hH ?_
    simp only [Act.put, List.getElem_toArray, List.getElem_cons_succ, List.getElem_cons_zero, List.setIfInBounds_toArray, List.set_cons_zero, List.set_cons_succ]
    refine reg_move (i := 10) rfl (by kernel_rfl) (by kernel_rfl) (by kernel_rfl) (fun _ _ _ _ h => h) rfl (.int .i64 (pc : Int)) (fun _ => by kernel_rfl) hH ?_
    simp only [Act.put, List.getElem_toArray, List.getElem_cons_succ, List.getElem_cons_zero, List.setIfInBounds_toArray, List.set_cons_zero, List.set_cons_succ]
    refine reg_move (i := 14) rfl (by kernel_rfl) (by kernel_rfl) (by kernel_rfl) (fun _ _ _ _ h => h) rfl (.int .i64 (pc : Int)) (fun _ => by kernel_rfl) hH ?_
    simp only [Act.put, List.getElem_toArray, List.getElem_cons_succ, List.getElem_cons_zero, List.setIfInBounds_toArray, List.set_cons_zero, List.set_cons_succ]
    refine reg_call1 (i := 11) (by kernel_rfl) rfl rfl 46 _ _ rfl (.int .i64 (pc : Int)) rfl (cf_fn Tryd.func46 (by kernel_rfl) (by kernel_rfl) _ _) _ (just_any pc hl64 _) ?_
    rintro e3 w3 ⟨rfl, hb3⟩
    have hH3 : Below V.heap.size V w3 := bthen hH hb3
    refine ⟨_, rfl, hH3, fun _ => ?_⟩
    simp only [Act.put, List.getElem_toArray, List.getElem_cons_succ, List.getElem_cons_zero, List.setIfInBounds_toArray, List.set_cons_zero, List.set_cons_succ]
    refine reg_call2 (i := 12) (by kernel_rfl) rfl rfl 45 _ _ _ _ rfl F.val (.agg (boolRow 64 (onePl pc))) rfl rfl (cf_fn Tryd.func45 (by kernel_rfl) (by kernel_rfl) _ _) _ (behindAll_any F (onePl pc) w3 (hlF.out.later hH3) hfl) ?_
    rintro e4 w4 ⟨rfl, hb4⟩
    have hH4 : Below V.heap.size V w4 := bthen hH3 hb4
    refine ⟨_, rfl, hH4, fun _ => ?_⟩
    simp only [Act.put, List.getElem_toArray, List.getElem_cons_succ, List.getElem_cons_zero, List.setIfInBounds_toArray, List.set_cons_zero, List.set_cons_succ]
    refine reg_call3F (i := 13) (by kernel_rfl) rfl rfl 49 _ _ _ _ _ _ rfl F.val (.agg (boolRow 64 (bAll F.fn (onePl pc) F.code.length))) (.func (.func 53) #[] #[]) rfl rfl rfl (cf_fnF Tryd.func49 (by kernel_rfl) (by kernel_rfl) _ _) _ (grownL_any F (bAll F.fn (onePl pc) F.code.length) w4 (hlF.out.later hH4) (hPH.out.later (bthen hbH.out hH4)) hfl) ?_
    rintro e5 w5 ⟨R, rfl, hR, hb5⟩
    have hH5 : Below V.heap.size V w5 := bthen hH4 hb5
    refine ⟨_, rfl, hH5, fun _ => ?_⟩
    simp only [Act.put, List.getElem_toArray, List.getElem_cons_succ, List.getElem_cons_zero, List.setIfInBounds_toArray, List.set_cons_zero, List.set_cons_succ]
    refine reg_move (i := 15) rfl (by kernel_rfl) (by kernel_rfl) (by kernel_rfl) (fun _ _ _ _ h => h) rfl (.bool (R pc)) (fun wx => by unfold execOp; exact run_valueF (ix_val R pc hl64 wx)) hH5 ?_
    simp only [Act.put, List.getElem_toArray, List.getElem_cons_succ, List.getElem_cons_zero, List.setIfInBounds_toArray, List.set_cons_zero, List.set_cons_succ]
    refine reg_move (i := 16) rfl (by kernel_rfl) (by kernel_rfl) (by kernel_rfl) (fun _ _ _ _ h => h) rfl (.bool (R pc)) (fun _ => by kernel_rfl) hH5 ?_
    simp only [Act.put, List.getElem_toArray, List.getElem_cons_succ, List.getElem_cons_zero, List.setIfInBounds_toArray, List.set_cons_zero, List.set_cons_succ]
    refine reg_move (i := 17) rfl (by kernel_rfl) (by kernel_rfl) (by kernel_rfl) (fun _ _ _ _ h => h) rfl (.bool (R pc)) (fun _ => by kernel_rfl) hH5 ?_
    simp only [Act.put, List.getElem_toArray, List.getElem_cons_succ, List.getElem_cons_zero, List.setIfInBounds_toArray, List.set_cons_zero, List.set_cons_succ]
    refine wpAnyH_done (by kernel_rfl) ?_ _
    have hE : Hid (Below w.heap.size w w5 ∧ Least F.fn lcl (bAll F.fn (onePl pc) F.code.length) R) := ⟨bthen hbH.out hH5, hR⟩
    clear hrF hH hH3 hH4 hH5 hb3 hb4 hb5 hR
    go_wp2
    go_ret
    exact ⟨R pc, rfl, .inr ⟨hlb.out, R, hE.out.2, rfl⟩, hE.out.1⟩
end Go.Proofs.YtlcljdldhajkiaaDoor.pg
/- The places that lie on rings: package flow's Spins. -/
namespace Go.Proofs.YtlcljdldhajkiaaDoor.pg
open Go.ChangeShapes Go.WideShapes Go.ChangeAt Go.RowKit Go.Shelf
set_option linter.unusedVariables false
set_option linter.unusedSimpArgs false
set_option maxRecDepth 100000
structure SnS (w W : World) (F : MFn) (FB SB : Nat) (s : Nat → Bool) (c : Nat) : Prop where
  b : Below w.heap.size w W
  h : W.heap[FB]? = some (objFn F)
  m : W.heap[SB]? = some (objPl s)
  ne : FB ≠ SB
  l1 : w.heap.size ≤ FB
  l2 : w.heap.size ≤ SB
  r : ∀ k, k < c → RingP F.fn k (s k)
  z : ∀ k, c ≤ k → s k = false
theorem SnS.later {w W W' : World} {F : MFn} {FB SB c : Nat} {s : Nat → Bool} (h : SnS w W F FB SB s c) (hb : Below W.heap.size W W') : SnS w W' F FB SB s c := ⟨bthen h.b hb, blk_onQ h.h hb, blk_onQ h.m hb, h.ne, h.l1, h.l2, h.r, h.z⟩
theorem SnS.put {w W : World} {F : MFn} {FB SB c : Nat} {s : Nat → Bool} {v : Bool} (h : SnS w W F FB SB s c) (hv : RingP F.fn c v) : SnS w (W.setCell ⟨SB, c, none⟩ (.bool v)) F FB SB (fun b => if b = c then v else s b) (c + 1) := by
  refine ⟨h.b.setCell (p := ⟨SB, c, none⟩) h.l2 _, (heap_setCell_other W ⟨SB, c, none⟩ FB _ h.ne).trans h.h, ?_, h.ne, h.l1, h.l2, fun k hk => ?_, fun k hk => ?_⟩
  · rw [heap_setCell_same W SB c _ _ _ h.m, boolRow_set]
  · show RingP F.fn k (if k = c then v else s k)
    by_cases e : k = c
    · rw [if_pos e, e]; exact hv
    · rw [if_neg e]; exact h.r k (by omega)
  · show (if k = c then v else s k) = false
    rw [if_neg (by omega)]; exact h.z k (by omega)
set_option maxHeartbeats 4000000 in
theorem fspins_ok (M : MPr) (f : Int) (w : World) (hM : M.lies w) (hPF : prog.Forms w) (F : MFn) (hFi : M.fns[f.toNat]? = some F) (hfl : FlowF F.fn) (f0 : 0 ≤ f) (hfit : fitF M.pr f = 0) :
    Calls Tryd.prog 13 #[M.val, .int .i64 f] w fun e w' => ∃ s va vc, e = .returned (.tuple #[.slice va (lst s 64).length vc, .int .i64 0]) ∧ (∀ k, k < F.code.length → RingP F.fn k (s k)) ∧ (∀ k, F.code.length ≤ k → s k = false) ∧ Rows w' 1 va vc ((lst s 64).map chCells) ∧ Below w.heap.size w w' := by
  have hb := boxed w (objP M)
  have bP := boxP_new w M
  have bPH : Hid (BoxP (w.alloc (objP M)) w.heap.size M) := bP
  have hbH : Hid (Below w.heap.size w (w.alloc (objP M))) := hb
  have hMH : Hid (M.lies w) := hM
  have hPH : Hid (prog.Forms w) := hPF
  have hFm := List.mem_of_getElem? hFi
  have huF : Hid (Tryd.prog.underlying 62 = _) := Tryd.underlying62
  have huP : Hid (Tryd.prog.underlying 65 = _) := Tryd.underlying65
  have hl64 : (F.code.length : Int) ≤ 64 := by (have := hfl.l64; have h : F.fn.code.length = F.code.length := rfl; omega)
  have xC := fcheckFunc_any M f _ (hM.later hb) (hPF.later hb) 0 hfit.symm
  have cG : Hid (∀ V, Below w.heap.size w V → ∀ k : Nat, k < F.code.length → Calls Tryd.prog 35 #[F.val, .int .i64 (k : Int)] V _) := fun V hV k hk => onRing_any F k V ((hMH.out.2.2.2.2.2.2 F hFm).later hV) (hPH.out.later hV) hfl hk
  clear hM hPF hb hfit hfl hFm
  go_enter Tryd.func13, Tryd.ntmps13
  go_upto_region 4 with (first
    | (go_at_call 34; (with_reducible refine xC.mono ?_); rintro e w2 ⟨rfl, hb2⟩; (have h2 : Hid (Below w.heap.size w w2 ∧ BoxP w2 w.heap.size M) := ⟨bthen hbH.out hb2, bPH.out.later hb2⟩); clear bP hb2 xC; (have bP := h2.out.2); obtain ⟨p0, p1, p2, p3⟩ := bP))
  obtain ⟨fb, fo, fx, fl, q0, q1, q2, q3⟩ := fn_ix (hMH.out.later h2.out.1).2.2.1 f.toNat F hFi
  rw [show ((f.toNat : Nat) : Int) = f by omega] at fx
  have hrg : Hid (w2.rangeAt fb fo [.int .i64 F.params, .int .i64 F.regs, .slice F.ca F.code.length F.ccap, .slice F.sa F.sels.length F.scap]) := fun j v hj => by
    match j, hj with
    | 0, hj => cases hj; exact q0
    | 1, hj => cases hj; exact q1
    | 2, hj => cases hj; exact q2
    | 3, hj => cases hj; exact q3
  clear q0 q1 q2 q3 fl
  have hY : Hid (SnS w ((w2.alloc (objFn F)).alloc (objPl fun _ => false)) F w2.heap.size (w2.heap.size + 1) (fun _ => false) 0) := by
    obtain ⟨n1, n2⟩ := two_new w2 (objFn F) (objPl fun _ => false)
    exact ⟨bthen h2.out.1 (boxed2 _ _ _), n1, n2, by omega, h2.out.1.size, by have := h2.out.1.size; omega, fun k hk => absurd hk (Nat.not_lt_zero _), fun k _ => rfl⟩
  go_upto_region 6 with (first
    | ((with_reducible refine at_loadQ 62 _ rfl ?_); refine stopQ_out ?_; refine wpList_load_mid rfl 62 _ rfl fb fo rfl [.int .i64 F.params, .int .i64 F.regs, .slice F.ca F.code.length F.ccap, .slice F.sa F.sels.length F.scap] _ hrg.out huF.out rfl (by kernel_rfl) ?_)
    | ((with_reducible refine at_storeQ 62 _ _ rfl ?_); refine stopQ_out ?_; refine wpList_store_new rfl 62 _ _ rfl rfl _ #[.int .i64 F.params, .int .i64 F.regs, .slice F.ca F.code.length F.ccap, .slice F.sa F.sels.length F.scap] rfl (by kernel_rfl) rfl (by simp [Value.oneCell']) ?_)
    | ((with_reducible refine at_allocQ 65 rfl ?_); refine stopQ_out ?_; refine wpList_alloc_big rfl 65 rfl zeroSt ?_))
  try simp only [Act.put, List.getElem_toArray, List.getElem_cons_succ, List.getElem_cons_zero, List.setIfInBounds_toArray, List.set_cons_zero, List.set_cons_succ, World.size_alloc]
  clear p0 p1 p2 p3 hrg fx h2
  generalize (w2.alloc (objFn F)).alloc (objPl fun _ => false) = Y at *
  obtain ⟨SB, hSB⟩ : ∃ SB, w2.heap.size + 1 = SB := ⟨_, rfl⟩
  rw [hSB] at hY
  rw [hSB]
  clear hSB
  generalize w2.heap.size = FB at *
  have k2 : Y.cell? ⟨FB, 2, none⟩ = some (.slice F.ca F.code.length F.ccap) := cell_lcQ hY.out.h rfl
  go_wp2_with fail
  clear k2
  go_loopw [24] (fun u wr => ∃ c : Nat, c ≤ F.code.length ∧ u = .int .i64 (c : Int) ∧ Hid (∃ s, SnS w wr F FB SB s c)) (fun u _ => F.code.length - (intOf u).toNat)
  case atStart => exact ⟨0, Nat.zero_le _, rfl, _, hY.out⟩
  case round =>
    clear hY
    obtain ⟨c, hc, rfl, hs0⟩ := hrel
    obtain ⟨s, hs0⟩ := hs0.out
    have hs : Hid (SnS w wr F FB SB s c) := hs0
    clear hs0
    by_cases hlt : c < F.code.length
    · have hcI : (c : Int) < F.code.length := by omega
      have hc64 : c < 64 := by omega
      have l0 := cell_lcQ hs.out.h (k := 0) (v := .int .i64 F.params) rfl
      have l1 := cell_lcQ hs.out.h (k := 1) (v := .int .i64 F.regs) rfl
      have l2 := cell_lcQ hs.out.h (k := 2) (v := .slice F.ca F.code.length F.ccap) rfl
      have l3 := cell_lcQ hs.out.h (k := 3) (v := .slice F.sa F.sels.length F.scap) rfl
      have xG := cG.out wr hs.out.b c hlt
      have xI := ix_pl SB c hc64
      go_wp2_with (first
        | (go_at_call 35; (with_reducible refine xG.mono ?_); rintro e w3 ⟨v, rfl, hv, hb3⟩; clear l0 l1 l2 l3 xG; (have hs3 : Hid (SnS w w3 F FB SB s c) := hs.out.later hb3); (have hvH : Hid (RingP F.fn c v) := hv); (have cO : w3.cell? ⟨SB, c, none⟩ = some (.bool (s c)) := cell_lcQ hs3.out.m (boolRow_at hc64)); (have fO : w3.frozen? ⟨SB, c, none⟩ = false := frozen_of_row _ _ _ _ _ hs3.out.m); (have nx : Hid (∀ W', W' = w3.setCell ⟨SB, c, none⟩ (.bool v) → SnS w W' F FB SB (fun b => if b = c then v else s b) (c + 1)) := fun W' e => by (rw [e]; exact hs3.out.put hvH.out)); clear hv hb3 hs)
        | ((with_reducible refine at_storeQ 4 _ _ rfl ?_); refine stopQ_out ?_; refine wpList_putb rfl 4 _ _ rfl ⟨SB, c, none⟩ rfl v rfl (by kernel_rfl) _ cO fO ?_; intro W1 hW1; (have hn : Hid (SnS w W1 F FB SB (fun b => if b = c then v else s b) (c + 1)) := nx.out W1 hW1); clear hW1 cO fO))
      go_roundw
      case rel => exact ⟨c + 1, by omega, by go_num, _, hn.out⟩
      case measure => simp [intOf]; omega
    · have hce : c = F.code.length := by omega
      have hcI : ¬ (c : Int) < F.code.length := by omega
      have hS := hs.out.m
      have xL : ∀ V, Calls Tryd.prog 36 #[.agg (boolRow 64 s)] V _ := fun V => list_any s V
      go_wp2_with (first
        | ((with_reducible refine at_loadQ 65 _ rfl ?_); refine stopQ_out ?_; refine wpList_load_row rfl 65 _ rfl SB rfl _ _ _ _ hS huP.out rfl (infoSt _) ?_)
        | (go_at_call 36; (with_reducible refine (xL _).mono ?_); rintro e w4 ⟨va, vc, rfl, hL⟩; (have hLH : Hid (LsS wr (lst s 64) va vc w4) := hL); clear hL xL))
      have hB4 : Below w.heap.size w w4 := bthen hs.out.b hLH.out.be
      go_ret2
      exact ⟨s, va, vc, rfl, fun k hk => hs.out.r k (by omega), fun k hk => hs.out.z k (by omega), hLH.out.rows, hB4⟩
set_option maxHeartbeats 1000000 in
theorem fspins_err (M : MPr) (f : Int) (w : World) (hM : M.lies w) (hF : prog.Forms w) (e : Int) (he : Hid (e = fitF M.pr f)) (hne : e ≠ 0) :
    Calls Tryd.prog 13 #[M.val, .int .i64 f] w fun e' w' => e' = .returned (.tuple #[.slice none 0 0, .int .i64 e]) ∧ Below w.heap.size w w' := by
  have hb := boxed w (objP M)
  have bP := boxP_new w M
  have hcall := fcheckFunc_any M f _ (hM.later hb) (hF.later hb) e he
  have hbH : Hid (Below w.heap.size w (w.alloc (objP M))) := hb
  have d : (e != 0) = true := by simpa using hne
  clear hM hF he hb hne
  go_enter Tryd.func13, Tryd.ntmps13
  go_wp2_with (go_at_call 34; (with_reducible refine hcall.mono ?_); rintro e w2 ⟨rfl, hb2⟩)
  go_ret2
  exact ⟨rfl, bthen hbH.out hb2⟩
set_option maxHeartbeats 1000000 in
theorem fheads_err (M : MPr) (f : Int) (w : World) (hM : M.lies w) (hF : prog.Forms w) (e : Int) (he : Hid (e = fitF M.pr f)) (hne : e ≠ 0) :
    Calls Tryd.prog 14 #[M.val, .int .i64 f] w fun e' w' => e' = .returned (.tuple #[.slice none 0 0, .int .i64 e]) ∧ Below w.heap.size w w' := by
  have hb := boxed w (objP M)
  have bP := boxP_new w M
  have hcall := fcheckFunc_any M f _ (hM.later hb) (hF.later hb) e he
  have hbH : Hid (Below w.heap.size w (w.alloc (objP M))) := hb
  have d : (e != 0) = true := by simpa using hne
  clear hM hF he hb hne
  go_enter Tryd.func14, Tryd.ntmps14
  go_wp2_with (go_at_call 34; (with_reducible refine hcall.mono ?_); rintro e w2 ⟨rfl, hb2⟩)
  go_ret2
  exact ⟨rfl, bthen hbH.out hb2⟩
end Go.Proofs.YtlcljdldhajkiaaDoor.pg
