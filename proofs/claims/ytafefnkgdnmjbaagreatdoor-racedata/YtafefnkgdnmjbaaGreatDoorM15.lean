/- Package race's put: those pairs of an iterator that a function says yes to. -/
import Derived.Test.YtafefnkgdnmjbaaGreatDoorM14
import Derived.Test.YtafefnkgdnmjbaaGreatDoorM9
namespace Go.Proofs.YtafefnkgdnmjbaaGreatDoor.pg
open Go.ChangeShapes Go.WideShapes Go.ChangeAt Go.RowKit Go.Shelf
set_option linter.unusedVariables false
set_option linter.unusedSimpArgs false
set_option maxRecDepth 100000
attribute [local go_sem] Oper.semAt_some
attribute [local go_sem ↓] Go.wp_at_zero Go.wp_at_succ
abbrev fnV (f : Nat) (caps : Array Value) : Value := .func (.func f) #[] caps
/-- What was said yes to so far. -/
def flP (L : List (Nat × Nat)) (yes : Nat → Nat → Bool) (pre : List { i : Nat // i < L.length }) : List (List Value) := ((pre.map fun x => L.getD x.1 (0, 0)).filter fun p => yes p.1 p.2).map edg
theorem flP_more (L : List (Nat × Nat)) (yes : Nat → Nat → Bool) (pre : List { i : Nat // i < L.length }) (x : { i : Nat // i < L.length }) : flP L yes (pre ++ [x]) = flP L yes pre ++ (if yes (L.getD x.1 (0, 0)).1 (L.getD x.1 (0, 0)).2 = true then [edg (L.getD x.1 (0, 0))] else []) := by
  unfold flP
  rw [List.map_append, List.filter_append, List.map_append]
  congr 1
  rw [List.map_singleton]
  generalize L.getD x.1 (0, 0) = p
  cases h : yes p.1 p.2 <;> simp [List.filter, h]
theorem flP_len (L : List (Nat × Nat)) (yes : Nat → Nat → Bool) (pre : List { i : Nat // i < L.length }) : (flP L yes pre).length ≤ pre.length := by
  unfold flP
  rw [List.length_map]
  exact Nat.le_trans (List.length_filter_le _ _) (by rw [List.length_map]; exact Nat.le_refl _)
theorem flP_all (L : List (Nat × Nat)) (yes : Nat → Nat → Bool) : flP L yes (up L.length L.length) = (L.filter fun p => yes p.1 p.2).map edg := by
  unfold flP
  rw [up_map L (0, 0) L.length (Nat.le_refl _), List.take_length]
def PtI (w : World) (L : List (Nat × Nat)) (yes : Nat → Nat → Bool) (yv : Value) (pre : List { i : Nat // i < L.length }) (W : World) : Prop := ∃ da dc, PutS w W (w.heap.size + 2) (w.heap.size + 1) 23 71 2 da dc (flP L yes pre) ∧ W.heap[w.heap.size]? = some (.cells #[yv] 115)
def PtA (w : World) (iv yv : Value) (p : Nat × Nat) (a : Act) (W : World) : Prop := ∃ Bx, w.heap.size + 2 ≤ Bx ∧ W.heap[Bx]? = some (.cells #[.int .i64 (p.1 : Int), .int .i64 (p.2 : Int)] 71) ∧ a = { tmps := #[iv, yv, undef, .pointer (some ⟨w.heap.size, 0, none⟩), .slice none 0 0, .pointer (some ⟨w.heap.size + 1, 0, none⟩), .pointer (some ⟨Bx, 0, none⟩), iv, .agg #[.int .i64 (p.1 : Int), .int .i64 (p.2 : Int)], undef, undef, undef, undef, undef, undef, undef, undef, undef, undef, undef], defers := [] }
theorem own_nilR (w : World) (lo e k : Nat) : OwnL w lo e k none 0 [] := ⟨by simp, .inl ⟨rfl, rfl⟩⟩
theorem infoPrZ : (Tryz.prog.info? 71).map (fun i => (i.zero, i.size, i.bytes)) = some (some (.agg #[.int .i64 0, .int .i64 0]), 2, 16) := by kernel_rfl
theorem ix2 (B k : Nat) (hk : k < 2) : ∀ wx, (Instr.indexAt 71 (.pointer (some ⟨B, 0, none⟩)) (.int .i64 (k : Int))).run Tryz.prog wx = .ok (.pointer (some ⟨B, k, none⟩)) wx := fun wx => by
  have u := Tryz.underlying71
  have z := Tryz.sizeOf3
  match k, hk with
  | 0, _ => simp [Instr.indexAt, run_underlying u, asIntOf, go_sem, z]
  | 1, _ => simp [Instr.indexAt, run_underlying u, asIntOf, go_sem, z]
set_option maxHeartbeats 4000000 in
theorem put_any (gf yf : Nat) (lb caps : Array Value) (L : List (Nat × Nat)) (hL : L.length ≤ 65536) (yes : Nat → Nat → Bool) (w : World) (eg : ∀ args w, (callFunc gf args).run Tryz.prog w = .ok (.enter gf args) w) (ey : ∀ args w, (callFunc yf args).run Tryz.prog w = .ok (.enter yf args) w)
    (hseq : ∀ w1, Below w.heap.size w w1 → SeqStopsK Fence.wide 2 Tryz.prog gf lb (fun x : { i : Nat // i < L.length } => #[.agg (edg (L.getD x.1 (0, 0))).toArray]) (Below w.heap.size) (fun ys => ys = up L.length L.length) (fun _ => True) L.length w1)
    (hyes : ∀ p ∈ L, ∀ wx, Below w.heap.size w wx → Calls Tryz.prog yf (#[.int .i64 (p.1 : Int), .int .i64 (p.2 : Int)] ++ caps) wx fun e w' => e = .returned (.bool (yes p.1 p.2)) ∧ Below wx.heap.size wx w') :
    Calls Tryz.prog 61 #[fnV gf lb, fnV yf caps] w fun e w' => ∃ da dc, e = .returned (.slice da (L.filter fun p => yes p.1 p.2).length dc) ∧ OwnL w' (w.heap.size + 2) 71 2 da dc ((L.filter fun p => yes p.1 p.2).map edg) ∧ Below w.heap.size w w' := by
  obtain ⟨iv, hiv⟩ : ∃ iv : Value, iv = fnV gf lb := ⟨_, rfl⟩
  obtain ⟨yv, hyv⟩ : ∃ yv : Value, yv = fnV yf caps := ⟨_, rfl⟩
  refine (callsIn_wide (n := 3)).1 ?_
  refine callsIn_of_wp_marks Tryz.func61 rfl trivial ?_ rfl
  simp only [Tryz.ntmps61, List.size_toArray, List.length_cons, List.length_nil, Nat.reduceAdd, Nat.reduceSub, Array.replicate_succ, Array.replicate_zero, List.push_toArray, List.append_toArray, List.nil_append, List.cons_append]
  refine wpIn_wide.2 ?_
  go_wp2_with fail
  have z2 : ((w.alloc (.cells #[fnV yf caps] 115)).alloc (.cells #[.slice none 0 0] 23)).heap.size = w.heap.size + 2 := by rw [World.size_alloc, World.size_alloc]
  have p1 : ((w.alloc (.cells #[fnV yf caps] 115)).alloc (.cells #[.slice none 0 0] 23)).heap[w.heap.size]? = some (.cells #[fnV yf caps] 115) := (Below.heap_alloc _ _ _ (by simp [World.size_alloc])).trans (heap_alloc_new w _)
  have p2 : ((w.alloc (.cells #[fnV yf caps] 115)).alloc (.cells #[.slice none 0 0] 23)).heap[w.heap.size + 1]? = some (.cells #[.slice none 0 0] 23) := by
    have := heap_alloc_new (w.alloc (.cells #[fnV yf caps] 115)) (.cells #[.slice none 0 0] 23)
    rwa [World.size_alloc] at this
  have p3 : Below w.heap.size w ((w.alloc (.cells #[fnV yf caps] 115)).alloc (.cells #[.slice none 0 0] 23)) := bthen (boxed _ _) (boxed _ _)
  generalize (w.alloc (.cells #[fnV yf caps] 115)).alloc (.cells #[.slice none 0 0] 23) = w1 at *
  have s1 : PtI w L yes (fnV yf caps) [] w1 := ⟨none, 0, ⟨p2, own_nilR _ _ _ _, ⟨by omega, by omega⟩, by simp [blk], by omega, p3⟩, p1⟩
  refine (wpIn_wide (n := 3)).1 ?_
  refine wpIn_rangeFunc_ownH (n := 3) rfl (by omega) (gf := gf) (lb := lb) rfl trivial eg
    (hseq w1 p3) belowK_t (belowK_b (by omega)) (Below.refl _ _) (fun _ => rfl)
    (PtI w L yes (fnV yf caps)) (fun _ _ _ => False) ?own (fun _ _ _ _ _ hs _ _ => hs) s1 (fun x => PtA w (fnV gf lb) (fnV yf caps) (L.getD x.1 (0, 0))) ?ownA ?assign ?body ?done ?stop
  case own =>
    rintro pre A B row ⟨da, dc, hs, hy⟩ hgr hr
    refine ⟨da, dc, hs.own (by omega) hgr hr, ?_⟩
    rw [hgr.block _ (Array.getElem?_eq_some_iff.mp hy).1 fun e => ?_]
    · exact hy
    · obtain ⟨_, o, h4, h5⟩ := hr _ e.symm
      rw [hy] at h4; cases h4; cases h5
  case ownA =>
    rintro x a' _ A B row ⟨Bx, h1, h2, h3⟩ hgr hr
    refine ⟨Bx, h1, ?_, h3⟩
    rw [hgr.block Bx (Array.getElem?_eq_some_iff.mp h2).1 fun e => ?_]
    · exact h2
    · obtain ⟨_, o, h4, h5⟩ := hr Bx e.symm
      rw [h2] at h4; cases h4; cases h5
  case assign =>
    rintro l pre x W2 K ⟨da, dc, hs, hy⟩ hK
    have hz := hs.lt
    have hbb := boxed W2 (.cells #[.int .i64 ((L.getD x.1 (0, 0)).1 : Int), .int .i64 ((L.getD x.1 (0, 0)).2 : Int)] 71)
    have hn := heap_alloc_new W2 (.cells #[.int .i64 ((L.getD x.1 (0, 0)).1 : Int), .int .i64 ((L.getD x.1 (0, 0)).2 : Int)] 71)
    have hI : PtI w L yes (fnV yf caps) pre _ := ⟨da, dc, hs.later hbb, (hbb.block _ (by omega)).trans hy⟩
    have hkk : KeepsFrom w1.heap.size W2 _ := hs.round hbb.size fun b q _ _ => hbb.block b q
    have hkb := hbb.mono hs.b.size
    simp only [edg]
    gi_wp2
    exact hK _ _ hkk hkb hI ⟨W2.heap.size, by omega, hn, rfl⟩
  case body =>
    rintro l pre x a' W2 hlw _ ⟨da, dc, hs, hy⟩ ⟨Bx, hBx, hbx, rfl⟩ hlen
    have hm := flP_more L yes pre x
    have hle := flP_len L yes pre
    have hp := hyes (L.getD x.1 (0, 0)) (by rw [List.getD_eq_getElem?_getD, List.getElem?_eq_getElem x.2]; exact List.getElem_mem _) W2 hs.b
    have hE : edg (L.getD x.1 (0, 0)) = [.int .i64 ((L.getD x.1 (0, 0)).1 : Int), .int .i64 ((L.getD x.1 (0, 0)).2 : Int)] := rfl
    rw [hE] at hm
    obtain ⟨⟨pi, pj⟩, hpp⟩ : ∃ p, L.getD x.1 (0, 0) = p := ⟨_, rfl⟩
    rw [hpp] at hm hp hbx ⊢
    dsimp only at hm hp hbx
    have c0 := cell_of (k := 0) hbx rfl
    have c1 := cell_of (k := 1) hbx rfl
    have cy := cell_of (k := 0) hy rfl
    have i0 : ∀ wx, (Instr.indexAt 71 (.pointer (some ⟨Bx, 0, none⟩)) (.int .i64 0)).run Tryz.prog wx = .ok (.pointer (some ⟨Bx, 0, none⟩)) wx := ix2 Bx 0 (by omega)
    have i1 : ∀ wx, (Instr.indexAt 71 (.pointer (some ⟨Bx, 0, none⟩)) (.int .i64 1)).run Tryz.prog wx = .ok (.pointer (some ⟨Bx, 1, none⟩)) wx := ix2 Bx 1 (by omega)
    have hL2 : Hid ((flP L yes pre).length + 1 ≤ 65536) := by show _ ≤ _; omega
    obtain ⟨iE, hiE, hzE, hsE, hbE⟩ := info_q infoPrZ
    have hsH : Hid (PutS w W2 (w.heap.size + 2) (w.heap.size + 1) 23 71 2 da dc (flP L yes pre) ∧ W2.heap[w.heap.size]? = some (.cells #[fnV yf caps] 115) ∧ W2.heap[Bx]? = some (.cells #[.int .i64 (pi : Int), .int .i64 (pj : Int)] 71)) := ⟨hs, hy, hbx⟩
    have hmH : Hid _ := hm
    clear hs hy hbx hm hle hE hpp hlen hyes s1 p1 p2 p3 hseq hL
    cases hv : yes pi pj with
    | false =>
      rw [hv] at hp
      have hmf : Hid (flP L yes (pre ++ [x]) = flP L yes pre) := by
        have := hmH.out
        rw [hv] at this
        show _ = _
        simpa using this
      clear hmH hv
      gi_wp2_with (refine inR_call2 rfl yf (.tmp 9) _ _ _ caps rfl rfl (.int .i64 (pi : Int)) (.int .i64 (pj : Int)) rfl rfl ey _ hp ?_; rintro e w2 ⟨rfl, hb2⟩; refine ⟨_, rfl, ?_⟩)
      obtain ⟨hs, hy, hbx⟩ := hsH.out
      exact ⟨hs.round hb2.size fun b q _ _ => hb2.block b q, hb2.mono hs.b.size, da, dc, by rw [hmf.out]; exact hs.later hb2, (hb2.block _ (Array.getElem?_eq_some_iff.mp hy).1).trans hy⟩
    | true =>
      rw [hv] at hp
      have hmt : Hid (flP L yes (pre ++ [x]) = flP L yes pre ++ [[.int .i64 (pi : Int), .int .i64 (pj : Int)]]) := by
        have := hmH.out
        rw [hv] at this
        show _ = _
        simpa using this
      clear hmH hv c0 c1
      have c0 := cell_of (k := 0) hsH.out.2.2 rfl
      have c1 := cell_of (k := 1) hsH.out.2.2 rfl
      gi_wp2_with (first
        | (refine inR_call2 rfl yf (.tmp 9) _ _ _ caps rfl rfl (.int .i64 (pi : Int)) (.int .i64 (pj : Int)) rfl rfl ey _ hp ?_; rintro e w2 ⟨rfl, hb2⟩; refine ⟨_, rfl, ?_⟩; (have hs2 : Hid (PutS w w2 (w.heap.size + 2) (w.heap.size + 1) 23 71 2 da dc (flP L yes pre) ∧ Below W2.heap.size W2 w2) := ⟨hsH.out.1.later hb2, hb2⟩); (replace hbx := (hb2.block _ (Array.getElem?_eq_some_iff.mp hsH.out.2.2).1).trans hsH.out.2.2); (replace c0 := cell_of (k := 0) hbx rfl); (replace c1 := cell_of (k := 1) hbx rfl); (have cP := cell_of (k := 0) hs2.out.1.c rfl); clear hb2 hbx cy)
        | (refine inR_list rfl (by simp) (wpList_app1 (wr := w2) rfl (.tmp 15) (.tmp 17) 23 rfl (w.heap.size + 2) 71 iE _ 2 16 Tryz.underlying23 hiE hzE hsE hbE rfl (by decide) da dc (flP L yes pre) rfl hs2.out.1.o [.int .i64 (pi : Int), .int .i64 (pj : Int)] rfl rfl (by simp [Value.oneCell']) (by have := hL2.out; unfold maxLen; omega) (by have := hL2.out; omega) hs2.out.1.l.2 ?_); intro va' vc' w8 g8; (obtain ⟨r8, q1, q2, q3⟩ := hs2.out.1.add g8); (have hfin : Hid (∀ W', W' = w8.setCell ⟨w.heap.size + 1, 0, none⟩ (.slice va' ((flP L yes pre).length + 1) vc') → PutS w W' (w.heap.size + 2) (w.heap.size + 1) 23 71 2 va' vc' (flP L yes pre ++ [[.int .i64 (pi : Int), .int .i64 (pj : Int)]]) ∧ (∀ b, b < w2.heap.size → b ≠ w.heap.size + 1 → b ∉ blk da → W'.heap[b]? = w2.heap[b]?) ∧ Below w.heap.size w2 W') := fun W' e => by (subst e; exact ⟨q1, q2, q3⟩)); (have hr8 : Hid _ := r8); clear q1 q2 q3 g8 r8 cP c0 c1; refine wpList_nil ?_)
        | (refine inR_list rfl (by simp) (wpList_puts rfl 23 _ _ rfl ⟨w.heap.size + 1, 0, none⟩ rfl va' ((flP L yes pre).length + 1) vc' rfl (by kernel_rfl) _ (cell_of (k := 0) hr8.out rfl) (frozen_of_row _ _ _ _ _ hr8.out) fun W' hW' => wpList_nil ?_); (have hf2 := hfin.out W' hW'); clear hW'))
      obtain ⟨hs, hy, hbx⟩ := hsH.out
      obtain ⟨hs2, hb2⟩ := hs2.out
      obtain ⟨q1, q2, q3⟩ := hf2
      have hyl := (Array.getElem?_eq_some_iff.mp hy).1
      have k2 : ∀ b, b < W2.heap.size → b ≠ w.heap.size + 1 → b ∉ blk da → W'.heap[b]? = W2.heap[b]? := fun b e1 e2 e3 => (q2 b (by have := hb2.size; omega) e2 e3).trans (hb2.block b e1)
      refine ⟨hs.round (by have := hb2.size; have := q3.size; omega) k2, (hb2.mono hs.b.size).trans q3, va', vc', by rw [hmt.out]; exact q1, ?_⟩
      rw [k2 _ hyl (by omega) fun q => ?_]
      · exact hy
      · have := (blk_lt hs.o _ q).1
        omega
  case done =>
    rintro D ys W2 hD rfl ⟨da, dc, hs, hy⟩ hK
    have cP := cell_of (k := 0) hs.c rfl
    have hfin : Hid (flP L yes (up L.length L.length) = (L.filter fun p => yes p.1 p.2).map edg) := flP_all L yes
    have hsH : Hid (PutS w W2 (w.heap.size + 2) (w.heap.size + 1) 23 71 2 da dc (flP L yes (up L.length L.length))) := hs
    have hKH : Hid (W2.heap[D]? = some (.deferred (some []))) := hK
    clear hs hK hy
    go_wp2_with fail
    refine ⟨by simp, .inl ⟨_, _, rfl, run_takeDeferred hKH.out, ?_⟩⟩
    have hb6 : Below w.heap.size W2 (W2.putObj D (.deferred none)) := belowK_b (w := w) (Nat.le_refl _) W2 D _ _ (by omega) hKH.out rfl rfl
    refine ⟨_, results_tmp rfl _ _ _, da, dc, ?_, ?_, hsH.out.b.trans hb6⟩
    · rw [hfin.out, List.length_map]
      rfl
    · rw [← hfin.out]
      refine own_keep hsH.out.o fun g hg => World.putObj_heap_other fun e => ?_
      obtain ⟨o, h1, h2⟩ := own_cells hsH.out.o g hg
      rw [e, hKH.out] at h1
      cases h1; cases h2
  case stop =>
    rintro D cd pre W2 _ _ h _
    exact h.elim
end Go.Proofs.YtafefnkgdnmjbaaGreatDoor.pg
/- What package order's look tells of a trace, as plain data. -/
namespace Go.Proofs.YtafefnkgdnmjbaaGreatDoor.pg
open Go.ChangeShapes Go.WideShapes Go.ChangeAt Go.RowKit Go.Shelf
set_option linter.unusedVariables false
set_option linter.unusedSimpArgs false
set_option maxRecDepth 100000
def tk (x : Ck) (g : Nat) : Ck := x.put g (x.of g + 1)
/-- The clocks and the edges of the first events. -/
def rel (ev : Nat → Ev) : Nat → List Ck × List (Nat × Nat)
  | 0 => ([], [])
  | j + 1 => ((rel ev j).1 ++ [tk (told ev (fun i => (rel ev j).1.getD i zeroK) j (dn j j)).1 (ev j).go.toNat], (rel ev j).2 ++ (told ev (fun i => (rel ev j).1.getD i zeroK) j (dn j j)).2)
/-- The clock of a place, once it is told. -/
def ckf (ev : Nat → Ev) (j i : Nat) : Ck := (rel ev j).1.getD i zeroK
theorem rel_len (ev : Nat → Ev) : ∀ j, (rel ev j).1.length = j
  | 0 => rfl
  | j + 1 => by rw [rel, List.length_append, rel_len ev j, List.length_singleton]
theorem rel_edges (ev : Nat → Ev) : ∀ j, j ≤ 256 → (rel ev j).2.length ≤ 256 * j
  | 0, _ => Nat.le_refl _
  | j + 1, h => by
    have h1 := rel_edges ev j (by omega)
    have h2 := told_len ev (fun i => (rel ev j).1.getD i zeroK) j j (dn j j) (dn_len (Nat.le_refl _))
    rw [rel, List.length_append]
    omega
/-- All numbers of a clock lie between 0 and m. -/
def Ck.upto (x : Ck) (m : Int) : Prop := ∀ n ∈ x.list, 0 ≤ n ∧ n ≤ m
theorem Ck.upto_iff (x : Ck) (m : Int) : x.upto m ↔ (0 ≤ x.c0 ∧ x.c0 ≤ m) ∧ (0 ≤ x.c1 ∧ x.c1 ≤ m) ∧ (0 ≤ x.c2 ∧ x.c2 ≤ m) ∧ (0 ≤ x.c3 ∧ x.c3 ≤ m) ∧ (0 ≤ x.c4 ∧ x.c4 ≤ m) ∧ (0 ≤ x.c5 ∧ x.c5 ≤ m) := by
  unfold Ck.upto Ck.list
  simp
theorem Ck.upto_mono {x : Ck} {m k : Int} (h : x.upto m) (hk : m ≤ k) : x.upto k := fun n hn => ⟨(h n hn).1, Int.le_trans (h n hn).2 hk⟩
theorem upto_ok {x : Ck} {m : Int} (h : x.upto m) (hm : m ≤ 1073741824) : x.ok := fun n hn => ⟨(h n hn).1, Int.le_trans (h n hn).2 hm⟩
theorem zero_upto {m : Int} (h : 0 ≤ m) : zeroK.upto m := by rw [Ck.upto_iff]; simp [zeroK, h]
theorem join_upto {x y : Ck} {m : Int} (hx : x.upto m) (hy : y.upto m) : (x.join y).upto m := by
  rw [Ck.upto_iff] at hx hy ⊢
  have key : ∀ a b : Int, (0 ≤ a ∧ a ≤ m) → (0 ≤ b ∧ b ≤ m) → (0 ≤ max a b ∧ max a b ≤ m) := fun a b ha hb => by rw [Int.max_def]; split <;> omega
  exact ⟨key _ _ hx.1 hy.1, key _ _ hx.2.1 hy.2.1, key _ _ hx.2.2.1 hy.2.2.1, key _ _ hx.2.2.2.1 hy.2.2.2.1, key _ _ hx.2.2.2.2.1 hy.2.2.2.2.1, key _ _ hx.2.2.2.2.2 hy.2.2.2.2.2⟩
theorem of_mem {x : Ck} {g : Nat} (h : g < 6) : x.of g ∈ x.list ∧ x.list[g]? = some (x.of g) := by
  match g, h with
  | 0, _ => exact ⟨by simp [Ck.of, Ck.list], rfl⟩
  | 1, _ => exact ⟨by simp [Ck.of, Ck.list], rfl⟩
  | 2, _ => exact ⟨by simp [Ck.of, Ck.list], rfl⟩
  | 3, _ => exact ⟨by simp [Ck.of, Ck.list], rfl⟩
  | 4, _ => exact ⟨by simp [Ck.of, Ck.list], rfl⟩
  | 5, _ => exact ⟨by simp [Ck.of, Ck.list], rfl⟩
theorem tk_upto {x : Ck} {m : Int} {g : Nat} (hx : x.upto m) (hg : g < 6) : (tk x g).upto (m + 1) := by
  intro n hn
  have h0 := hx _ (of_mem (x := x) hg).1
  unfold tk at hn
  rw [put_list] at hn
  rcases List.mem_or_eq_of_mem_set hn with h | h
  · have := hx n h; omega
  · omega
theorem told_upto (ev : Nat → Ev) (cf : Nat → Ck) (j : Nat) (m : Int) (hm : 0 ≤ m) (hc : ∀ i, i < j → (cf i).upto m) : ∀ (n : Nat) (pre : List { i : Nat // i < j }), pre.length = n → (told ev cf j pre).1.upto m
  | 0, pre, h => by
    have : pre = [] := List.length_eq_zero_iff.mp h
    subst this
    exact zero_upto hm
  | n + 1, pre, h => by
    rcases List.eq_nil_or_concat pre with rfl | ⟨q, x, rfl⟩
    · simp at h
    · rw [List.concat_eq_append] at h ⊢
      rw [List.length_append, List.length_singleton] at h
      have h1 := told_upto ev cf j m hm hc n q (by omega)
      rw [told_more]
      unfold stp
      split
      · exact h1
      · exact join_upto h1 (hc x.1 x.2)
theorem rel_upto (ev : Nat → Ev) : ∀ (j : Nat), (∀ i, i < j → (ev i).go.toNat < 6) → ∀ x ∈ (rel ev j).1, x.upto j
  | 0, _, x, hx => by simp [rel] at hx
  | j + 1, h, x, hx => by
    have ih := rel_upto ev j fun i hi => h i (by omega)
    rw [rel, List.mem_append, List.mem_singleton] at hx
    rcases hx with hx | rfl
    · exact Ck.upto_mono (ih x hx) (by omega)
    · have := tk_upto (g := (ev j).go.toNat) (told_upto ev (fun i => (rel ev j).1.getD i zeroK) j j (by omega) (fun i hi => ?_) j (dn j j) (dn_len (Nat.le_refl _))) (h j (by omega))
      · exact Ck.upto_mono this (by omega)
      · have hl := rel_len ev j
        have : (rel ev j).1.getD i zeroK = (rel ev j).1[i]'(by omega) := by rw [List.getD_eq_getElem?_getD, List.getElem?_eq_getElem (by omega)]; rfl
        rw [this]
        exact ih _ (List.getElem_mem _)
theorem tick_is {x : Ck} {g : Nat} {m : Int} (hx : x.upto m) (hm : m < 1073741824) (hg : g < 6) : tickP x (g : Int) (tk x g) 0 :=
  .inr ⟨upto_ok hx (by omega), g, hg, rfl, x.of g, (of_mem hg).2, .inr ⟨by have := hx _ (of_mem (x := x) hg).1; omega, rfl, rfl⟩⟩
end Go.Proofs.YtafefnkgdnmjbaaGreatDoor.pg
/- Whether an event may stand in a trace, by the document's own. -/
namespace Go.Proofs.YtafefnkgdnmjbaaGreatDoor.pg
open Go.ChangeShapes Go.WideShapes Go.ChangeAt Go.RowKit
set_option linter.unusedVariables false
set_option linter.unusedSimpArgs false
set_option maxRecDepth 100000
attribute [local go_sem ↓] Go.wp_at_zero Go.wp_at_succ
theorem rright_no1 (x : Ev) (w : World) (hno : x.go < 0 ∨ 6 ≤ x.go ∨ x.n < 1 ∨ 6 < x.n) : Calls Tryz.prog 40 #[x.val] w fun e w' => e = .returned (.bool false) ∧ Below w.heap.size w w' := by
  by_cases h0 : x.go < 0
  · clear hno
    go_enter Tryz.func40, Tryz.ntmps40
    go_wp2
    go_ret
    exact ⟨rfl, boxed _ _⟩
  · by_cases h1 : 6 ≤ x.go
    · clear hno
      go_enter Tryz.func40, Tryz.ntmps40
      go_wp2
      go_ret
      exact ⟨rfl, boxed _ _⟩
    · by_cases h2 : x.n < 1
      · clear hno
        go_enter Tryz.func40, Tryz.ntmps40
        go_wp2
        go_ret
        exact ⟨rfl, boxed _ _⟩
      · have h3 : 6 < x.n := by omega
        clear hno
        go_enter Tryz.func40, Tryz.ntmps40
        go_wp2
        go_ret
        exact ⟨rfl, boxed _ _⟩
theorem ok_more2 {l : List Acc} {k N : Nat} (h : ∀ i, i < k → i < N → okA l i) (h2 : okA l k) : ∀ i, i < k + 1 → i < N → okA l i := fun i hi hn => by
  by_cases e : i = k
  · subst e; exact h2
  · exact h i (by omega) hn
theorem own_more {l : List Acc} {k N : Nat} {O : Bool} {g : Int} {a : Acc} (hk : k < N) (ha : l[k]? = some a) (h : O = true ↔ ∃ i, i < k ∧ i < N ∧ l[i]? = some ⟨5, g, true⟩) : (O || (a.kind == 5 && a.num == g) && a.wr) = true ↔ ∃ i, i < k + 1 ∧ i < N ∧ l[i]? = some ⟨5, g, true⟩ := by
  rw [Bool.or_eq_true, h]
  constructor
  · rintro (⟨i, h1, h2, h3⟩ | q)
    · exact ⟨i, by omega, h2, h3⟩
    · simp only [Bool.and_eq_true, beq_iff_eq] at q
      refine ⟨k, by omega, hk, ?_⟩
      rw [ha]
      obtain ⟨kk, nn, ww⟩ := a
      simp at q
      simp [q]
  · rintro ⟨i, h1, h2, h3⟩
    by_cases e : i = k
    · subst e
      rw [ha] at h3
      right
      cases h3
      simp
    · exact .inl ⟨i, by omega, h2, h3⟩
theorem own_stay {l : List Acc} {k N : Nat} {O : Bool} {g : Int} (hk : ¬ k < N) (h : O = true ↔ ∃ i, i < k ∧ i < N ∧ l[i]? = some ⟨5, g, true⟩) : O = true ↔ ∃ i, i < k + 1 ∧ i < N ∧ l[i]? = some ⟨5, g, true⟩ :=
  h.trans ⟨fun ⟨i, h1, h2, h3⟩ => ⟨i, by omega, h2, h3⟩, fun ⟨i, h1, h2, h3⟩ => ⟨i, by omega, h2, h3⟩⟩
theorem zero_more {l : List Acc} {k N : Nat} (h : ∀ i, N ≤ i → i < k → l[i]? = some acc0) (h2 : l[k]? = some acc0) : ∀ i, N ≤ i → i < k + 1 → l[i]? = some acc0 := fun i hi hk => by
  by_cases e : i = k
  · subst e; exact h2
  · exact h i hi (by omega)
set_option maxHeartbeats 2000000 in
theorem rright_yes1 (x : Ev) (w : World) (h0 : 0 ≤ x.go) (h1 : x.go < 6) (h2 : 1 ≤ x.n) (h3 : x.n ≤ 6) (R : Bool) (hR : Hid (R = true ↔ rightP x)) : Calls Tryz.prog 40 #[x.val] w fun e w' => e = .returned (.bool R) ∧ Below w.heap.size w w' := by
  obtain ⟨N, hN⟩ : ∃ N, N = tN x.n := ⟨_, rfl⟩
  have hNI : ((N : Nat) : Int) = x.n := by rw [hN]; exact tN_eq h2 h3
  have hb := boxed w (objE x)
  have bx := boxE_new w x
  have hll : x.list.length = 6 := rfl
  have hN1 : Hid (1 ≤ N ∧ N ≤ 6) := ⟨by omega, by omega⟩
  have hofl : Hid (x.of = x.list.take N) := by show _ = _; rw [hN]; rfl
  have hRH : Hid (R = true ↔ (∀ i, i < N → okA x.list i) ∧ (∀ i, N ≤ i → i < 6 → x.list[i]? = some acc0) ∧ ∃ i, i < 6 ∧ i < N ∧ x.list[i]? = some ⟨5, x.go, true⟩) := by
    show _ ↔ _
    rw [hR.out]
    unfold rightP
    rw [← hN, hofl.out]
    constructor
    · rintro ⟨_, p, q, r⟩
      refine ⟨p, fun i h4 h5 => ?_, ?_⟩
      · obtain ⟨a, ha, _⟩ := get_lt x.list i (by omega)
        rw [ha, q a]
        rw [List.mem_iff_getElem?]
        exact ⟨i - N, by rw [List.getElem?_drop, ← ha]; congr 1; omega⟩
      · obtain ⟨i, hi⟩ := List.mem_iff_getElem?.mp r
        rw [List.getElem?_take] at hi
        split at hi
        · rename_i h5
          exact ⟨i, by have := hN1.out.2; omega, h5, hi⟩
        · cases hi
    · rintro ⟨p, q, i, h4, h5, h6⟩
      refine ⟨⟨h0, h1, h2, h3⟩, p, fun a ha => ?_, ?_⟩
      · obtain ⟨j, hj⟩ := List.mem_iff_getElem?.mp ha
        rw [List.getElem?_drop] at hj
        have hjl := (List.getElem?_eq_some_iff.mp hj).1
        rw [q (N + j) (by omega) (by omega)] at hj
        exact (Option.some.inj hj).symm
      · rw [List.mem_iff_getElem?]
        exact ⟨i, by rw [List.getElem?_take, if_pos h5]; exact h6⟩
  clear hR hofl
  have hNIH : Hid (((N : Nat) : Int) = x.n) := hNI
  clear hN hNI
  have h0' : ¬ x.go < 0 := by omega
  have h2' : ¬ x.n < 1 := by omega
  have h1' : ¬ 6 ≤ x.go := by omega
  have h3' : ¬ 6 < x.n := by omega
  go_enter Tryz.func40, Tryz.ntmps40
  go_upto_region 3 with fail
  generalize w.alloc (objE x) = W at *
  have hbH : Hid (Below w.heap.size w W) := hb
  have bxH : Hid (BoxE W w.heap.size x) := bx
  clear hb bx
  have cM : ∀ m wx, Calls Tryz.prog 92 #[.int .i64 m] wx _ := fun m wx => few_any m wx
  go_wp2
  go_loopw [3, 4] (fun o u wr => ∃ (k : Nat) (O : Bool), k ≤ 6 ∧ u = .int .i64 k ∧ o = .bool O ∧ Below W.heap.size W wr ∧ Hid (∀ i, i < k → i < N → okA x.list i) ∧ Hid (∀ i, N ≤ i → i < k → x.list[i]? = some acc0) ∧ Hid (O = true ↔ ∃ i, i < k ∧ i < N ∧ x.list[i]? = some ⟨5, x.go, true⟩)) (fun _ u _ => 6 - (intOf u).toNat)
  case atStart => exact ⟨0, false, Nat.zero_le _, rfl, rfl, Below.refl _ _, fun i hi => by omega, fun i _ hi => by omega, (⟨(fun q => by cases q), fun ⟨i, hi, _⟩ => by omega⟩ : _ ↔ _)⟩
  case round =>
    obtain ⟨k, O, hk, rfl, rfl, hb2, hok, hzr, hO⟩ := hrel
    by_cases hk6 : k < 6
    · obtain ⟨a, ha, ham⟩ := get_lt x.list k (by omega)
      obtain ⟨hix, k0, k1, k2⟩ := ev_ix (bxH.out.later hb2) k a ha
      have c25 : (wr.alloc (objA a)).cell? ⟨w.heap.size, 25, none⟩ = some (.int .i64 x.n) := (bxH.out.later (bthen hb2 (boxed _ _))).at 25 _ rfl
      have hax : Hid (x.list[k]? = some a) := ha
      have hkI : (k : Int) < 6 := by omega
      by_cases hlt : k < N
      · have hltI : ¬ x.n ≤ (k : Int) := by have := hNIH.out; omega
        have hgood0 : Hid (k = 0 → 0 ≤ a.num → a.num < manyP a.kind → okA x.list k) := fun e p q a' ha' => by
          rw [hax.out] at ha'
          cases ha'
          exact ⟨⟨p, q⟩, fun h => by omega⟩
        have hgood1 : Hid (∀ b, x.list[k - 1]? = some b → 0 ≤ a.num → a.num < manyP a.kind → bef b a = true → okA x.list k) := fun b hb p q r a' ha' => by
          rw [hax.out] at ha'
          cases ha'
          exact ⟨⟨p, q⟩, fun h b' hb' => by rw [hb] at hb'; cases hb'; exact r⟩
        have hbad0 : Hid (¬ (0 ≤ a.num ∧ a.num < manyP a.kind) → ¬ okA x.list k) := fun q r => q (r a hax.out).1
        have hbad1 : Hid (∀ b, x.list[k - 1]? = some b → 0 < k → bef b a = false → ¬ okA x.list k) := fun b hb p q r => by
          have := (r a hax.out).2 p b hb
          rw [q] at this
          cases this
        go_wp2_with fail
        generalize hWW : wr.alloc (objA a) = W2 at *
        have hW2 : Hid (Below W.heap.size W W2) := by rw [← hWW]; exact bthen hb2 (boxed _ _)
        have bA : BoxA W2 wr.heap.size a := by rw [← hWW]; exact boxA_new wr a
        clear hWW k0 k1 k2 c25
        have d0 := bey_cell bA.1
        have d1 := bey_cell bA.2.1
        have d2 := bey_cell bA.2.2
        have hne := bey_some W2
        by_cases hA : a.num < 0
        · have hbad : Hid (¬ okA x.list k) := hbad0.out (by omega)
          refine wp_region_cls (Bey W2) (by kernel_rfl) (by kernel_rfl) (bey_drew W2) ?_
          repeat (go_big_quiet_step ((go_at_call 92; exact calls_same (cM _ _))))
          refine wpQuiet_nil ?_
          intro _ hw'
          obtain ⟨sq, hw''⟩ := hw'
          subst hw''
          have hBq : Hid (Below W.heap.size W sq.w) := bthen hW2.out sq.h
          have y0 := cell_later sq.h bA.1
          have y1 := cell_later sq.h bA.2.1
          have y2 := cell_later sq.h bA.2.2
          have z0 := (bxH.out.later hBq.out).at 0 _ rfl
          go_wp2
          go_ret
          exact ⟨ret_b (by rw [eq_comm, Bool.eq_false_iff]; exact fun q => hbad.out ((hRH.out.mp q).1 k hlt)), bthen hbH.out hBq.out⟩
        · by_cases hB : manyP a.kind ≤ a.num
          · have hbad : Hid (¬ okA x.list k) := hbad0.out (by omega)
            refine wp_region_cls (Bey W2) (by kernel_rfl) (by kernel_rfl) (bey_drew W2) ?_
            repeat (go_big_quiet_step ((go_at_call 92; exact calls_same (cM _ _))))
            refine wpQuiet_nil ?_
            intro _ hw'
            obtain ⟨sq, hw''⟩ := hw'
            subst hw''
            have hBq : Hid (Below W.heap.size W sq.w) := bthen hW2.out sq.h
            have y0 := cell_later sq.h bA.1
            have y1 := cell_later sq.h bA.2.1
            have y2 := cell_later sq.h bA.2.2
            have z0 := (bxH.out.later hBq.out).at 0 _ rfl
            go_wp2
            go_ret
            exact ⟨ret_b (by rw [eq_comm, Bool.eq_false_iff]; exact fun q => hbad.out ((hRH.out.mp q).1 k hlt)), bthen hbH.out hBq.out⟩
          · by_cases hp : 0 < k
            · have hpI : (0 : Int) < k := by omega
              obtain ⟨b, hb', _⟩ := get_lt x.list (k - 1) (by omega)
              have hbx : Hid (x.list[k - 1]? = some b) := hb'
              by_cases e1 : a.kind < b.kind
              · have hbad : Hid (¬ okA x.list k) := hbad1.out b hbx.out hp (by simp only [bef, decide_eq_false_iff_not]; omega)
                refine wp_region_cls (Bey W2) (by kernel_rfl) (by kernel_rfl) (bey_drew W2) ?_
                repeat (go_big_quiet_step ((go_at_call 92; exact calls_same (cM _ _))))
                refine wpQuiet_nil ?_
                intro _ hw'
                obtain ⟨sq, hw''⟩ := hw'
                subst hw''
                have hBq : Hid (Below W.heap.size W sq.w) := bthen hW2.out sq.h
                have y0 := cell_later sq.h bA.1
                have y1 := cell_later sq.h bA.2.1
                have y2 := cell_later sq.h bA.2.2
                have z0 := (bxH.out.later hBq.out).at 0 _ rfl
                obtain ⟨hix2, m0, m1, m2⟩ := ev_ix (bxH.out.later hBq.out) (k - 1) b hbx.out
                rw [show ((k - 1 : Nat) : Int) = (k : Int) - 1 by omega] at hix2
                have yy0 := cell_later (boxed sq.w (objA b)) y0
                have yy1 := cell_later (boxed sq.w (objA b)) y1
                have yy2 := cell_later (boxed sq.w (objA b)) y2
                have zz0 := cell_later (boxed sq.w (objA b)) z0
                clear y0 y1 y2 z0
                go_wp2
                go_ret
                exact ⟨ret_b (by rw [eq_comm, Bool.eq_false_iff]; exact fun q => hbad.out ((hRH.out.mp q).1 k hlt)), bthen hbH.out (bthen hBq.out (boxed _ _))⟩
              · by_cases e2 : b.kind = a.kind
                · have e2b : (b.kind == a.kind) = true := by simpa using e2
                  by_cases e3 : a.num ≤ b.num
                  · have hbad : Hid (¬ okA x.list k) := hbad1.out b hbx.out hp (by simp only [bef, decide_eq_false_iff_not]; omega)
                    clear e2
                    refine wp_region_cls (Bey W2) (by kernel_rfl) (by kernel_rfl) (bey_drew W2) ?_
                    repeat (go_big_quiet_step ((go_at_call 92; exact calls_same (cM _ _))))
                    refine wpQuiet_nil ?_
                    intro _ hw'
                    obtain ⟨sq, hw''⟩ := hw'
                    subst hw''
                    have hBq : Hid (Below W.heap.size W sq.w) := bthen hW2.out sq.h
                    have y0 := cell_later sq.h bA.1
                    have y1 := cell_later sq.h bA.2.1
                    have y2 := cell_later sq.h bA.2.2
                    have z0 := (bxH.out.later hBq.out).at 0 _ rfl
                    obtain ⟨hix2, m0, m1, m2⟩ := ev_ix (bxH.out.later hBq.out) (k - 1) b hbx.out
                    rw [show ((k - 1 : Nat) : Int) = (k : Int) - 1 by omega] at hix2
                    have yy0 := cell_later (boxed sq.w (objA b)) y0
                    have yy1 := cell_later (boxed sq.w (objA b)) y1
                    have yy2 := cell_later (boxed sq.w (objA b)) y2
                    have zz0 := cell_later (boxed sq.w (objA b)) z0
                    clear y0 y1 y2 z0
                    go_wp2
                    go_ret
                    exact ⟨ret_b (by rw [eq_comm, Bool.eq_false_iff]; exact fun q => hbad.out ((hRH.out.mp q).1 k hlt)), bthen hbH.out (bthen hBq.out (boxed _ _))⟩
                  · have hgood : Hid (okA x.list k) := hgood1.out b hbx.out (by omega) (by omega) (by simp only [bef, decide_eq_true_eq]; omega)
                    clear e2
                    refine wp_region_cls (Bey W2) (by kernel_rfl) (by kernel_rfl) (bey_drew W2) ?_
                    repeat (go_big_quiet_step ((go_at_call 92; exact calls_same (cM _ _))))
                    refine wpQuiet_nil ?_
                    intro _ hw'
                    obtain ⟨sq, hw''⟩ := hw'
                    subst hw''
                    have hBq : Hid (Below W.heap.size W sq.w) := bthen hW2.out sq.h
                    have y0 := cell_later sq.h bA.1
                    have y1 := cell_later sq.h bA.2.1
                    have y2 := cell_later sq.h bA.2.2
                    have z0 := (bxH.out.later hBq.out).at 0 _ rfl
                    obtain ⟨hix2, m0, m1, m2⟩ := ev_ix (bxH.out.later hBq.out) (k - 1) b hbx.out
                    rw [show ((k - 1 : Nat) : Int) = (k : Int) - 1 by omega] at hix2
                    have yy0 := cell_later (boxed sq.w (objA b)) y0
                    have yy1 := cell_later (boxed sq.w (objA b)) y1
                    have yy2 := cell_later (boxed sq.w (objA b)) y2
                    have zz0 := cell_later (boxed sq.w (objA b)) z0
                    clear y0 y1 y2 z0
                    have hown := own_more hlt hax.out hO.out
                    have hok2 : Hid (∀ i, i < k + 1 → i < N → okA x.list i) := ok_more2 hok.out hgood.out
                    have hzr2 : Hid (∀ i, N ≤ i → i < k + 1 → x.list[i]? = some acc0) := fun i h4 h5 => hzr.out i h4 (by omega)
                    have hownH : Hid ((O || (a.kind == 5 && a.num == x.go) && a.wr) = true ↔ ∃ i, i < k + 1 ∧ i < N ∧ x.list[i]? = some ⟨5, x.go, true⟩) := hown
                    clear hown
                    cases O
                    · by_cases q1 : (a.kind == 5) = true
                      · by_cases q2 : (a.num == x.go) = true
                        · have hq : Hid (a.wr = true ↔ ∃ i, i < k + 1 ∧ i < N ∧ x.list[i]? = some ⟨5, x.go, true⟩) := by have := hownH.out; rw [q1, q2] at this; exact this
                          go_wp2
                          go_roundw
                          case rel => exact ⟨k + 1, a.wr, by omega, by go_num, rfl, (bthen hBq.out (boxed _ _)), hok2, hzr2, hq⟩
                          case measure => simp [intOf]; omega
                        · have q2 : (a.num == x.go) = false := by simpa using q2
                          have hq : Hid (false = true ↔ ∃ i, i < k + 1 ∧ i < N ∧ x.list[i]? = some ⟨5, x.go, true⟩) := by have := hownH.out; rw [q1, q2] at this; exact this
                          go_wp2
                          go_roundw
                          case rel => exact ⟨k + 1, false, by omega, by go_num, rfl, (bthen hBq.out (boxed _ _)), hok2, hzr2, hq⟩
                          case measure => simp [intOf]; omega
                      · have q1 : (a.kind == 5) = false := by simpa using q1
                        have hq : Hid (false = true ↔ ∃ i, i < k + 1 ∧ i < N ∧ x.list[i]? = some ⟨5, x.go, true⟩) := by have := hownH.out; rw [q1] at this; exact this
                        go_wp2
                        go_roundw
                        case rel => exact ⟨k + 1, false, by omega, by go_num, rfl, (bthen hBq.out (boxed _ _)), hok2, hzr2, hq⟩
                        case measure => simp [intOf]; omega
                    · have hq : Hid (true = true ↔ ∃ i, i < k + 1 ∧ i < N ∧ x.list[i]? = some ⟨5, x.go, true⟩) := by have := hownH.out; rw [Bool.true_or] at this; exact this
                      go_wp2
                      go_roundw
                      case rel => exact ⟨k + 1, true, by omega, by go_num, rfl, (bthen hBq.out (boxed _ _)), hok2, hzr2, hq⟩
                      case measure => simp [intOf]; omega
                · have e2b : (b.kind == a.kind) = false := by simpa using e2
                  have hgood : Hid (okA x.list k) := hgood1.out b hbx.out (by omega) (by omega) (by simp only [bef, decide_eq_true_eq]; omega)
                  clear e2
                  refine wp_region_cls (Bey W2) (by kernel_rfl) (by kernel_rfl) (bey_drew W2) ?_
                  repeat (go_big_quiet_step ((go_at_call 92; exact calls_same (cM _ _))))
                  refine wpQuiet_nil ?_
                  intro _ hw'
                  obtain ⟨sq, hw''⟩ := hw'
                  subst hw''
                  have hBq : Hid (Below W.heap.size W sq.w) := bthen hW2.out sq.h
                  have y0 := cell_later sq.h bA.1
                  have y1 := cell_later sq.h bA.2.1
                  have y2 := cell_later sq.h bA.2.2
                  have z0 := (bxH.out.later hBq.out).at 0 _ rfl
                  obtain ⟨hix2, m0, m1, m2⟩ := ev_ix (bxH.out.later hBq.out) (k - 1) b hbx.out
                  rw [show ((k - 1 : Nat) : Int) = (k : Int) - 1 by omega] at hix2
                  have yy0 := cell_later (boxed sq.w (objA b)) y0
                  have yy1 := cell_later (boxed sq.w (objA b)) y1
                  have yy2 := cell_later (boxed sq.w (objA b)) y2
                  have zz0 := cell_later (boxed sq.w (objA b)) z0
                  clear y0 y1 y2 z0
                  have hown := own_more hlt hax.out hO.out
                  have hok2 : Hid (∀ i, i < k + 1 → i < N → okA x.list i) := ok_more2 hok.out hgood.out
                  have hzr2 : Hid (∀ i, N ≤ i → i < k + 1 → x.list[i]? = some acc0) := fun i h4 h5 => hzr.out i h4 (by omega)
                  have hownH : Hid ((O || (a.kind == 5 && a.num == x.go) && a.wr) = true ↔ ∃ i, i < k + 1 ∧ i < N ∧ x.list[i]? = some ⟨5, x.go, true⟩) := hown
                  clear hown
                  cases O
                  · by_cases q1 : (a.kind == 5) = true
                    · by_cases q2 : (a.num == x.go) = true
                      · have hq : Hid (a.wr = true ↔ ∃ i, i < k + 1 ∧ i < N ∧ x.list[i]? = some ⟨5, x.go, true⟩) := by have := hownH.out; rw [q1, q2] at this; exact this
                        go_wp2
                        go_roundw
                        case rel => exact ⟨k + 1, a.wr, by omega, by go_num, rfl, (bthen hBq.out (boxed _ _)), hok2, hzr2, hq⟩
                        case measure => simp [intOf]; omega
                      · have q2 : (a.num == x.go) = false := by simpa using q2
                        have hq : Hid (false = true ↔ ∃ i, i < k + 1 ∧ i < N ∧ x.list[i]? = some ⟨5, x.go, true⟩) := by have := hownH.out; rw [q1, q2] at this; exact this
                        go_wp2
                        go_roundw
                        case rel => exact ⟨k + 1, false, by omega, by go_num, rfl, (bthen hBq.out (boxed _ _)), hok2, hzr2, hq⟩
                        case measure => simp [intOf]; omega
                    · have q1 : (a.kind == 5) = false := by simpa using q1
                      have hq : Hid (false = true ↔ ∃ i, i < k + 1 ∧ i < N ∧ x.list[i]? = some ⟨5, x.go, true⟩) := by have := hownH.out; rw [q1] at this; exact this
                      go_wp2
                      go_roundw
                      case rel => exact ⟨k + 1, false, by omega, by go_num, rfl, (bthen hBq.out (boxed _ _)), hok2, hzr2, hq⟩
                      case measure => simp [intOf]; omega
                  · have hq : Hid (true = true ↔ ∃ i, i < k + 1 ∧ i < N ∧ x.list[i]? = some ⟨5, x.go, true⟩) := by have := hownH.out; rw [Bool.true_or] at this; exact this
                    go_wp2
                    go_roundw
                    case rel => exact ⟨k + 1, true, by omega, by go_num, rfl, (bthen hBq.out (boxed _ _)), hok2, hzr2, hq⟩
                    case measure => simp [intOf]; omega
            · have hpI : ¬ (0 : Int) < k := by omega
              have hgood : Hid (okA x.list k) := hgood0.out (by omega) (by omega) (by omega)
              refine wp_region_cls (Bey W2) (by kernel_rfl) (by kernel_rfl) (bey_drew W2) ?_
              repeat (go_big_quiet_step ((go_at_call 92; exact calls_same (cM _ _))))
              refine wpQuiet_nil ?_
              intro _ hw'
              obtain ⟨sq, hw''⟩ := hw'
              subst hw''
              have hBq : Hid (Below W.heap.size W sq.w) := bthen hW2.out sq.h
              have y0 := cell_later sq.h bA.1
              have y1 := cell_later sq.h bA.2.1
              have y2 := cell_later sq.h bA.2.2
              have z0 := (bxH.out.later hBq.out).at 0 _ rfl
              have hown := own_more hlt hax.out hO.out
              have hok2 : Hid (∀ i, i < k + 1 → i < N → okA x.list i) := ok_more2 hok.out hgood.out
              have hzr2 : Hid (∀ i, N ≤ i → i < k + 1 → x.list[i]? = some acc0) := fun i h4 h5 => hzr.out i h4 (by omega)
              have hownH : Hid ((O || (a.kind == 5 && a.num == x.go) && a.wr) = true ↔ ∃ i, i < k + 1 ∧ i < N ∧ x.list[i]? = some ⟨5, x.go, true⟩) := hown
              clear hown
              cases O
              · by_cases q1 : (a.kind == 5) = true
                · by_cases q2 : (a.num == x.go) = true
                  · have hq : Hid (a.wr = true ↔ ∃ i, i < k + 1 ∧ i < N ∧ x.list[i]? = some ⟨5, x.go, true⟩) := by have := hownH.out; rw [q1, q2] at this; exact this
                    go_wp2
                    go_roundw
                    case rel => exact ⟨k + 1, a.wr, by omega, by go_num, rfl, hBq.out, hok2, hzr2, hq⟩
                    case measure => simp [intOf]; omega
                  · have q2 : (a.num == x.go) = false := by simpa using q2
                    have hq : Hid (false = true ↔ ∃ i, i < k + 1 ∧ i < N ∧ x.list[i]? = some ⟨5, x.go, true⟩) := by have := hownH.out; rw [q1, q2] at this; exact this
                    go_wp2
                    go_roundw
                    case rel => exact ⟨k + 1, false, by omega, by go_num, rfl, hBq.out, hok2, hzr2, hq⟩
                    case measure => simp [intOf]; omega
                · have q1 : (a.kind == 5) = false := by simpa using q1
                  have hq : Hid (false = true ↔ ∃ i, i < k + 1 ∧ i < N ∧ x.list[i]? = some ⟨5, x.go, true⟩) := by have := hownH.out; rw [q1] at this; exact this
                  go_wp2
                  go_roundw
                  case rel => exact ⟨k + 1, false, by omega, by go_num, rfl, hBq.out, hok2, hzr2, hq⟩
                  case measure => simp [intOf]; omega
              · have hq : Hid (true = true ↔ ∃ i, i < k + 1 ∧ i < N ∧ x.list[i]? = some ⟨5, x.go, true⟩) := by have := hownH.out; rw [Bool.true_or] at this; exact this
                go_wp2
                go_roundw
                case rel => exact ⟨k + 1, true, by omega, by go_num, rfl, hBq.out, hok2, hzr2, hq⟩
                case measure => simp [intOf]; omega
      · have hltI : x.n ≤ (k : Int) := by have := hNIH.out; omega
        have heq := fun wx => run_neA a acc0 wx
        by_cases e : a = acc0
        · rw [(eqA_iff a acc0).mpr e] at heq
          have hz2 : Hid (∀ i, N ≤ i → i < k + 1 → x.list[i]? = some acc0) := zero_more hzr.out (by rw [hax.out, e])
          have hok2 : Hid (∀ i, i < k + 1 → i < N → okA x.list i) := fun i h4 h5 => hok.out i (by omega) h5
          clear e
          go_wp2
          go_roundw
          case rel => exact ⟨k + 1, O, by omega, by go_num, rfl, bthen hb2 (boxed _ _), hok2, hz2, own_stay hlt hO.out⟩
          case measure => simp [intOf]; omega
        · rw [Bool.eq_false_iff.mpr fun q => e ((eqA_iff a acc0).mp q)] at heq
          have hbad : Hid (¬ ∀ i, N ≤ i → i < 6 → x.list[i]? = some acc0) := fun q => e (by
            have := q k (by omega) hk6
            rw [hax.out] at this
            exact Option.some.inj this)
          clear e
          go_wp2
          go_ret
          exact ⟨ret_b (by rw [eq_comm, Bool.eq_false_iff]; exact fun q => hbad.out (hRH.out.mp q).2.1), bthen hbH.out (bthen hb2 (boxed _ _))⟩
    · have hk2 : k = 6 := by omega
      subst hk2
      go_wp2
      go_ret
      exact ⟨ret_b (by rw [Bool.eq_iff_iff, hRH.out, hO.out]; exact ⟨fun q => ⟨fun i hi => hok.out i (by have := hN1.out.2; omega) hi, hzr.out, q⟩, fun q => q.2.2⟩), bthen hbH.out hb2⟩
theorem rright_any (x : Ev) (w : World) (R : Bool) (hR : Hid (R = true ↔ rightP x)) : Calls Tryz.prog 40 #[x.val] w fun e w' => e = .returned (.bool R) ∧ Below w.heap.size w w' := by
  by_cases h : 0 ≤ x.go ∧ x.go < 6 ∧ 1 ≤ x.n ∧ x.n ≤ 6
  · exact rright_yes1 x w h.1 h.2.1 h.2.2.1 h.2.2.2 R hR
  · have : R = false := by
      rw [Bool.eq_false_iff]
      exact fun q => h (hR.out.mp q).1
    rw [this]
    exact rright_no1 x w (by omega)
end Go.Proofs.YtafefnkgdnmjbaaGreatDoor.pg
