/- Lists of truths: one place marked; the places that are marked. -/
import Derived.Test.YtlcljdldhajkiaaDoorM21
namespace Go.Proofs.YtlcljdldhajkiaaDoor.pg
open Go.ChangeShapes Go.WideShapes Go.ChangeAt Go.RowKit Go.Shelf
set_option linter.unusedVariables false
set_option linter.unusedSimpArgs false
set_option maxRecDepth 100000
theorem infoBl : (Tryd.prog.info? 4).map (fun i => (i.zero, i.size, i.bytes)) = some (some (.bool false), 1, 1) := by kernel_rfl
theorem ix_bl (A n cap : Nat) (j : Nat) (h : j < n) : ∀ wx, (Instr.indexAt 79 (.slice (some ⟨A, 0, none⟩) n cap) (.int .i64 (j : Int))).run Tryd.prog wx = .ok (.pointer (some ⟨A, j, none⟩)) wx := by
  intro wx
  have u := Tryd.underlying79
  have z := Tryd.sizeOf4
  have q1 : (j : Int) < n := by omega
  have q2 : ¬ (j : Int) < 0 := by omega
  simp [Instr.indexAt, run_underlying u, asIntOf, go_sem, z, q1, q2, h]
/-- A list of n truths, in a block of its own. -/
structure Bl (W : World) (lo B n cap : Nat) (f : Nat → Bool) : Prop where
  c : ∃ c, W.heap[B]? = some (.cells c 4 (0, 0)) ∧ ∀ j, j < n → c[j]? = some (.bool (f j))
  lo : lo ≤ B
  n : n ≤ cap ∧ cap ≤ 9223372036854775807
theorem Bl.lt {W : World} {lo B n cap : Nat} {f : Nat → Bool} (h : Bl W lo B n cap f) : B < W.heap.size := by
  obtain ⟨c, h1, _⟩ := h.c
  exact (Array.getElem?_eq_some_iff.mp h1).1
theorem Bl.keep {W W' : World} {lo B n cap : Nat} {f : Nat → Bool} (h : Bl W lo B n cap f) (hb : W'.heap[B]? = W.heap[B]?) : Bl W' lo B n cap f := ⟨by rw [hb]; exact h.c, h.lo, h.n⟩
theorem Bl.later {W W' : World} {lo B n cap : Nat} {f : Nat → Bool} (h : Bl W lo B n cap f) (hb : Below W.heap.size W W') : Bl W' lo B n cap f := h.keep (hb.block B h.lt)
theorem Bl.mono {W : World} {lo lo2 B n cap : Nat} {f : Nat → Bool} (h : Bl W lo B n cap f) (hl : lo2 ≤ lo) : Bl W lo2 B n cap f := ⟨h.c, Nat.le_trans hl h.lo, h.n⟩
theorem Bl.cell {W : World} {lo B n cap : Nat} {f : Nat → Bool} (h : Bl W lo B n cap f) {j : Nat} (hj : j < n) : W.cell? ⟨B, j, none⟩ = some (.bool (f j)) ∧ W.frozen? ⟨B, j, none⟩ = false := by
  obtain ⟨c, h1, h2⟩ := h.c
  exact ⟨cell_ofF h1 (h2 j hj), frozen_of_row _ _ j _ _ h1⟩
theorem Bl.set {W : World} {lo B n cap : Nat} {f : Nat → Bool} (h : Bl W lo B n cap f) {j : Nat} (hj : j < n) (v : Bool) : Bl (W.setCell ⟨B, j, none⟩ (.bool v)) lo B n cap (fun b => if b = j then v else f b) := by
  obtain ⟨c, h1, h2⟩ := h.c
  refine ⟨⟨c.setIfInBounds j (.bool v), ?_, fun q hq => ?_⟩, h.lo, h.n⟩
  · rw [setCell_eq_setRow _ B j _ _ _ _ h1, setRow_heap _ B _ _ _ _ h1]
  · rw [Array.getElem?_setIfInBounds]
    have hs := (Array.getElem?_eq_some_iff.mp (h2 j hj)).1
    by_cases e : j = q
    · subst e
      rw [if_pos rfl, if_pos hs, if_pos rfl]
    · rw [if_neg e, if_neg (Ne.symm e)]
      exact h2 q hq
theorem Bl.congr {W : World} {lo B n cap : Nat} {f g : Nat → Bool} (h : Bl W lo B n cap f) (he : ∀ j, j < n → f j = g j) : Bl W lo B n cap g := by
  obtain ⟨c, h1, h2⟩ := h.c
  exact ⟨⟨c, h1, fun j hj => by rw [h2 j hj, he j hj]⟩, h.lo, h.n⟩
def rowB (n : Nat) (f : Nat → Bool) : List (List Value) := (List.range n).map fun j => [Value.bool (f j)]
theorem rowB_at {n : Nat} {f : Nat → Bool} {j : Nat} (h : j < n) : (rowB n f)[j]? = some [.bool (f j)] := by simp [rowB, h]
theorem rowB_len (n : Nat) (f : Nat → Bool) : (rowB n f).length = n := by simp [rowB]
theorem rowB_one (n : Nat) (f : Nat → Bool) : ∀ row ∈ rowB n f, row.length = 1 := by intro r hr; simp only [rowB, List.mem_map] at hr; obtain ⟨x, _, rfl⟩ := hr; rfl
theorem rowB_u (n : Nat) (f : Nat → Bool) : ∀ row ∈ rowB n f, ∀ u ∈ row, u.oneCell' = true := by intro r hr; simp only [rowB, List.mem_map] at hr; obtain ⟨x, _, rfl⟩ := hr; intro u hu; simp at hu; subst hu; rfl
theorem Bl.rows {W : World} {lo B n cap : Nat} {f : Nat → Bool} (h : Bl W lo B n cap f) : Rows W 1 (some ⟨B, 0, none⟩) cap (rowB n f) := by
  refine ⟨by rw [rowB_len]; exact h.n.1, h.n.2, by simp, .inr ⟨B, 0, rfl, h.lt, fun i row hi => ?_⟩⟩
  have hi2 : i < n := by have := (List.getElem?_eq_some_iff.mp hi).1; rwa [rowB_len] at this
  rw [rowB_at hi2, Option.some.injEq] at hi
  subst hi
  refine ⟨rfl, fun j u hj => ?_⟩
  have hj0 : j = 0 := by have := (List.getElem?_eq_some_iff.mp hj).1; simp at this; exact this
  subst hj0
  simp only [List.getElem?_cons_zero, Option.some.injEq] at hj
  subst hj
  have := (h.cell hi2).1
  simpa using this
theorem bl_own {W : World} {lo n cap : Nat} {a : Option Addr} {f : Nat → Bool} (h : OwnL W lo 4 1 a cap (rowB n f)) (hn : 0 < n) : ∃ B, a = some ⟨B, 0, none⟩ ∧ Bl W lo B n cap f := by
  have hr := own_rows h (rowB_one n f)
  rcases h.2 with ⟨h1, h2⟩ | ⟨g, cap', cur, h1, hb, hg, hnc, hcm, hcs, htake⟩
  · simp only [Value.slice.injEq] at h1
    rw [rowB_len] at h1
    omega
  · simp only [Value.slice.injEq, true_and] at h1
    obtain ⟨rfl, rfl⟩ := h1
    have hl := hr.1
    rw [rowB_len] at hl
    refine ⟨g, rfl, ⟨cur, hg, fun j hj => ?_⟩, hb, hl, hr.2.1⟩
    obtain ⟨b, off, ha, hlt, hc⟩ := hr.row (rowB_at (f := f) hj)
    simp only [Option.some.injEq, Addr.mk.injEq, and_true] at ha
    obtain ⟨rfl, rfl⟩ := ha
    have h0 := hc 0 _ rfl
    simp [World.cell?, hg] at h0
    exact h0
theorem wpList_empty {P : Program} {ops : Array Oper} {rest : List Oper} {o : Oper} {a : Act} {w : World} {Q : Exit → Act → World → Prop} (hg : o.guard = none) (t e : TypeId) (ho : o.op = .buildSlice t 0 #[]) (ie : TypeInfo)
    (hu : P.underlying t = some (.slice e)) (hie : P.info? e = some ie)
    (h : wpList P ops Q rest (a.put o.dst (.slice (some ⟨w.heap.size, 0, none⟩) 0 0)) (w.alloc (.cells #[] e))) : wpList P ops Q (o :: rest) a w :=
  wpList_plain hg fun _ hK => by
    have hr : (Instr.buildSlice t 0 #[]).run P w = .ok (.slice (some ⟨w.heap.size, 0, none⟩) 0 0) (w.alloc (.cells #[] e)) := by
      simp [Instr.buildSlice, run_underlying hu, sizeOf, typeInfo, hie, newRow, Instr.fill, go_sem]
    unfold Oper.wp execOp
    simp only [ho, Sem.run_bind, Sem.run_pure, Result.andThen_ok, List.map_toArray, List.map_nil, Array.map_empty, hr]
    exact hK _ _ h
theorem own_empty (w : World) (lo e k : Nat) (hl : lo ≤ w.heap.size) : OwnL (w.alloc (.cells #[] e)) lo e k (some ⟨w.heap.size, 0, none⟩) 0 [] :=
  ⟨by simp, .inr ⟨w.heap.size, 0, #[], rfl, hl, heap_new_q w _, by simp, by unfold maxLen; omega, by simp, by simp⟩⟩
theorem bl_new {W : World} {lo B n : Nat} (h : W.heap[B]? = some (.cells (List.replicate n (Value.bool false)).toArray 4 (0, 0))) (hl : lo ≤ B) (hn : n ≤ 9223372036854775807) : Bl W lo B n n fun _ => false :=
  ⟨⟨_, h, fun j hj => by simp [hj]⟩, hl, Nat.le_refl _, hn⟩
set_option maxHeartbeats 1000000 in
theorem rfrom_any (M : MPr) (f : Int) (pc : Nat) (w : World) (hM : M.lies w) (F : MFn) (hFi : M.fns[f.toNat]? = some F) (hfl : FlowF F.fn) (f0 : 0 ≤ f) (hpc : pc < F.code.length) :
    Calls Tryd.prog 40 #[M.val, .int .i64 f, .int .i64 (pc : Int)] w fun e w' => ∃ B, e = .returned (.slice (some ⟨B, 0, none⟩) F.code.length F.code.length) ∧ Bl w' w.heap.size B F.code.length F.code.length (onePl pc) ∧ Below w.heap.size w w' := by
  obtain ⟨iB, hiB, hzB, hsB, hbB⟩ := info_q infoBl
  have hb := boxed w (objP M)
  have bP := boxP_new w M
  have hl64 : (F.code.length : Int) ≤ 64 := by have := hfl.l64; have h : F.fn.code.length = F.code.length := rfl; omega
  obtain ⟨fb, fo, hfix, hfb, fc0, fc1, fc2, fc3⟩ := fn_ix (hM.later hb).2.2.1 f.toNat F hFi
  rw [show ((f.toNat : Nat) : Int) = f by omega] at hfix
  have p3 := bP.2.2.2
  have hbH : Hid (Below w.heap.size w (w.alloc (objP M))) := hb
  clear bP hM hb fc0 fc1 fc3 hfb hFi
  have hpI : (pc : Int) < F.code.length := by omega
  generalize hn : F.code.length = n at *
  have xI := fun B => ix_bl B n n pc hpc
  go_enter Tryd.func40, Tryd.ntmps40
  go_wp2_with (first
    | (refine wpList_mk _ rfl _ _ 79 rfl 4 iB _ Tryd.underlying79 hiB hzB rfl hsB n rfl rfl (by rw [hbB]; omega) (by omega) ?_; intro w2 hn2 hb2 hs2; (rw [World.size_alloc] at hn2); (have hBl : Hid (Bl w2 w.heap.size (w.heap.size + 1) n n fun _ => false) := bl_new hn2 (by omega) (by omega)); (have hb2H : Hid (Below w.heap.size w w2) := bthen hbH.out hb2); (have cI : w2.cell? ⟨w.heap.size + 1, pc, none⟩ = some (.bool false) := (hBl.out.cell hpc).1); (have fI := (hBl.out.cell hpc).2); (have xJ := xI (w.heap.size + 1)); (try simp only [World.size_alloc]); clear hn2 hb2 hs2 xI p3 fc2 hfix))
  go_ret
  have h1 := hBl.out.set hpc true
  refine ⟨_, rfl, h1.congr fun j hj => ?_, ?_⟩
  · unfold onePl; by_cases c : j = pc <;> simp [c]
  · exact hb2H.out.setCell (p := ⟨w.heap.size + 1, pc, none⟩) (by show w.heap.size ≤ w.heap.size + 1; omega) _
set_option maxHeartbeats 1000000 in
theorem rplaces_any (n B cap lo : Nat) (f : Nat → Bool) (w : World) (hB : Bl w lo B n cap f) (hn : n ≤ 64) :
    Calls Tryd.prog 41 #[.slice (some ⟨B, 0, none⟩) n cap] w fun e w' => ∃ va vc, e = .returned (.slice va (lst f n).length vc) ∧ LsS w (lst f n) va vc w' := by
  obtain ⟨iN, hiN, hzN, hsN, hbN⟩ := info_q infoN_u
  have s0 : Hid (LsS w (lst f 0) none 0 w) := ⟨Below.refl _ _, own_nil_q _ _ _ _⟩
  have hnI : (n : Int) ≤ 64 := by omega
  have hBH : Hid (Bl w lo B n cap f) := hB
  clear hB
  go_enter Tryd.func41, Tryd.ntmps41
  go_wp2_with fail
  go_loopw [3, 4] (fun o u wr => ∃ (k : Nat) (va : Option Addr) (vc : Nat), k ≤ n ∧ u = .int .i64 (k : Int) ∧ o = .slice va (lst f k).length vc ∧ Hid (LsS w (lst f k) va vc wr)) (fun _ u _ => n - (intOf u).toNat)
  case atStart => exact ⟨0, none, 0, Nat.zero_le _, rfl, rfl, s0⟩
  case round =>
    clear s0
    obtain ⟨k, va, vc, hk, rfl, rfl, hs⟩ := hrel
    by_cases hlt : k < n
    · have hkI : (k : Int) < n := by omega
      have xI := ix_bl B n cap k hlt
      have cI := cell_later hs.out.be (hBH.out.cell hlt).1
      have hll := lst_len f k
      have hmore : Hid (lst f (k + 1) = lst f k ++ (if f k = true then [(k : Int)] else [])) := rfl
      obtain ⟨b, hb⟩ : ∃ b, f k = b := ⟨_, rfl⟩
      rw [hb] at cI
      cases b with
      | true =>
        have hN : Hid (lst f (k + 1) = lst f k ++ [(k : Int)]) := by show _ = _; rw [hmore.out, if_pos hb]
        clear hmore hb
        generalize lst f k = L at *
        go_wp2_with (first
          | (at_builtin; (refine wpList_app1 rfl (.tmp 15) (.tmp 17) 23 rfl w.heap.size 3 iN _ 1 8 Tryd.underlying23 hiN hzN hsN hbN rfl (by decide) va vc (L.map chCells) (by rw [List.length_map]; rfl) hs.out.ow (chCells (k : Int)) rfl rfl (one1u _) (by rw [List.length_map]; unfold maxLen; omega) (by rw [List.length_map]; omega) hs.out.be.size ?_); intro va' vc' w2 hg; rw [List.length_map]; (have hg2 : Hid (LsS w (L ++ [(k : Int)]) va' vc' w2) := hs.out.grown hg); clear hg))
        go_roundw
        case rel => exact ⟨k + 1, va', vc', by omega, by go_num, by rw [hN.out, List.length_append]; rfl, by rw [hN.out]; exact hg2⟩
        case measure => simp [intOf]; omega
      | false =>
        have hN : Hid (lst f (k + 1) = lst f k) := by show _ = _; rw [hmore.out, if_neg (by rw [hb]; exact Bool.false_ne_true), List.append_nil]
        clear hmore hb
        go_wp2
        go_roundw
        case rel => exact ⟨k + 1, va, vc, by omega, by go_num, by rw [hN.out], by rw [hN.out]; exact hs⟩
        case measure => simp [intOf]; omega
    · have hk2 : k = n := by omega
      subst hk2
      go_wp2
      go_ret
      exact ⟨va, vc, rfl, hs.out⟩
end Go.Proofs.YtlcljdldhajkiaaDoor.pg
/- The document's own marked: the least closed set above what is marked. -/
namespace Go.Proofs.YtlcljdldhajkiaaDoor.pg
open Go.ChangeShapes Go.WideShapes Go.ChangeAt Go.RowKit Go.Shelf
set_option linter.unusedVariables false
set_option linter.unusedSimpArgs false
set_option maxRecDepth 100000
def LL (loc : Bool) (op : Int) : Bool := !loc || prog.loc op
/-- Whether something has been marked anew. -/
def Td (n : Nat) (s c : Nat → Bool) (t : Bool) : Prop := (t = true → ∃ q, q < n ∧ s q = false ∧ c q = true) ∧ (t = false → ∀ q, q < n → c q = s q)
theorem puts_one_true {c : Nat → Bool} {x : Int} {k : Nat} (hx : (k : Int) = x) (h : c k = true) : puts c [x] = c := by
  funext b
  unfold puts
  by_cases e : b = k
  · subst e; rw [h]; rfl
  · have : decide ((b : Int) ∈ [x]) = false := by rw [decide_eq_false_iff_not, List.mem_singleton, ← hx]; omega
    rw [this, Bool.or_false]
theorem puts_one_set {c : Nat → Bool} {x : Int} {k : Nat} (hx : (k : Int) = x) : (fun b => if b = k then true else c b) = puts c [x] := by
  funext b
  unfold puts
  by_cases e : b = k
  · subst e; rw [if_pos rfl]; simp [hx]
  · rw [if_neg e]
    have : decide ((b : Int) ∈ [x]) = false := by rw [decide_eq_false_iff_not, List.mem_singleton, ← hx]; omega
    rw [this, Bool.or_false]
theorem Td.mark {n : Nat} {s c : Nat → Bool} {t : Bool} (hsc : ∀ q, s q = true → c q = true) {x : Int} {k : Nat} (hx : (k : Int) = x) (hk : k < n) (h : c k = false) : Td n s (puts c [x]) true := by
  refine ⟨fun _ => ⟨k, hk, ?_, ?_⟩, fun q => by cases q⟩
  · cases q : s k with
    | false => rfl
    | true => rw [hsc k q] at h; cases h
  · unfold puts; simp [hx]
theorem puts_same {c : Nat → Bool} {l m : List Int} (h : ∀ x, x ∈ l ↔ x ∈ m) : puts c l = puts c m := by
  funext b
  unfold puts
  congr 1
  rw [Bool.eq_iff_iff, decide_eq_true_eq, decide_eq_true_eq]
  exact h b
theorem puts_up {c : Nat → Bool} (l : List Int) {q : Nat} (h : c q = true) : puts c l q = true := by unfold puts; rw [h]; rfl
theorem gPass_out {f : Fn} (hf : FlowF f) (L : Int → Bool) {s : Nat → Bool} (hs : ∀ k, f.code.length ≤ k → s k = false) : ∀ m, m ≤ f.code.length → ∀ k, f.code.length ≤ k → gPass f L s m k = false
  | 0, _, k, hk => hs k hk
  | m + 1, hm, k, hk => by
    have ih := gPass_out hf L hs m (by omega) k hk
    rw [gPass]
    split
    · unfold puts
      rw [ih, Bool.false_or, decide_eq_false_iff_not]
      intro hx
      have := (hf.n m (by omega) _ hx).2
      omega
    · exact ih
def tN : Value → Nat
  | .bool true => 1
  | _ => 0
def missB (B n : Nat) (W : World) : Nat := match W.heap[B]? with
  | some (.cells cs _ _) => miss (fun k => cellT cs[k]?) n
  | _ => 0
theorem missB_is {W : World} {lo B n cap : Nat} {f : Nat → Bool} (h : Bl W lo B n cap f) : missB B n W = miss f n := by
  obtain ⟨c, h1, h2⟩ := h.c
  unfold missB
  rw [h1]
  refine miss_congr n fun k hk => ?_
  rw [h2 k hk]
  cases f k <;> rfl
/-- How all lies while places are marked. -/
structure MS (w W : World) (M : MPr) (B n cap : Nat) (c : Nat → Bool) : Prop where
  b : Below w.heap.size w W
  l : Bl W w.heap.size B n cap c
  p : W.heap[w.heap.size]? = some (objP M)
  ne : w.heap.size ≠ B
theorem MS.later {w W W' : World} {M : MPr} {B n cap : Nat} {c : Nat → Bool} (h : MS w W M B n cap c) (hb : Below W.heap.size W W') : MS w W' M B n cap c := ⟨bthen h.b hb, h.l.later hb, (hb.block _ (Array.getElem?_eq_some_iff.mp h.p).1).trans h.p, h.ne⟩
theorem MS.set {w W : World} {M : MPr} {B n cap : Nat} {c : Nat → Bool} (h : MS w W M B n cap c) {j : Nat} (hj : j < n) {x : Int} (hx : (j : Int) = x) : MS w (W.setCell ⟨B, j, none⟩ (.bool true)) M B n cap (puts c [x]) :=
  ⟨h.b.setCell (p := ⟨B, j, none⟩) h.l.lo _, by rw [← puts_one_set hx]; exact h.l.set hj true, (Below.heap_setCell _ _ _ _ h.ne).trans h.p, h.ne⟩
theorem MS.box {w W : World} {M : MPr} {B n cap : Nat} {c : Nat → Bool} (h : MS w W M B n cap c) : BoxP W w.heap.size M := ⟨cell_ofF h.p rfl, cell_ofF h.p rfl, cell_ofF h.p rfl, cell_ofF h.p rfl⟩
/-- A round of marking, as a whole. -/
structure MO (F : Fn) (L : Int → Bool) (s₀ s : Nat → Bool) (t : Bool) : Prop where
  up : ∀ k, s₀ k = true → s k = true
  le : ∀ R, (∀ k, s₀ k = true → R k = true) → closedF F L R → ∀ k, s k = true → R k = true
  out : ∀ k, F.code.length ≤ k → s k = false
  cl : t = false → closedF F L s
theorem MO.step {F : Fn} (hf : FlowF F) {L : Int → Bool} {s₀ s : Nat → Bool} {t t' : Bool} (h : MO F L s₀ s t) (ht : Td F.code.length s (gPass F L s F.code.length) t') : MO F L s₀ (gPass F L s F.code.length) t' := by
  have ho := gPass_out hf L h.out F.code.length (Nat.le_refl _)
  refine ⟨fun k hk => gPass_up F L s _ k (h.up k hk), fun R h1 h2 k hk => gPass_le hf L (h.le R h1 h2) h2 _ (Nat.le_refl _) k hk, ho, fun ht' => ?_⟩
  have e : gPass F L s F.code.length = s := by
    funext k
    by_cases c : k < F.code.length
    · exact ht.2 ht' k c
    · rw [ho k (by omega), h.out k (by omega)]
  rw [e]
  exact gPass_fix hf L fun k _ => by rw [e]
theorem nxt_small {f : Fn} (hf : FlowF f) (pc : Nat) (hpc : pc < f.code.length) : (putAll [] (nxt f pc)).length ≤ 63 := by
  refine putAll_len (nxt f pc) [] 5 ?_ (by simp) (by omega)
  unfold nxt nxtI
  split
  · simp
  · split
    · simp
    · split
      · rename_i h61
        have hr := hf.s pc hpc h61
        have hsm : selAt f (insAt f.code pc).a ∈ f.sels := by
          unfold selAt
          rw [List.getD_eq_getElem?_getD, List.getElem?_eq_getElem (by have := hr.1; have := hr.2; omega)]
          exact List.getElem_mem _
        have := hf.c _ hsm
        unfold selTo
        rw [List.length_append, List.length_map]
        split <;> simp <;> omega
      · split <;> simp
set_option maxHeartbeats 4000000 in
theorem rmarked_any (M : MPr) (f : Int) (w : World) (hM : M.lies w) (F : MFn) (hFi : M.fns[f.toNat]? = some F) (hfl : FlowF F.fn) (f0 : 0 ≤ f) (loc : Bool) (s₀ : Nat → Bool) (hs0 : ∀ k, F.code.length ≤ k → s₀ k = false) (lo B0 cap0 : Nat) (hB0 : Bl w lo B0 F.code.length cap0 s₀) :
    Calls Tryd.prog 39 #[M.val, .int .i64 f, .slice (some ⟨B0, 0, none⟩) F.code.length cap0, .bool loc] w fun e w' => ∃ B cap R, e = .returned (.slice (some ⟨B, 0, none⟩) F.code.length cap) ∧ Bl w' w.heap.size B F.code.length cap R ∧ Least F.fn (LL loc) s₀ R ∧ (∀ k, F.code.length ≤ k → R k = false) ∧ Below w.heap.size w w' := by
  obtain ⟨iB, hiB, hzB, hsB, hbB⟩ := info_q infoBl
  have hb := boxed w (objP M)
  have hb1 := boxed (w.alloc (objP M)) (.cells #[] 4)
  have hl1 : 1 ≤ F.code.length := hfl.l1
  have hl64 : F.code.length ≤ 64 := hfl.l64
  have hFm := List.mem_of_getElem? hFi
  have hMH : Hid (M.lies w) := hM
  have hflH : Hid (FlowF F.fn) := hfl
  have hFH : Hid (M.fns[f.toNat]? = some F) := hFi
  have hrow : Hid (Rows ((w.alloc (objP M)).alloc (.cells #[] 4)) 1 (some ⟨B0, 0, none⟩) cap0 (rowB F.code.length s₀)) := (hB0.rows.later hb).later hb1
  have hpn : Hid (((w.alloc (objP M)).alloc (.cells #[] 4)).heap[w.heap.size]? = some (objP M)) := (hb1.block _ (by rw [World.size_alloc]; omega)).trans (heap_alloc_new w _)
  have hown : Hid (OwnL ((w.alloc (objP M)).alloc (.cells #[] 4)) (w.heap.size + 1) 4 1 (some ⟨w.heap.size + 1, 0, none⟩) 0 []) := by
    have := own_empty (w.alloc (objP M)) (w.heap.size + 1) 4 1 (by rw [World.size_alloc]; omega)
    rw [World.size_alloc] at this
    exact this
  have hbb : Hid (Below w.heap.size w ((w.alloc (objP M)).alloc (.cells #[] 4))) := bthen hb hb1
  clear hM hfl hFi hb hb1 hB0
  have hrl : (rowB F.code.length s₀).length = F.code.length := rowB_len _ _
  generalize hn : F.code.length = n at *
  have hlen : (([] : List (List Value)) ++ rowB n s₀).length = n := by rw [List.nil_append, hrl]
  go_enter Tryd.func39, Tryd.ntmps39
  go_wp2_with (first
    | (refine wpList_empty rfl 79 4 rfl iB Tryd.underlying79 hiB ?_; (try simp only [World.size_alloc]))
    | (at_builtin; ((refine wpList_app rfl (.tmp 14) (.tmp 15) 79 rfl (w.heap.size + 1) 4 iB _ 1 1 Tryd.underlying79 hiB hzB hsB hbB rfl (by decide) (some ⟨w.heap.size + 1, 0, none⟩) 0 [] rfl hown.out (some ⟨B0, 0, none⟩) cap0 (rowB n s₀) (by rw [hrl]; rfl) hrow.out (rowB_one _ _) (rowB_u _ _) (by rw [hrl]; unfold maxLen; simp; omega) (by rw [hrl]; simp; omega) (by have := hbb.out.size; rw [World.size_alloc, World.size_alloc] at *; omega) ?_); intro va vc w2 hg1 hg2 hg3 hg4; rw [List.nil_append] at hg1; (rw [hlen]); obtain ⟨B, rfl, hBl⟩ := bl_own hg1 (by omega); (have hMS : Hid (MS w w2 M B n vc s₀) := ⟨hbb.out.trans (hg3.mono (by rw [World.size_alloc, World.size_alloc]; omega)), hBl.mono (by omega), (hg2 w.heap.size (by rw [World.size_alloc, World.size_alloc]; omega) (by simp [blk])).trans hpn.out, by have := hBl.lo; omega⟩); clear hg1 hg2 hg3 hg4 hBl hown hbb hrow hpn hrl)))
  have hO0 : Hid (MO F.fn (LL loc) s₀ s₀ true) := ⟨fun _ h => h, fun R h _ k hk => h k hk, fun k hk => hs0 k (by rw [← hn]; exact hk), fun q => by cases q⟩
  go_loopw [10] (fun t wr => ∃ (tb : Bool) (s : Nat → Bool), t = .bool tb ∧ Hid (MS w wr M B n vc s ∧ MO F.fn (LL loc) s₀ s tb)) (fun t W => 2 * missB B n W + tN t)
  case atStart => exact ⟨true, s₀, rfl, hMS.out, hO0.out⟩
  case round =>
    clear hMS hO0
    obtain ⟨tb, s, rfl, hr⟩ := hrel
    cases tb with
    | false =>
      go_wp2_with fail
      go_ret
      have h2 := hr.out.2
      exact ⟨B, vc, s, rfl, hr.out.1.l, ⟨h2.up, h2.cl rfl, h2.le⟩, fun k hk => h2.out k (by show F.code.length ≤ k; omega), hr.out.1.b⟩
    | true =>
      have hmz : Hid (missB B n wr = miss s n) := missB_is hr.out.1.l
      have hT0 : Hid (MS w wr M B n vc (gPass F.fn (LL loc) s 0) ∧ Td n s (gPass F.fn (LL loc) s 0) false) := ⟨hr.out.1, fun q => (by cases q), fun _ q _ => rfl⟩
      have hMO : Hid (MO F.fn (LL loc) s₀ s true) := hr.out.2
      clear hr
      go_wp2_with fail
      go_loopw [10, 11] (fun t u wr => ∃ (tb : Bool) (i : Nat), i ≤ n ∧ t = .bool tb ∧ u = .int .i64 (i : Int) ∧ Hid (MS w wr M B n vc (gPass F.fn (LL loc) s i) ∧ Td n s (gPass F.fn (LL loc) s i) tb)) (fun _ u _ => n - (intOf u).toNat)
      case atStart => exact ⟨false, 0, Nat.zero_le _, rfl, rfl, hT0⟩
      case round =>
        clear hT0
        obtain ⟨tb, i, hi, rfl, rfl, hq⟩ := hrel
        by_cases hlt : i < n
        · have hMw : M.lies wr := hMH.out.later hq.out.1.b
          have hlF : F.lies wr := hMw.2.2.2.2.2.2 F hFm
          obtain ⟨fb, fo, hfix, hfb, fc0, fc1, fc2, fc3⟩ := fn_ix hMw.2.2.1 f.toNat F hFH.out
          rw [show ((f.toNat : Nat) : Int) = f by omega] at hfix
          obtain ⟨m1, m2⟩ := insAt_mem (code := F.code) (pc := (i : Int)) (by omega) (by omega)
          rw [Int.toNat_natCast] at m1
          obtain ⟨ib, io, hix, hib, i0, i1, i2, i3, i4⟩ := ins_ix hlF.1 i _ m1
          have hio := (hlF.2.2.1 _ m2).1
          obtain ⟨b0, b1, b2, b3⟩ := hq.out.1.box
          have xI := ix_bl B n vc i hlt
          have cI := (hq.out.1.l.cell hlt).1
          have xN := rnext_any M f i wr hMw F hFH.out hflH.out f0 (by omega)
          have hst : Hid (gPass F.fn (LL loc) s (i + 1) = if gPass F.fn (LL loc) s i i = true ∧ LL loc (insAt F.code i).op = true then puts (gPass F.fn (LL loc) s i) (nxt F.fn i) else gPass F.fn (LL loc) s i) := rfl
          have hkI : (i : Int) < n := by omega
          have cL : ∀ wx, Calls Tryd.prog 59 #[.int .i64 (insAt F.code i).op] wx _ := fun wx => prog.reflocal_any (insAt F.code i).op hio.1 hio.2 wx _ rfl
          rw [hn] at fc2 hix
          clear hMw hlF hfb fc0 fc1 fc3 m1 m2 hib i1 i2 i3 i4 hio
          generalize hcg : gPass F.fn (LL loc) s i = c at *
          generalize (insAt F.code i).op = op at *
          obtain ⟨bi, hbi⟩ : ∃ bi, c i = bi := ⟨_, rfl⟩
          rw [hbi] at cI
          by_cases hgo : ¬ (c i = true ∧ LL loc op = true)
          · have hsk : Hid (gPass F.fn (LL loc) s (i + 1) = c) := by show _ = _; rw [hst.out, if_neg hgo]
            rw [hbi] at hgo
            clear hst xN hbi hcg
            cases bi with
            | false =>
              go_wp2_with fail
              go_roundw
              case rel => exact ⟨tb, i + 1, by omega, rfl, by go_num, by rw [hsk.out]; exact hq⟩
              case measure => simp [intOf]; omega
            | true =>
              have hll : LL loc op = false := by cases q : LL loc op with
                | false => rfl
                | true => exact absurd ⟨rfl, q⟩ hgo
              cases loc with
              | false => cases hll
              | true =>
                have hlo : prog.loc op = false := hll
                rw [hlo] at cL
                clear hgo hll hlo
                go_wp2_with (go_at_call 59; (with_reducible refine (cL _).mono ?_); rintro e w2 ⟨rfl, rfl⟩)
                go_roundw
                case rel => exact ⟨tb, i + 1, by omega, rfl, by go_num, by rw [hsk.out]; exact hq⟩
                case measure => simp [intOf]; omega
          · have hgo2 : c i = true ∧ LL loc op = true := Classical.not_not.mp hgo
            have hsk : Hid (gPass F.fn (LL loc) s (i + 1) = puts c (nxt F.fn i)) := by show _ = _; rw [hst.out, if_pos hgo2]
            have hbt : bi = true := by rw [← hbi]; exact hgo2.1
            subst hbt
            have hll := hgo2.2
            have hup : Hid (∀ q, s q = true → c q = true) := fun q hq' => by rw [← hcg]; exact gPass_up F.fn _ s i q hq'
            clear hgo hgo2 hst hbi hcg
            have hPm : Hid (∀ x ∈ putAll [] (nxt F.fn i), 0 ≤ x ∧ x < n) := fun x hx => by
              have h1 := hflH.out.n i (by show i < F.code.length; omega) x (((putAll_mem _ [] (by simp) x).mp hx).resolve_left (by simp))
              rw [show F.fn.code.length = n from hn] at h1
              exact h1
            have hPs : Hid (puts c (putAll [] (nxt F.fn i)) = puts c (nxt F.fn i)) := puts_same fun x => by rw [putAll_mem _ [] (by simp) x]; simp
            have hPl : (putAll [] (nxt F.fn i)).length ≤ 63 := nxt_small hflH.out i (by show i < F.code.length; omega)
            generalize putAll [] (nxt F.fn i) = L at *
            have hBlt : B < wr.heap.size := hq.out.1.l.lt
            have hW : (loc = true → prog.loc op = true) := fun e => by rw [e] at hll; exact hll
            cases loc with
            | false =>
              go_wp2_with (go_at_call 44; (with_reducible refine xN.mono ?_); rintro e w2 ⟨va2, vc2, rfl, hs2⟩)
              have hI0 : Hid (MS w w2 M B n vc (puts c (L.take 0)) ∧ Td n s (puts c (L.take 0)) tb ∧ OwnL w2 wr.heap.size 3 1 va2 vc2 (L.map chCells)) := by
                show _ ∧ _ ∧ _
                rw [List.take_zero, puts_nil]
                exact ⟨hq.out.1.later hs2.be, hq.out.2, hs2.ow⟩
              clear hq hs2 cI xI b0 b1 b2 b3 fc2 hix hfix i0 cL xN
              generalize wr.heap.size = lo2 at *
              go_loopw [10, 13] (fun t u wr => ∃ (tb : Bool) (k : Nat), k ≤ L.length ∧ t = .bool tb ∧ u = .int .i64 (k : Int) ∧ Hid (MS w wr M B n vc (puts c (L.take k)) ∧ Td n s (puts c (L.take k)) tb ∧ OwnL wr lo2 3 1 va2 vc2 (L.map chCells))) (fun _ u _ => L.length - (intOf u).toNat)
              case atStart => exact ⟨tb, 0, Nat.zero_le _, rfl, rfl, hI0⟩
              case round =>
                clear hI0
                obtain ⟨tb, k, hk, rfl, rfl, hj⟩ := hrel
                by_cases hkl : k < L.length
                · obtain ⟨x, hx, hxm⟩ := get_lt L k hkl
                  obtain ⟨x0, xn1⟩ := hPm.out x hxm
                  obtain ⟨xn, rfl⟩ : ∃ xn : Nat, x = (xn : Int) := ⟨x.toNat, by omega⟩
                  have hxn : xn < n := by omega
                  obtain ⟨lb, lo1, hix1, hlb1, c1⟩ := ch_ix (own_rows hj.out.2.2 (len1u _)) k _ hx
                  have hkI2 : (k : Int) < L.length := by omega
                  have xI := ix_bl B n vc xn hxn
                  have cI := (hj.out.1.l.cell hxn).1
                  have fI := (hj.out.1.l.cell hxn).2
                  have hmore : Hid (puts c (L.take (k + 1)) = puts (puts c (L.take k)) [(xn : Int)]) := by show _ = _; rw [← take_more hx, ← puts_app]
                  have hupk : Hid (∀ q, s q = true → puts c (L.take k) q = true) := fun q h => puts_up _ (hup.out q h)
                  clear hx hxm
                  generalize puts c (L.take k) = d at *
                  obtain ⟨bx, hbx⟩ : ∃ bx, d xn = bx := ⟨_, rfl⟩
                  rw [hbx] at cI
                  cases bx with
                  | true =>
                    have hj2 : Hid (MS w wr M B n vc (puts c (L.take (k + 1))) ∧ Td n s (puts c (L.take (k + 1))) tb ∧ OwnL wr lo2 3 1 va2 vc2 (L.map chCells)) := by
                      show _ ∧ _ ∧ _
                      rw [hmore.out, puts_one_true rfl hbx]
                      exact hj.out
                    clear hj hbx fI
                    go_wp2_with fail
                    go_roundw
                    case rel => exact ⟨tb, k + 1, by omega, rfl, by go_num, hj2⟩
                    case measure => simp [intOf]; omega
                  | false =>
                    have hj2 : Hid (MS w (wr.setCell ⟨B, xn, none⟩ (.bool true)) M B n vc (puts c (L.take (k + 1))) ∧ Td n s (puts c (L.take (k + 1))) true ∧ OwnL (wr.setCell ⟨B, xn, none⟩ (.bool true)) lo2 3 1 va2 vc2 (L.map chCells)) := by
                      show _ ∧ _ ∧ _
                      rw [hmore.out]
                      refine ⟨hj.out.1.set hxn rfl, Td.mark (t := tb) hupk.out rfl hxn hbx, own_keep hj.out.2.2 fun g hg => Below.heap_setCell _ _ _ _ ?_⟩
                      have := (blk_lt hj.out.2.2 g hg).1
                      show g ≠ B
                      omega
                    clear hj hbx
                    go_wp2_with fail
                    go_roundw
                    case rel => exact ⟨true, k + 1, by omega, rfl, by go_num, hj2⟩
                    case measure => simp [intOf]; omega
                · have hk2 : k = L.length := by omega
                  have hkI2 : ¬ ((k : Int) < L.length) := by omega
                  have hj2 : Hid (MS w wr M B n vc (gPass F.fn (LL false) s (i + 1)) ∧ Td n s (gPass F.fn (LL false) s (i + 1)) tb) := by
                    show _ ∧ _
                    have h := hj.out
                    rw [hk2, List.take_length, hPs.out, ← hsk.out] at h
                    exact ⟨h.1, h.2.1⟩
                  clear hj hk2
                  go_wp2_with fail
                  go_roundw
                  case rel => exact ⟨tb, i + 1, by omega, rfl, by go_num, hj2⟩
                  case measure => simp [intOf]; omega
            | true =>
              rw [hW rfl] at cL
              go_wp2_with (first
                | (go_at_call 59; (with_reducible refine (cL _).mono ?_); rintro e w9 ⟨rfl, h9⟩; replace h9 := h9.symm; subst h9)
                | (go_at_call 44; (with_reducible refine xN.mono ?_); rintro e w2 ⟨va2, vc2, rfl, hs2⟩))
              have hI0 : Hid (MS w w2 M B n vc (puts c (L.take 0)) ∧ Td n s (puts c (L.take 0)) tb ∧ OwnL w2 wr.heap.size 3 1 va2 vc2 (L.map chCells)) := by
                show _ ∧ _ ∧ _
                rw [List.take_zero, puts_nil]
                exact ⟨hq.out.1.later hs2.be, hq.out.2, hs2.ow⟩
              clear hq hs2 cI xI b0 b1 b2 b3 fc2 hix hfix i0 cL xN
              generalize wr.heap.size = lo2 at *
              go_loopw [10, 13] (fun t u wr => ∃ (tb : Bool) (k : Nat), k ≤ L.length ∧ t = .bool tb ∧ u = .int .i64 (k : Int) ∧ Hid (MS w wr M B n vc (puts c (L.take k)) ∧ Td n s (puts c (L.take k)) tb ∧ OwnL wr lo2 3 1 va2 vc2 (L.map chCells))) (fun _ u _ => L.length - (intOf u).toNat)
              case atStart => exact ⟨tb, 0, Nat.zero_le _, rfl, rfl, hI0⟩
              case round =>
                clear hI0
                obtain ⟨tb, k, hk, rfl, rfl, hj⟩ := hrel
                by_cases hkl : k < L.length
                · obtain ⟨x, hx, hxm⟩ := get_lt L k hkl
                  obtain ⟨x0, xn1⟩ := hPm.out x hxm
                  obtain ⟨xn, rfl⟩ : ∃ xn : Nat, x = (xn : Int) := ⟨x.toNat, by omega⟩
                  have hxn : xn < n := by omega
                  obtain ⟨lb, lo1, hix1, hlb1, c1⟩ := ch_ix (own_rows hj.out.2.2 (len1u _)) k _ hx
                  have hkI2 : (k : Int) < L.length := by omega
                  have xI := ix_bl B n vc xn hxn
                  have cI := (hj.out.1.l.cell hxn).1
                  have fI := (hj.out.1.l.cell hxn).2
                  have hmore : Hid (puts c (L.take (k + 1)) = puts (puts c (L.take k)) [(xn : Int)]) := by show _ = _; rw [← take_more hx, ← puts_app]
                  have hupk : Hid (∀ q, s q = true → puts c (L.take k) q = true) := fun q h => puts_up _ (hup.out q h)
                  clear hx hxm
                  generalize puts c (L.take k) = d at *
                  obtain ⟨bx, hbx⟩ : ∃ bx, d xn = bx := ⟨_, rfl⟩
                  rw [hbx] at cI
                  cases bx with
                  | true =>
                    have hj2 : Hid (MS w wr M B n vc (puts c (L.take (k + 1))) ∧ Td n s (puts c (L.take (k + 1))) tb ∧ OwnL wr lo2 3 1 va2 vc2 (L.map chCells)) := by
                      show _ ∧ _ ∧ _
                      rw [hmore.out, puts_one_true rfl hbx]
                      exact hj.out
                    clear hj hbx fI
                    go_wp2_with fail
                    go_roundw
                    case rel => exact ⟨tb, k + 1, by omega, rfl, by go_num, hj2⟩
                    case measure => simp [intOf]; omega
                  | false =>
                    have hj2 : Hid (MS w (wr.setCell ⟨B, xn, none⟩ (.bool true)) M B n vc (puts c (L.take (k + 1))) ∧ Td n s (puts c (L.take (k + 1))) true ∧ OwnL (wr.setCell ⟨B, xn, none⟩ (.bool true)) lo2 3 1 va2 vc2 (L.map chCells)) := by
                      show _ ∧ _ ∧ _
                      rw [hmore.out]
                      refine ⟨hj.out.1.set hxn rfl, Td.mark (t := tb) hupk.out rfl hxn hbx, own_keep hj.out.2.2 fun g hg => Below.heap_setCell _ _ _ _ ?_⟩
                      have := (blk_lt hj.out.2.2 g hg).1
                      show g ≠ B
                      omega
                    clear hj hbx
                    go_wp2_with fail
                    go_roundw
                    case rel => exact ⟨true, k + 1, by omega, rfl, by go_num, hj2⟩
                    case measure => simp [intOf]; omega
                · have hk2 : k = L.length := by omega
                  have hkI2 : ¬ ((k : Int) < L.length) := by omega
                  have hj2 : Hid (MS w wr M B n vc (gPass F.fn (LL true) s (i + 1)) ∧ Td n s (gPass F.fn (LL true) s (i + 1)) tb) := by
                    show _ ∧ _
                    have h := hj.out
                    rw [hk2, List.take_length, hPs.out, ← hsk.out] at h
                    exact ⟨h.1, h.2.1⟩
                  clear hj hk2
                  go_wp2_with fail
                  go_roundw
                  case rel => exact ⟨tb, i + 1, by omega, rfl, by go_num, hj2⟩
                  case measure => simp [intOf]; omega
        · have hi2 : i = n := by omega
          have hfin : Hid (MS w wr M B n vc (gPass F.fn (LL loc) s n) ∧ MO F.fn (LL loc) s₀ (gPass F.fn (LL loc) s n) tb) := by
            have h := hq.out
            rw [hi2] at h
            refine ⟨h.1, ?_⟩
            have h3 : Td F.fn.code.length s (gPass F.fn (LL loc) s F.fn.code.length) tb := by show Td F.code.length s (gPass F.fn (LL loc) s F.code.length) tb; rw [hn]; exact h.2
            have h4 := hMO.out.step hflH.out h3
            rw [show F.fn.code.length = n from hn] at h4
            exact h4
          have hme : Hid (2 * missB B n wr + tN (.bool tb) < 2 * miss s n + 1) := by
            show _ < _
            have h := hq.out
            rw [hi2] at h
            rw [missB_is h.1.l]
            have hup : ∀ k, s k = true → gPass F.fn (LL loc) s n k = true := fun k hk => gPass_up F.fn _ s n k hk
            cases tb with
            | true =>
              obtain ⟨q, hq1, hq2, hq3⟩ := h.2.1 rfl
              have := miss_lt hup n ⟨q, hq1, by rw [hq2, hq3]; simp⟩
              show 2 * _ + 1 < _; omega
            | false =>
              have := miss_le hup n
              show 2 * _ + 0 < _; omega
          have hkI : ¬ ((i : Int) < n) := by omega
          clear hq hi2
          go_wp2_with fail
          go_roundw
          case rel => exact ⟨tb, _, rfl, hfin⟩
          case measure => rw [hmz.out]; exact hme.out
end Go.Proofs.YtlcljdldhajkiaaDoor.pg
/- The document's own Reach and spins. -/
namespace Go.Proofs.YtlcljdldhajkiaaDoor.pg
open Go.ChangeShapes Go.WideShapes Go.ChangeAt Go.RowKit Go.Shelf
set_option linter.unusedVariables false
set_option linter.unusedSimpArgs false
set_option maxRecDepth 100000
section
variable {P : Program} {ops : Array Oper} {Q : Exit → Act → World → Prop} {S : World → Prop} {fuel : Nat} {listed : Array Bool} {a : Act} {w : World}
theorem reg_call4F {i : Nat} {o : Oper} (hr : Region.ready .any ops listed = [i]) (ho : ops[i]? = some o) (hw : Region.wanted o (yielded ops a.tmps) = true) (f : FuncId) (x y z k : Operand) (t u q r : TypeId)
    (hc0 : o.op = .call { callee := .value (.func f), args := #[x, y, z, k], argTypes := #[t, u, q, r] }) (v v2 v3 v4 : Value) (hx : a.eval x = v) (hy : a.eval y = v2) (hz : a.eval z = v3) (hk : a.eval k = v4) (hcf : (callFunc f #[v, v2, v3, v4]).run P w = .ok (.enter f #[v, v2, v3, v4]) w) (R : Ending → World → Prop) (hc : Calls P f #[v, v2, v3, v4] w R)
    (hK : ∀ e w', R e w' → ∃ v, e = .returned v ∧ S w' ∧ (S w' → wpAnyH P .any ops Q S fuel (listed.setIfInBounds i true) (a.put o.dst v) w')) :
    wpAnyH P .any ops Q S (fuel + 1) listed a w := reg_call hr ho hw f #[x, y, z, k] #[t, u, q, r] hc0 #[v, v2, v3, v4] (by simp [hx, hy, hz, hk]) hcf R hc hK
end
theorem onePl_out {n pc : Nat} (h : pc < n) : ∀ k, n ≤ k → onePl pc k = false := fun k hk => by unfold onePl; rw [decide_eq_false_iff_not]; omega
set_option maxHeartbeats 1000000 in
theorem rreach_any (M : MPr) (f : Int) (pc : Nat) (w : World) (hM : M.lies w) (F : MFn) (hFi : M.fns[f.toNat]? = some F) (hfl : FlowF F.fn) (f0 : 0 ≤ f) (hpc : pc < F.code.length) :
    Calls Tryd.prog 32 #[M.val, .int .i64 f, .int .i64 (pc : Int)] w fun e w' => ∃ R va vc, e = .returned (.slice va (lst R F.code.length).length vc) ∧ Least F.fn alw (onePl pc) R ∧ (∀ k, F.code.length ≤ k → R k = false) ∧ Rows w' 1 va vc ((lst R F.code.length).map chCells) ∧ Below w.heap.size w w' := by
  have hb := boxed w (objP M)
  have hMH : Hid (M.lies w) := hM
  have hbH : Hid (Below w.heap.size w (w.alloc (objP M))) := hb
  have bP := boxP_new w M
  have hl64 : F.code.length ≤ 64 := hfl.l64
  clear hM hb
  go_enter Tryd.func32, Tryd.ntmps32
  go_upto_region 1 with (fail)
  generalize w.alloc (objP M) = V at *
  have hH : Below V.heap.size V V.drew := bey_drew V
  have hrP : ∀ w', Below V.heap.size V w' → w'.rangeAt w.heap.size 0 [.slice M.va M.vars.length M.vcap, .int .i64 M.locks, .slice M.cha M.chans.length M.chcap, .slice M.fa M.fns.length M.fcap] := fun w' h' j v hj => by
    match j, hj with
    | 0, hj => cases hj; exact cell_later h' bP.1
    | 1, hj => cases hj; exact cell_later h' bP.2.1
    | 2, hj => cases hj; exact cell_later h' bP.2.2.1
    | 3, hj => cases hj; exact cell_later h' bP.2.2.2
  refine wp_region_held_drew (S := fun w' => Below V.heap.size V w') (by kernel_rfl) hH (fun _ => ?_)
  refine reg_load (i := 0) rfl (by kernel_rfl) (by kernel_rfl) (by kernel_rfl) (fun _ _ _ _ h => h) rfl 26 _ rfl w.heap.size 0 rfl [.slice M.va M.vars.length M.vcap, .int .i64 M.locks, .slice M.cha M.chans.length M.chcap, .slice M.fa M.fns.length M.fcap] _ hrP Tryd.underlying26 rfl (by kernel_rfl) hH ?_
  simp only [Act.put, List.getElem_toArray, List.getElem_cons_succ, List.getElem_cons_zero, List.setIfInBounds_toArray, List.set_cons_zero, List.set_cons_succ]
  refine reg_move (i := 1) rfl (by kernel_rfl) (by kernel_rfl) (by kernel_rfl) (fun _ _ _ _ h => h) rfl (.int .i64 f) (fun _ => by kernel_rfl) hH ?_
  simp only [Act.put, List.getElem_toArray, List.getElem_cons_succ, List.getElem_cons_zero, List.setIfInBounds_toArray, List.set_cons_zero, List.set_cons_succ]
  refine reg_load (i := 2) rfl (by kernel_rfl) (by kernel_rfl) (by kernel_rfl) (fun _ _ _ _ h => h) rfl 26 _ rfl w.heap.size 0 rfl [.slice M.va M.vars.length M.vcap, .int .i64 M.locks, .slice M.cha M.chans.length M.chcap, .slice M.fa M.fns.length M.fcap] _ hrP Tryd.underlying26 rfl (by kernel_rfl) hH ?_
  simp only [Act.put, List.getElem_toArray, List.getElem_cons_succ, List.getElem_cons_zero, List.setIfInBounds_toArray, List.set_cons_zero, List.set_cons_succ]
  refine reg_move (i := 3) rfl (by kernel_rfl) (by kernel_rfl) (by kernel_rfl) (fun _ _ _ _ h => h) rfl (.int .i64 f) (fun _ => by kernel_rfl) hH ?_
  simp only [Act.put, List.getElem_toArray, List.getElem_cons_succ, List.getElem_cons_zero, List.setIfInBounds_toArray, List.set_cons_zero, List.set_cons_succ]
  refine reg_move (i := 4) rfl (by kernel_rfl) (by kernel_rfl) (by kernel_rfl) (fun _ _ _ _ h => h) rfl (.int .i64 (pc : Int)) (fun _ => by kernel_rfl) hH ?_
  simp only [Act.put, List.getElem_toArray, List.getElem_cons_succ, List.getElem_cons_zero, List.setIfInBounds_toArray, List.set_cons_zero, List.set_cons_succ]
  refine reg_call3F (i := 5) (by kernel_rfl) rfl rfl 40 _ _ _ _ _ _ rfl M.val (.int .i64 f) (.int .i64 (pc : Int)) rfl rfl rfl (cf_fn Tryd.func40 (by kernel_rfl) (by kernel_rfl) _ _) _ (rfrom_any M f pc _ (hMH.out.later (bthen hbH.out hH)) F hFi hfl f0 hpc) ?_
  rintro e3 w3 ⟨B3, rfl, hBl3, hb3⟩
  have hH3 : Below V.heap.size V w3 := bthen hH hb3
  refine ⟨_, rfl, hH3, fun _ => ?_⟩
  simp only [Act.put, List.getElem_toArray, List.getElem_cons_succ, List.getElem_cons_zero, List.setIfInBounds_toArray, List.set_cons_zero, List.set_cons_succ]
  refine reg_call4F (i := 6) (by kernel_rfl) rfl rfl 39 _ _ _ _ _ _ _ _ rfl M.val (.int .i64 f) (.slice (some ⟨B3, 0, none⟩) F.code.length F.code.length) (.bool false) rfl rfl rfl rfl (cf_fn Tryd.func39 (by kernel_rfl) (by kernel_rfl) _ _) _ (rmarked_any M f w3 (hMH.out.later (bthen hbH.out hH3)) F hFi hfl f0 false (onePl pc) (onePl_out hpc) _ B3 F.code.length hBl3) ?_
  rintro e4 w4 ⟨B4, cap4, R, rfl, hBl4, hR, hRo, hb4⟩
  have hH4 : Below V.heap.size V w4 := bthen hH3 hb4
  refine ⟨_, rfl, hH4, fun _ => ?_⟩
  simp only [Act.put, List.getElem_toArray, List.getElem_cons_succ, List.getElem_cons_zero, List.setIfInBounds_toArray, List.set_cons_zero, List.set_cons_succ]
  refine reg_call1 (i := 7) (by kernel_rfl) rfl rfl 41 _ _ rfl (.slice (some ⟨B4, 0, none⟩) F.code.length cap4) rfl (cf_fn Tryd.func41 (by kernel_rfl) (by kernel_rfl) _ _) _ (rplaces_any F.code.length B4 cap4 _ R w4 hBl4 hl64) ?_
  rintro e5 w5 ⟨va, vc, rfl, hls⟩
  have hH5 : Below V.heap.size V w5 := bthen hH4 hls.be
  refine ⟨_, rfl, hH5, fun _ => ?_⟩
  simp only [Act.put, List.getElem_toArray, List.getElem_cons_succ, List.getElem_cons_zero, List.setIfInBounds_toArray, List.set_cons_zero, List.set_cons_succ]
  refine reg_move (i := 8) rfl (by kernel_rfl) (by kernel_rfl) (by kernel_rfl) (fun _ _ _ _ h => h) rfl (.slice va (lst R F.code.length).length vc) (fun _ => rfl) hH5 ?_
  simp only [Act.put, List.getElem_toArray, List.getElem_cons_succ, List.getElem_cons_zero, List.setIfInBounds_toArray, List.set_cons_zero, List.set_cons_succ]
  refine wpAnyH_done (by kernel_rfl) ?_ _
  have hrw : Hid (Rows w5 1 va vc ((lst R F.code.length).map chCells)) := hls.rows
  have hbE : Hid (Below w.heap.size w w5) := bthen hbH.out hH5
  clear hls hrP bP
  generalize hLL : lst R F.code.length = L at *
  go_wp2
  go_ret
  have hal : LL false = alw := by funext op; simp [LL, alw]
  rw [hal] at hR
  exact ⟨R, va, vc, by rw [hLL]; rfl, hR, hRo, by rw [hLL]; exact hrw.out, hbE.out⟩
set_option maxHeartbeats 2000000 in
/-- Whether a local way leads from a place back to it. -/
theorem rspins_any (M : MPr) (f : Int) (pc : Nat) (w : World) (hM : M.lies w) (F : MFn) (hFi : M.fns[f.toNat]? = some F) (hfl : FlowF F.fn) (f0 : 0 ≤ f) (hpc : pc < F.code.length) :
    Calls Tryd.prog 42 #[M.val, .int .i64 f, .int .i64 (pc : Int)] w fun e w' => ∃ b, e = .returned (.bool b) ∧ (prog.loc (insAt F.code pc).op = false ∧ b = false ∨ prog.loc (insAt F.code pc).op = true ∧ ∃ R, Least F.fn (LL true) (puts (fun _ => false) (nxt F.fn pc)) R ∧ b = R pc) ∧ Below w.heap.size w w' := by
  obtain ⟨iB, hiB, hzB, hsB, hbB⟩ := info_q infoBl
  have hb := boxed w (objP M)
  have bP := boxP_new w M
  obtain ⟨b0, b1, b2, b3⟩ := bP
  have hl64 : F.code.length ≤ 64 := hfl.l64
  have hFm := List.mem_of_getElem? hFi
  have hMH : Hid (M.lies (w.alloc (objP M))) := hM.later hb
  have hflH : Hid (FlowF F.fn) := hfl
  have hFH : Hid (M.fns[f.toNat]? = some F) := hFi
  have hMw : Hid (M.lies w) := hM
  have hbH : Hid (Below w.heap.size w (w.alloc (objP M))) := hb
  have hlF : F.lies (w.alloc (objP M)) := hMH.out.2.2.2.2.2.2 F hFm
  obtain ⟨fb, fo, hfix, hfb, fc0, fc1, fc2, fc3⟩ := fn_ix hMH.out.2.2.1 f.toNat F hFi
  rw [show ((f.toNat : Nat) : Int) = f by omega] at hfix
  obtain ⟨m1, m2⟩ := insAt_mem (code := F.code) (pc := (pc : Int)) (by omega) (by omega)
  rw [Int.toNat_natCast] at m1
  obtain ⟨ib, io, hix, hib, i0, i1, i2, i3, i4⟩ := ins_ix hlF.1 pc _ m1
  have hio := (hlF.2.2.1 _ m2).1
  have cL : ∀ wx, Calls Tryd.prog 59 #[.int .i64 (insAt F.code pc).op] wx _ := fun wx => prog.reflocal_any (insAt F.code pc).op hio.1 hio.2 wx _ rfl
  have hpn : Hid ((w.alloc (objP M)).heap[w.heap.size]? = some (objP M)) := heap_alloc_new w _
  clear hM hfl hFi hb hlF hfb fc0 fc1 fc3 m1 m2 hib i1 i2 i3 i4 hio
  obtain ⟨lb, hlb⟩ : ∃ lb, prog.loc (insAt F.code pc).op = lb := ⟨_, rfl⟩
  rw [hlb] at cL
  have hlbH : Hid (prog.loc (insAt F.code pc).op = lb) := hlb
  clear hlb
  cases lb with
  | false =>
    go_enter Tryd.func42, Tryd.ntmps42
    go_wp2_with (go_at_call 59; (with_reducible refine (cL _).mono ?_); rintro e w2 ⟨rfl, h9⟩; replace h9 := h9.symm; subst h9)
    go_ret
    exact ⟨false, rfl, .inl ⟨hlbH.out, rfl⟩, hbH.out⟩
  | true =>
    generalize hn : F.code.length = n at *
    go_enter Tryd.func42, Tryd.ntmps42
    go_wp2_with (first
      | (go_at_call 59; (with_reducible refine (cL _).mono ?_); rintro e w9 ⟨rfl, h9⟩; replace h9 := h9.symm; subst h9)
      | (refine wpList_mk _ rfl _ _ 79 rfl 4 iB _ Tryd.underlying79 hiB hzB rfl hsB n rfl rfl (by rw [hbB]; omega) (by omega) ?_; intro w2 hn2 hb2 hs2; (rw [World.size_alloc] at hn2); (have hMS : Hid (MS w w2 M (w.heap.size + 1) n n fun _ => false) := ⟨bthen hbH.out hb2, bl_new hn2 (by omega) (by omega), (hb2.block _ (by rw [World.size_alloc]; omega)).trans hpn.out, by omega⟩); (have hM2 : Hid (M.lies w2) := hMH.out.later hb2); (have xN := rnext_any M f pc w2 hM2.out F hFH.out hflH.out f0 (by rw [hn]; exact hpc)); obtain ⟨b0, b1, b2, b3⟩ := hMS.out.box; (try simp only [World.size_alloc]); clear hn2 hb2 hs2 fc2 hix hfix i0 cL)
      | (go_at_call 44; (with_reducible refine xN.mono ?_); rintro e w3 ⟨va2, vc2, rfl, hs2⟩))
    have hPm : Hid (∀ x ∈ putAll [] (nxt F.fn pc), 0 ≤ x ∧ x < n) := fun x hx => by
      have h1 := hflH.out.n pc (by show pc < F.code.length; omega) x (((putAll_mem _ [] (by simp) x).mp hx).resolve_left (by simp))
      rw [show F.fn.code.length = n from hn] at h1
      exact h1
    have hPs : Hid (puts (fun _ => false) (putAll [] (nxt F.fn pc)) = puts (fun _ => false) (nxt F.fn pc)) := puts_same fun x => by rw [putAll_mem _ [] (by simp) x]; simp
    have hPl : (putAll [] (nxt F.fn pc)).length ≤ 63 := nxt_small hflH.out pc (by show pc < F.code.length; omega)
    generalize putAll [] (nxt F.fn pc) = L at *
    have hBlt : w.heap.size + 1 < w2.heap.size := hMS.out.l.lt
    have hI0 : Hid (MS w w3 M (w.heap.size + 1) n n (puts (fun _ => false) (L.take 0)) ∧ OwnL w3 w2.heap.size 3 1 va2 vc2 (L.map chCells) ∧ M.lies w3) := by
      show _ ∧ _ ∧ _
      rw [List.take_zero, puts_nil]
      exact ⟨hMS.out.later hs2.be, hs2.ow, hM2.out.later hs2.be⟩
    clear hs2 b0 b1 b2 b3 xN hMS hM2 hMH
    generalize w2.heap.size = lo2 at *
    go_loopw [9] (fun u wr => ∃ (k : Nat), k ≤ L.length ∧ u = .int .i64 (k : Int) ∧ Hid (MS w wr M (w.heap.size + 1) n n (puts (fun _ => false) (L.take k)) ∧ OwnL wr lo2 3 1 va2 vc2 (L.map chCells))) (fun u _ => L.length - (intOf u).toNat)
    case atStart => exact ⟨0, Nat.zero_le _, rfl, hI0.out.1, hI0.out.2.1⟩
    case round =>
      clear hI0
      obtain ⟨k, hk, rfl, hj⟩ := hrel
      by_cases hkl : k < L.length
      · obtain ⟨x, hx, hxm⟩ := get_lt L k hkl
        obtain ⟨x0, xn1⟩ := hPm.out x hxm
        obtain ⟨xn, rfl⟩ : ∃ xn : Nat, x = (xn : Int) := ⟨x.toNat, by omega⟩
        have hxn : xn < n := by omega
        obtain ⟨lb, lo1, hix1, hlb1, c1⟩ := ch_ix (own_rows hj.out.2 (len1u _)) k _ hx
        have hkI2 : (k : Int) < L.length := by omega
        have xI := ix_bl (w.heap.size + 1) n n xn hxn
        have cI := (hj.out.1.l.cell hxn).1
        have fI := (hj.out.1.l.cell hxn).2
        have hj2 : Hid (MS w (wr.setCell ⟨w.heap.size + 1, xn, none⟩ (.bool true)) M (w.heap.size + 1) n n (puts (fun _ => false) (L.take (k + 1))) ∧ OwnL (wr.setCell ⟨w.heap.size + 1, xn, none⟩ (.bool true)) lo2 3 1 va2 vc2 (L.map chCells)) := by
          show _ ∧ _
          rw [← take_more hx, ← puts_app]
          refine ⟨hj.out.1.set hxn rfl, own_keep hj.out.2 fun g hg => Below.heap_setCell _ _ _ _ ?_⟩
          have := (blk_lt hj.out.2 g hg).1
          show g ≠ w.heap.size + 1
          omega
        clear hj hx hxm
        go_wp2_with fail
        go_roundw
        case rel => exact ⟨k + 1, by omega, by go_num, hj2⟩
        case measure => simp [intOf]; omega
      · have hk2 : k = L.length := by omega
        have hkI2 : ¬ ((k : Int) < L.length) := by omega
        have hMS : Hid (MS w wr M (w.heap.size + 1) n n (puts (fun _ => false) (nxt F.fn pc))) := by
          have h := hj.out.1
          rw [hk2, List.take_length, hPs.out] at h
          exact h
        obtain ⟨b0, b1, b2, b3⟩ := hMS.out.box
        have hout : ∀ k, F.code.length ≤ k → puts (fun _ => false) (nxt F.fn pc) k = false := fun k hk => by
          unfold puts
          rw [Bool.false_or, decide_eq_false_iff_not]
          intro hx
          have := (hflH.out.n pc (by show pc < F.code.length; omega) _ hx).2
          rw [show F.fn.code.length = F.code.length from rfl] at this
          omega
        have xM := rmarked_any M f wr (hMw.out.later hMS.out.b) F hFH.out hflH.out f0 true _ hout _ (w.heap.size + 1) n (by rw [hn]; exact hMS.out.l)
        rw [hn] at xM
        clear hj hk2 hout
        go_wp2_with (go_at_call 39; (with_reducible refine xM.mono ?_); rintro e w4 ⟨B4, cap4, R, rfl, hBl4, hR, hRo, hb4⟩; (have xJ := ix_bl B4 n cap4 pc hpc); (have cJ := (hBl4.cell hpc).1))
        go_ret
        exact ⟨R pc, rfl, .inr ⟨hlbH.out, R, hR, rfl⟩, bthen hMS.out.b hb4⟩
end Go.Proofs.YtlcljdldhajkiaaDoor.pg
