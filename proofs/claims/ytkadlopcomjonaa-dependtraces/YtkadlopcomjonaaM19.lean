/- The places of each goroutine's events: six lists of the call's own. -/
import Derived.Test.YtkadlopcomjonaaM1
import Derived.Test.YtkadlopcomjonaaM5
import Derived.Test.YtkadlopcomjonaaM18
import Derived.Test.YtkadlopcomjonaaM13
namespace Go.Proofs.Ytkadlopcomjonaa.pg
open Go.ChangeShapes Go.WideShapes Go.ChangeAt Go.RowKit Go.Shelf
set_option linter.unusedVariables false
set_option linter.unusedSimpArgs false
set_option maxRecDepth 100000
def slv (pa : Nat → Option Addr) (pc : Nat → Nat) (L : Nat → List Int) (a : Nat) : Value := .slice (pa a) (L a).length (pc a)
def sixC (pa : Nat → Option Addr) (pc : Nat → Nat) (L : Nat → List Int) : List Value := [slv pa pc L 0, slv pa pc L 1, slv pa pc L 2, slv pa pc L 3, slv pa pc L 4, slv pa pc L 5]
theorem sixC_at {pa : Nat → Option Addr} {pc : Nat → Nat} {L : Nat → List Int} {a : Nat} (h : a < 6) : (sixC pa pc L).toArray[a]? = some (slv pa pc L a) := by
  match a, h with
  | 0, _ => rfl
  | 1, _ => rfl
  | 2, _ => rfl
  | 3, _ => rfl
  | 4, _ => rfl
  | 5, _ => rfl
theorem sixC_set {pa pa' : Nat → Option Addr} {pc pc' : Nat → Nat} {L L' : Nat → List Int} {a : Nat} (h : a < 6) (hb : ∀ b, b ≠ a → slv pa' pc' L' b = slv pa pc L b) : (sixC pa pc L).toArray.setIfInBounds a (slv pa' pc' L' a) = (sixC pa' pc' L').toArray := by
  unfold sixC
  match a, h with
  | 0, _ => rw [hb 1 (by decide), hb 2 (by decide), hb 3 (by decide), hb 4 (by decide), hb 5 (by decide)]; rfl
  | 1, _ => rw [hb 0 (by decide), hb 2 (by decide), hb 3 (by decide), hb 4 (by decide), hb 5 (by decide)]; rfl
  | 2, _ => rw [hb 0 (by decide), hb 1 (by decide), hb 3 (by decide), hb 4 (by decide), hb 5 (by decide)]; rfl
  | 3, _ => rw [hb 0 (by decide), hb 1 (by decide), hb 2 (by decide), hb 4 (by decide), hb 5 (by decide)]; rfl
  | 4, _ => rw [hb 0 (by decide), hb 1 (by decide), hb 2 (by decide), hb 3 (by decide), hb 5 (by decide)]; rfl
  | 5, _ => rw [hb 0 (by decide), hb 1 (by decide), hb 2 (by decide), hb 3 (by decide), hb 4 (by decide)]; rfl
/-- Six lists that share nothing. -/
structure Six (W : World) (lo : Nat) (pa : Nat → Option Addr) (pc : Nat → Nat) (L : Nat → List Int) : Prop where
  ow : ∀ a, a < 6 → OwnL W lo 3 1 (pa a) (pc a) ((L a).map chCells)
  ap : ∀ a b, a < 6 → b < 6 → a ≠ b → ∀ g ∈ blk (pa a), g ∉ blk (pa b)
theorem Six.keep {W W' : World} {lo : Nat} {pa : Nat → Option Addr} {pc : Nat → Nat} {L : Nat → List Int} (h : Six W lo pa pc L) (hk : ∀ g, lo ≤ g → g < W.heap.size → W'.heap[g]? = W.heap[g]?) : Six W' lo pa pc L :=
  ⟨fun a ha => own_keep (h.ow a ha) fun g hg => hk g (blk_lt (h.ow a ha) g hg).1 (blk_lt (h.ow a ha) g hg).2, h.ap⟩
theorem Six.later {W W' : World} {lo : Nat} {pa : Nat → Option Addr} {pc : Nat → Nat} {L : Nat → List Int} (h : Six W lo pa pc L) (hb : Below W.heap.size W W') : Six W' lo pa pc L := h.keep fun g _ hg => hb.block g hg
def updF {α : Type} (f : Nat → α) (a : Nat) (v : α) : Nat → α := fun b => if b = a then v else f b
theorem updF_at {α : Type} (f : Nat → α) (a : Nat) (v : α) : updF f a v a = v := if_pos rfl
theorem updF_ne {α : Type} (f : Nat → α) {a b : Nat} (v : α) (h : b ≠ a) : updF f a v b = f b := if_neg h
theorem Six.grown {W W' : World} {lo : Nat} {pa : Nat → Option Addr} {pc : Nat → Nat} {L : Nat → List Int} (h : Six W lo pa pc L) {a : Nat} (ha : a < 6) {x : Int} {va' : Option Addr} {vc' : Nat} (hg : Grown W lo 3 1 (pa a) ((L a).map chCells) (chCells x) va' vc' W') : Six W' lo (updF pa a va') (updF pc a vc') (updF L a (L a ++ [x])) := by
  refine ⟨fun b hb => ?_, fun b c hb hc hbc g hgb hgc => ?_⟩
  · by_cases e : b = a
    · subst e
      rw [updF_at, updF_at, updF_at, List.map_append]
      exact hg.ow
    · rw [updF_ne _ _ e, updF_ne _ _ e, updF_ne _ _ e]
      exact own_keep (h.ow b hb) fun g hgm => hg.kp g (blk_lt (h.ow b hb) g hgm).2 (h.ap b a hb ha e g hgm)
  · by_cases e : b = a
    · subst e
      have e2 : c ≠ b := Ne.symm hbc
      rw [updF_at] at hgb
      rw [updF_ne _ _ e2] at hgc
      rcases hg.bk g hgb with q | q
      · exact h.ap b c hb hc hbc g q hgc
      · have := (blk_lt (h.ow c hc) g hgc).2; omega
    · rw [updF_ne _ _ e] at hgb
      by_cases e2 : c = a
      · subst e2
        rw [updF_at] at hgc
        rcases hg.bk g hgc with q | q
        · exact h.ap b c hb hc hbc g hgb q
        · have := (blk_lt (h.ow b hb) g hgb).2; omega
      · rw [updF_ne _ _ e2] at hgc
        exact h.ap b c hb hc hbc g hgb hgc
/-- The places of a goroutine, as they are told. -/
def plI (g : Nat → Nat) (n a : Nat) : List Int := (plc g n a).map fun k : Nat => (k : Int)
theorem plI_more (g : Nat → Nat) (n : Nat) : (fun a => plI g (n + 1) a) = updF (fun a => plI g n a) (g n) (plI g n (g n) ++ [(n : Int)]) := by
  funext a
  unfold plI
  rw [plc_more]
  by_cases e : a = g n
  · subst e
    rw [updF_at, if_pos rfl, List.map_append]; rfl
  · rw [updF_ne _ _ e, if_neg (fun q => e q.symm), List.append_nil]
theorem plI_len (g : Nat → Nat) (n a : Nat) : (plI g n a).length ≤ n := by
  unfold plI
  rw [List.length_map, plc_len]
  exact cnt_le _ _
abbrev obj6 (pa : Nat → Option Addr) (pc : Nat → Nat) (L : Nat → List Int) : Obj := .cells (sixC pa pc L).toArray 80
theorem ix_six (B a : Nat) (h : a < 6) : ∀ wx, (Instr.indexAt 80 (.pointer (some ⟨B, 0, none⟩)) (.int .i64 (a : Int))).run Try.prog wx = .ok (.pointer (some ⟨B, a, none⟩)) wx := by
  match a, h with
  | 0, _ => exact fun _ => by kernel_rfl
  | 1, _ => exact fun _ => by kernel_rfl
  | 2, _ => exact fun _ => by kernel_rfl
  | 3, _ => exact fun _ => by kernel_rfl
  | 4, _ => exact fun _ => by kernel_rfl
  | 5, _ => exact fun _ => by kernel_rfl
theorem ix_sixv (cs : List Value) (v : Value) (a : Nat) (h : a < 6) (hl : cs.length = 6) (hv : cs[a]? = some v) (h1 : v.oneCell' = true) : ∀ wx, (Instr.index 80 (.agg cs.toArray) (.int .i64 (a : Int))).run Try.prog wx = .ok v wx := by
  obtain ⟨v0, v1, v2, v3, v4, v5, rfl⟩ := len6 hl
  match a, h with
  | 0, _ => simp only [List.getElem?_cons_zero, Option.some.injEq] at hv; subst hv; exact fun _ => by kernel_rfl
  | 1, _ => simp only [List.getElem?_cons_zero, List.getElem?_cons_succ, Option.some.injEq] at hv; subst hv; exact fun _ => by kernel_rfl
  | 2, _ => simp only [List.getElem?_cons_zero, List.getElem?_cons_succ, Option.some.injEq] at hv; subst hv; exact fun _ => by kernel_rfl
  | 3, _ => simp only [List.getElem?_cons_zero, List.getElem?_cons_succ, Option.some.injEq] at hv; subst hv; exact fun _ => by kernel_rfl
  | 4, _ => simp only [List.getElem?_cons_zero, List.getElem?_cons_succ, Option.some.injEq] at hv; subst hv; exact fun _ => by kernel_rfl
  | 5, _ => simp only [List.getElem?_cons_zero, List.getElem?_cons_succ, Option.some.injEq] at hv; subst hv; exact fun _ => by kernel_rfl
end Go.Proofs.Ytkadlopcomjonaa.pg
/- The places of each goroutine's events, gathered. -/
namespace Go.Proofs.Ytkadlopcomjonaa.pg
open Go.ChangeShapes Go.WideShapes Go.ChangeAt Go.RowKit Go.Shelf
set_option linter.unusedVariables false
set_option linter.unusedSimpArgs false
set_option maxRecDepth 100000
theorem cell_ofK {w : World} {B k : Nat} {cs : Array Value} {t : TypeId} {v : Value} (h : w.heap[B]? = some (.cells cs t (0, 0))) (hk : cs[k]? = some v) : w.cell? ⟨B, k, none⟩ = some v := by
  simp [World.cell?, h, hk]
theorem cell_eqK {w w' : World} {B k : Nat} (h : w'.heap[B]? = w.heap[B]?) : w'.cell? ⟨B, k, none⟩ = w.cell? ⟨B, k, none⟩ := by
  simp [World.cell?, h]
theorem boxed2w (w : World) (a b : Obj) : Below w.heap.size w ((w.alloc a).alloc b) := bthen (boxed w a) (boxed (w.alloc a) b)
theorem two6 (w : World) (a b : Obj) : ((w.alloc a).alloc b).heap[w.heap.size]? = some a ∧ ((w.alloc a).alloc b).heap[w.heap.size + 1]? = some b := by
  have n2 := heap_alloc_new (w.alloc a) b
  rw [World.size_alloc] at n2
  exact ⟨((boxed (w.alloc a) b).block w.heap.size (by rw [World.size_alloc]; omega)).trans (heap_alloc_new w a), n2⟩
theorem info6 (pa : Nat → Option Addr) (pc : Nat → Nat) (L : Nat → List Int) : (Try.prog.info? 80).map (·.size) = some (sixC pa pc L).toArray.size := by
  show _ = some 6
  kernel_rfl
theorem six_one (pa : Nat → Option Addr) (pc : Nat → Nat) (L : Nat → List Int) : (sixC pa pc L).toArray.all (·.oneCell') = true := by
  simp [sixC, slv, Value.oneCell']
theorem below_rowK {n B : Nat} {w : World} {cs : Array Value} (hB : n ≤ B) : Below n w (w.setRow B cs) := ⟨rfl, rfl, rfl, by rw [setRow_size]; exact Nat.le_refl _, fun k hk => setRow_other w B k cs (by omega)⟩
/-- How all lies while the places are gathered. -/
structure BG (w W : World) (g : Nat → Nat) (k : Nat) (pa : Nat → Option Addr) (pc : Nat → Nat) : Prop where
  b : Below w.heap.size w W
  r : W.heap[w.heap.size]? = some (.cells #[.slice none 0 0, .slice none 0 0, .slice none 0 0, .slice none 0 0, .slice none 0 0, .slice none 0 0] 80)
  s : W.heap[w.heap.size + 1]? = some (obj6 pa pc fun a => plI g k a)
  o : Six W (w.heap.size + 2) pa pc fun a => plI g k a
theorem BG.lt {w W : World} {g : Nat → Nat} {k : Nat} {pa : Nat → Option Addr} {pc : Nat → Nat} (h : BG w W g k pa pc) : w.heap.size + 1 < W.heap.size := (Array.getElem?_eq_some_iff.mp h.s).1
theorem BG.later {w W W' : World} {g : Nat → Nat} {k : Nat} {pa : Nat → Option Addr} {pc : Nat → Nat} (h : BG w W g k pa pc) (hb : Below W.heap.size W W') : BG w W' g k pa pc :=
  ⟨bthen h.b hb, (hb.block _ (by have := h.lt; omega)).trans h.r, (hb.block _ h.lt).trans h.s, h.o.later hb⟩
theorem BG.put {w W w8 : World} {g : Nat → Nat} {k : Nat} {pa : Nat → Option Addr} {pc : Nat → Nat} (h : BG w W g k pa pc) (ha : g k < 6) {va' : Option Addr} {vc' : Nat} (hg : Grown W (w.heap.size + 2) 3 1 (pa (g k)) ((plI g k (g k)).map chCells) (chCells (k : Int)) va' vc' w8) :
    w8.heap[w.heap.size + 1]? = some (obj6 pa pc fun a => plI g k a) ∧ BG w (w8.setCell ⟨w.heap.size + 1, g k, none⟩ (.slice va' ((plI g k (g k)).length + 1) vc')) g (k + 1) (updF pa (g k) va') (updF pc (g k) vc') := by
  have hlt := h.lt
  have hni : ∀ b, b < w.heap.size + 2 → b ∉ blk (pa (g k)) := fun b hb q => by have := (blk_lt (h.o.ow _ ha) b q).1; omega
  have h1 := (hg.kp (w.heap.size + 1) hlt (hni _ (by omega))).trans h.s
  have h6 := h.o.grown ha hg
  have hne : ∀ b, b ≠ w.heap.size + 1 → (w8.setCell ⟨w.heap.size + 1, g k, none⟩ (.slice va' ((plI g k (g k)).length + 1) vc')).heap[b]? = w8.heap[b]? := fun b q => Below.heap_setCell _ _ _ _ q
  have hL : (fun a => plI g (k + 1) a) = updF (fun a => plI g k a) (g k) (plI g k (g k) ++ [(k : Int)]) := plI_more g k
  refine ⟨h1, ?_, ?_, ?_, ?_⟩
  · refine (h.b.trans (hg.be.mono (by omega))).trans ?_
    exact (Below.refl _ w8).setCell (p := ⟨w.heap.size + 1, g k, none⟩) (by show w.heap.size ≤ w.heap.size + 1; omega) _
  · rw [hne _ (by omega)]
    exact (hg.kp _ (by omega) (hni _ (by omega))).trans h.r
  · rw [setCell_eq_setRow w8 (w.heap.size + 1) (g k) _ _ _ _ h1, setRow_heap w8 (w.heap.size + 1) _ _ _ _ h1, hL]
    have := sixC_set (pa := pa) (pc := pc) (L := fun a => plI g k a) (pa' := updF pa (g k) va') (pc' := updF pc (g k) vc') (L' := updF (fun a => plI g k a) (g k) (plI g k (g k) ++ [(k : Int)])) ha fun b q => by unfold slv; rw [updF_ne _ _ q, updF_ne _ _ q, updF_ne _ _ q]
    have e : slv (updF pa (g k) va') (updF pc (g k) vc') (updF (fun a => plI g k a) (g k) (plI g k (g k) ++ [(k : Int)])) (g k) = .slice va' ((plI g k (g k)).length + 1) vc' := by
      unfold slv
      rw [updF_at, updF_at, updF_at, List.length_append]
      rfl
    rw [e] at this
    rw [this]
  · rw [hL]
    exact h6.keep fun b q _ => hne b (by omega)
theorem results_six {fn : Func} {p : Tmp} (h : fn.results = #[.cell p 80]) (tmps : Array Value) (w : World) (B : Nat) (cs : List Value) (hp : tmps.getD p undef = .pointer (some ⟨B, 0, none⟩)) (hB : w.heap[B]? = some (.cells cs.toArray 80)) (hl : cs.length = 6) :
    (results fn tmps).run Try.prog w = .ok (.agg cs.toArray) w := by
  have hp' : tmps[p]?.getD undef = .pointer (some ⟨B, 0, none⟩) := by simpa using hp
  simp [results, h, hp', asAddr, run_loadVar_row w B _ 80 _ _ _ hB Try.underlying80 rfl (by show _ = some cs.toArray.size; rw [List.size_toArray, hl]; kernel_rfl)]
set_option maxHeartbeats 4000000 in
theorem byGo_any (l : List Ev) (la : Option Addr) (lc : Nat) (w : World) (hl : Rows w 26 la lc (l.map Ev.cells)) (hlen : l.length ≤ 256) (hrt : ∀ x ∈ l, rightP x) :
    Calls Try.prog 49 #[.slice la l.length lc] w fun e w' => ∃ pa pc, e = .returned (.agg (sixC pa pc fun a => plI (gof l) l.length a).toArray) ∧ Six w' w.heap.size pa pc (fun a => plI (gof l) l.length a) ∧ Below w.heap.size w w' := by
  obtain ⟨iN, hiN, hzN, hsN, hbN⟩ := info_q infoN_u
  have huE : Hid (Try.prog.underlying 70 = _) := Try.underlying70
  have hiE : Hid ((Try.prog.info? 70).map (·.size) = some 26) := infoE26
  have huS : Hid (Try.prog.underlying 80 = _) := Try.underlying80
  have hlH : Hid (Rows w 26 la lc (l.map Ev.cells)) := hl
  have hrH : Hid (∀ x ∈ l, rightP x) := hrt
  clear hl hrt
  obtain ⟨p1, p2⟩ := two6 w (.cells #[.slice none 0 0, .slice none 0 0, .slice none 0 0, .slice none 0 0, .slice none 0 0, .slice none 0 0] 80) (.cells #[.slice none 0 0, .slice none 0 0, .slice none 0 0, .slice none 0 0, .slice none 0 0, .slice none 0 0] 80)
  have s0 : Hid (BG w ((w.alloc (.cells #[.slice none 0 0, .slice none 0 0, .slice none 0 0, .slice none 0 0, .slice none 0 0, .slice none 0 0] 80)).alloc (.cells #[.slice none 0 0, .slice none 0 0, .slice none 0 0, .slice none 0 0, .slice none 0 0, .slice none 0 0] 80)) (gof l) 0 (fun _ => none) (fun _ => 0)) := ⟨boxed2w _ _ _, p1, p2, fun a ha => own_nil_q _ _ _ _, fun a b _ _ _ g hg => by cases hg⟩
  clear p1 p2
  go_enter Try.func49, Try.ntmps49
  go_wp2_with fail
  generalize (w.alloc (.cells #[.slice none 0 0, .slice none 0 0, .slice none 0 0, .slice none 0 0, .slice none 0 0, .slice none 0 0] 80)).alloc (.cells #[.slice none 0 0, .slice none 0 0, .slice none 0 0, .slice none 0 0, .slice none 0 0, .slice none 0 0] 80) = V at *
  go_loopw [8] (fun u wr => ∃ (k : Nat) (pa : Nat → Option Addr) (pc : Nat → Nat), k ≤ l.length ∧ u = .int .i64 (k : Int) ∧ Hid (BG w wr (gof l) k pa pc)) (fun u _ => l.length - (intOf u).toNat)
  case atStart => exact ⟨0, _, _, Nat.zero_le _, rfl, s0⟩
  case round =>
    clear s0
    obtain ⟨k, pa, pc, hk, rfl, hs⟩ := hrel
    by_cases hlt : k < l.length
    · obtain ⟨x, hx, hxm⟩ := get_lt l k hlt
      obtain ⟨b0, o0, hix, hbl, hrg⟩ := ev_row (hlH.out.later hs.out.b) k x hx
      have hrgH : Hid (wr.rangeAt b0 o0 x.cells) := hrg
      have hkI : (k : Int) < l.length := by omega
      have hr0 := (hrH.out x hxm).1
      obtain ⟨gn, hgn⟩ : ∃ gn : Nat, (gn : Int) = x.go := ⟨x.go.toNat, by omega⟩
      have hg6 : gn < 6 := by omega
      have hgk : gof l k = gn := by
        have e1 := evf_at hlt
        rw [hx] at e1
        cases e1
        unfold gof
        omega
      have xS := ix_six (w.heap.size + 1) gn hg6
      have hbx := boxed wr (.cells x.cells.toArray 70)
      have c0 : (wr.alloc (.cells x.cells.toArray 70)).cell? ⟨wr.heap.size, 0, none⟩ = some (.int .i64 (gn : Int)) := by rw [hgn]; exact (boxE_new wr x).range 0 _ rfl
      have hs2 : Hid (BG w (wr.alloc (.cells x.cells.toArray 70)) (gof l) k pa pc) := hs.out.later hbx
      have hXlt : Hid (w.heap.size + 1 < wr.heap.size) := hs.out.lt
      have hsz2 : Hid ((wr.alloc (.cells x.cells.toArray 70)).heap.size = wr.heap.size + 1) := World.size_alloc _ _
      have hox : Hid (∀ a, a < 6 → ∀ g ∈ blk (pa a), g < wr.heap.size) := fun a ha g hg => (blk_lt (hs.out.o.ow a ha) g hg).2
      clear hrg hr0 hbl hbx hxm hx hs
      go_upto_region 5 with (first
        | (refine wpList_load_mid rfl 70 _ rfl b0 o0 rfl x.cells _ hrgH.out huE.out rfl hiE.out ?_)
        | (refine wpList_store_new rfl 70 _ _ rfl rfl _ x.cells.toArray rfl (by kernel_rfl) rfl (ev_one x) ?_))
      generalize hW : wr.alloc (.cells x.cells.toArray 70) = W2 at *
      clear hW
      have c1 : W2.cell? ⟨w.heap.size + 1, gn, none⟩ = some (.slice (pa gn) (plI (gof l) k gn).length (pc gn)) := cell_ofK hs2.out.s (sixC_at hg6)
      refine (wpIn_wide (n := 0)).1 ?_
      refine y_region (fun w' => w'.cell? ⟨wr.heap.size, 0, none⟩ = some (.int .i64 (gn : Int)) ∧ w'.cell? ⟨w.heap.size + 1, gn, none⟩ = some (.slice (pa gn) (plI (gof l) k gn).length (pc gn))) 10 (by kernel_rfl) ?_
      have hS : W2.drew.cell? ⟨wr.heap.size, 0, none⟩ = some (.int .i64 (gn : Int)) ∧ W2.drew.cell? ⟨w.heap.size + 1, gn, none⟩ = some (.slice (pa gn) (plI (gof l) k gn).length (pc gn)) := ⟨c0, c1⟩
      refine y_move (i := 0) rfl (by kernel_rfl) (by kernel_rfl) (by kernel_rfl) (by kernel_rfl) rfl (fun _ _ _ _ h => h) rfl (.pointer (some ⟨wr.heap.size, 0, none⟩)) (fun _ => by kernel_rfl) hS ?_
      simp only [Act.put, List.getElem_toArray, List.getElem_cons_succ, List.getElem_cons_zero, List.setIfInBounds_toArray, List.set_cons_zero, List.set_cons_succ]
      refine y_load1 (i := 1) rfl (by kernel_rfl) (by kernel_rfl) (by kernel_rfl) (by kernel_rfl) rfl (fun _ _ _ _ h => h) rfl 3 _ rfl ⟨wr.heap.size, 0, none⟩ rfl _ Try.underlying3 rfl (.int .i64 (gn : Int)) (fun w' h' => h'.1) hS ?_
      simp only [Act.put, List.getElem_toArray, List.getElem_cons_succ, List.getElem_cons_zero, List.setIfInBounds_toArray, List.set_cons_zero, List.set_cons_succ]
      refine y_move (i := 2) rfl (by kernel_rfl) (by kernel_rfl) (by kernel_rfl) (by kernel_rfl) rfl (fun _ _ _ _ h => h) rfl (.pointer (some ⟨wr.heap.size, 0, none⟩)) (fun _ => by kernel_rfl) hS ?_
      simp only [Act.put, List.getElem_toArray, List.getElem_cons_succ, List.getElem_cons_zero, List.setIfInBounds_toArray, List.set_cons_zero, List.set_cons_succ]
      refine y_load1 (i := 3) rfl (by kernel_rfl) (by kernel_rfl) (by kernel_rfl) (by kernel_rfl) rfl (fun _ _ _ _ h => h) rfl 3 _ rfl ⟨wr.heap.size, 0, none⟩ rfl _ Try.underlying3 rfl (.int .i64 (gn : Int)) (fun w' h' => h'.1) hS ?_
      simp only [Act.put, List.getElem_toArray, List.getElem_cons_succ, List.getElem_cons_zero, List.setIfInBounds_toArray, List.set_cons_zero, List.set_cons_succ]
      refine y_move (i := 4) rfl (by kernel_rfl) (by kernel_rfl) (by kernel_rfl) (by kernel_rfl) rfl (fun _ _ _ _ h => h) rfl (.pointer (some ⟨w.heap.size + 1, gn, none⟩)) (fun wx => by unfold execOp; exact run_value_of (xS wx)) hS ?_
      simp only [Act.put, List.getElem_toArray, List.getElem_cons_succ, List.getElem_cons_zero, List.setIfInBounds_toArray, List.set_cons_zero, List.set_cons_succ]
      refine y_load1 (i := 5) rfl (by kernel_rfl) (by kernel_rfl) (by kernel_rfl) (by kernel_rfl) rfl (fun _ _ _ _ h => h) rfl 39 _ rfl ⟨w.heap.size + 1, gn, none⟩ rfl _ Try.underlying39 rfl (.slice (pa gn) (plI (gof l) k gn).length (pc gn)) (fun w' h' => h'.2) hS ?_
      simp only [Act.put, List.getElem_toArray, List.getElem_cons_succ, List.getElem_cons_zero, List.setIfInBounds_toArray, List.set_cons_zero, List.set_cons_succ]
      refine y_move (i := 6) rfl (by kernel_rfl) (by kernel_rfl) (by kernel_rfl) (by kernel_rfl) rfl (fun _ _ _ _ h => h) rfl (.int .i64 (k : Int)) (fun _ => rfl) hS ?_
      simp only [Act.put, List.getElem_toArray, List.getElem_cons_succ, List.getElem_cons_zero, List.setIfInBounds_toArray, List.set_cons_zero, List.set_cons_succ]
      have hS3 : (W2.drew.alloc (.cells (chCells (k : Int)).toArray 3)).cell? ⟨wr.heap.size, 0, none⟩ = some (.int .i64 (gn : Int)) ∧ (W2.drew.alloc (.cells (chCells (k : Int)).toArray 3)).cell? ⟨w.heap.size + 1, gn, none⟩ = some (.slice (pa gn) (plI (gof l) k gn).length (pc gn)) := ⟨cell_later (boxed _ _) hS.1, cell_later (boxed _ _) hS.2⟩
      refine y_one (i := 7) (by kernel_rfl) rfl rfl rfl (wpList_buildSlice rfl 39 3 1 _ rfl (chCells (k : Int)).toArray iN _ Try.underlying39 hiN hzN (by rw [hsN]; omega) (by rw [hsN]; omega) (by simp only [hsN]; kernel_rfl) (wpList_nil (And.intro hS3 ?_)))
      simp only [Act.put, List.getElem_toArray, List.getElem_cons_succ, List.getElem_cons_zero, List.setIfInBounds_toArray, List.set_cons_zero, List.set_cons_succ]
      have hs2d : BG w W2.drew (gof l) k pa pc := hs2.out.later (bey_drew W2)
      refine y_one (i := 8) (by kernel_rfl) rfl rfl rfl (wpList_app1 (wr := W2.drew) rfl (.tmp 18) (.tmp 20) 39 rfl (w.heap.size + 2) 3 iN _ 1 8 Try.underlying39 hiN hzN hsN hbN rfl (by decide) (pa gn) (pc gn) ((plI (gof l) k gn).map chCells) (by rw [List.length_map]; rfl) (hs2d.o.ow gn hg6) (chCells (k : Int)) rfl rfl (one1u _) (by rw [List.length_map]; have := plI_len (gof l) k gn; unfold maxLen; omega) (by rw [List.length_map]; have := plI_len (gof l) k gn; omega) (by have := hs2d.lt; show w.heap.size + 2 ≤ W2.drew.heap.size; omega) ?_)
      intro va' vc' w8 g8
      rw [List.length_map]
      rw [← hgk] at g8
      obtain ⟨r8, s9⟩ := hs2d.put (by rw [hgk]; exact hg6) g8
      rw [hgk] at g8 s9
      have hS8 : w8.cell? ⟨wr.heap.size, 0, none⟩ = some (.int .i64 (gn : Int)) ∧ w8.cell? ⟨w.heap.size + 1, gn, none⟩ = some (.slice (pa gn) (plI (gof l) k gn).length (pc gn)) := ⟨by
        rw [cell_eqK (g8.kp wr.heap.size (by show _ < W2.heap.size; rw [hsz2.out]; omega) (fun q => by have := hox.out gn hg6 _ q; omega))]
        exact c0, cell_ofK r8 (sixC_at hg6)⟩
      refine wpList_nil (And.intro hS8 ?_)
      simp only [Act.put, List.getElem_toArray, List.getElem_cons_succ, List.getElem_cons_zero, List.setIfInBounds_toArray, List.set_cons_zero, List.set_cons_succ]
      refine y_move (i := 9) rfl (by kernel_rfl) (by kernel_rfl) (by kernel_rfl) (by kernel_rfl) rfl (fun _ _ _ _ h => h) rfl (.pointer (some ⟨w.heap.size + 1, gn, none⟩)) (fun wx => by unfold execOp; exact run_value_of (xS wx)) hS8 ?_
      simp only [Act.put, List.getElem_toArray, List.getElem_cons_succ, List.getElem_cons_zero, List.setIfInBounds_toArray, List.set_cons_zero, List.set_cons_succ]
      refine y_leave (by kernel_rfl) rfl rfl (wpList_puts rfl 39 _ _ rfl ⟨w.heap.size + 1, gn, none⟩ rfl va' ((plI (gof l) k gn).length + 1) vc' rfl (by kernel_rfl) _ hS8.2 (frozen_of_row _ _ _ _ _ r8) ?_)
      intro W9 hW9
      have s10 : Hid (BG w W9 (gof l) (k + 1) (updF pa gn va') (updF pc gn vc')) := by rw [hW9]; exact s9
      clear hW9 s9 r8 g8 hS8 hS3 hs2d hS c0 c1 hs2
      refine wpList_nil ?_
      simp only [Act.put, List.getElem_toArray, List.getElem_cons_succ, List.getElem_cons_zero, List.setIfInBounds_toArray, List.set_cons_zero, List.set_cons_succ]
      refine wpAnyIn_done (by kernel_rfl) ?_ _
      go_wp2_with fail
      go_roundw
      case rel => exact ⟨k + 1, _, _, by omega, by go_num, s10⟩
      case measure => simp [intOf]; omega
    · have hkI : ¬ ((k : Int) < l.length) := by omega
      have hke : k = l.length := by omega
      have hs1 : Hid (BG w wr (gof l) l.length pa pc) := by have := hs.out; rw [hke] at this; exact this
      have hO := hs1.out.s
      have hR := hs1.out.r
      clear hs hke
      go_wp2_with (first
        | (refine wpList_load_row rfl 80 _ rfl (w.heap.size + 1) rfl _ _ _ _ hO huS.out rfl (info6 _ _ _) ?_)
        | (refine wpList_store_row rfl 80 _ _ rfl w.heap.size (sixC pa pc fun a => plI (gof l) l.length a).toArray rfl rfl _ _ hR (info6 _ _ _) rfl (six_one _ _ _) ?_))
      have hl1 := hs1.out.lt
      refine bodyPost_ret (results_six Try.results49 _ _ w.heap.size (sixC pa pc fun a => plI (gof l) l.length a) rfl (setRow_heap wr w.heap.size _ _ _ _ hR) rfl) rfl ⟨pa, pc, rfl, ?_, hs1.out.b.trans (below_rowK (Nat.le_refl _))⟩
      have h6 : Six (wr.setRow w.heap.size (sixC pa pc fun a => plI (gof l) l.length a).toArray) (w.heap.size + 2) pa pc (fun a => plI (gof l) l.length a) := hs1.out.o.keep fun g q _ => setRow_other _ _ _ _ (by omega)
      exact ⟨fun a ha => own_mono_q (h6.ow a ha) (by omega), h6.ap⟩
end Go.Proofs.Ytkadlopcomjonaa.pg
/- What stands ahead of what: look and within of package canon. -/
namespace Go.Proofs.Ytkadlopcomjonaa.pg
open Go.ChangeShapes Go.WideShapes Go.ChangeAt Go.RowKit Go.Shelf
set_option linter.unusedVariables false
set_option linter.unusedSimpArgs false
set_option maxRecDepth 100000
/-- A trace's events, clocks and places, as they are told. -/
def pasC (la : Option Addr) (n lc : Nat) (ca : Option Addr) (cc : Nat) (pa : Nat → Option Addr) (pc : Nat → Nat) (L : Nat → List Int) : List Value :=
  [.slice la n lc, .slice ca n cc, slv pa pc L 0, slv pa pc L 1, slv pa pc L 2, slv pa pc L 3, slv pa pc L 4, slv pa pc L 5]
theorem pas_one (la : Option Addr) (n lc : Nat) (ca : Option Addr) (cc : Nat) (pa : Nat → Option Addr) (pc : Nat → Nat) (L : Nat → List Int) : (pasC la n lc ca cc pa pc L).toArray.all (·.oneCell') = true := by
  simp [pasC, slv, Value.oneCell']
theorem infoPa : (Try.prog.info? 82).map (·.size) = some 8 := by kernel_rfl
theorem bld_pas (la : Option Addr) (n lc : Nat) (ca : Option Addr) (cc : Nat) (pa : Nat → Option Addr) (pc : Nat → Nat) (L : Nat → List Int) (w : World) : (Instr.build 82 #[(0, .slice la n lc), (1, .slice ca n cc), (2, .agg (sixC pa pc L).toArray)]).run Try.prog w = .ok (.agg (pasC la n lc ca cc pa pc L).toArray) w := by kernel_rfl
theorem bld_pas0 (w : World) : (Instr.build 82 #[]).run Try.prog w = .ok (.agg #[.slice none 0 0, .slice none 0 0, .slice none 0 0, .slice none 0 0, .slice none 0 0, .slice none 0 0, .slice none 0 0, .slice none 0 0]) w := by kernel_rfl
theorem wpList_bldK {P : Program} {ops : Array Oper} {rest : List Oper} {o : Oper} {a : Act} {w : World} {Q : Exit → Act → World → Prop} (hgd : o.guard = none) (t : TypeId) (parts : Array (Nat × Operand)) (ho : o.op = .build t parts) (vs : Array (Nat × Value)) (hp : (parts.map fun (i, x) => (i, a.eval x)) = vs) (v : Value) (hr : ∀ w, (Instr.build t vs).run P w = .ok v w)
    (h : wpList P ops Q rest (a.put o.dst v) w) : wpList P ops Q (o :: rest) a w := wpList_plain hgd fun K hK => by
  unfold Oper.wp execOp
  simp only [ho, hp, Sem.run_bind, Sem.run_pure, Result.andThen_ok, hr]
  exact hK _ _ h
abbrev objPz : Obj := .cells #[.slice none 0 0, .slice none 0 0, .slice none 0 0, .slice none 0 0, .slice none 0 0, .slice none 0 0, .slice none 0 0, .slice none 0 0] 82
theorem results_pas {fn : Func} {p q : Tmp} (h : fn.results = #[.cell p 82, .tmp q]) (tmps : Array Value) (w : World) (B : Nat) (cs : Array Value) (v : Value) (hp : tmps.getD p undef = .pointer (some ⟨B, 0, none⟩)) (hq : tmps.getD q undef = v) (hs : cs.size = 8) (hB : w.heap[B]? = some (.cells cs 82)) :
    (results fn tmps).run Try.prog w = .ok (.tuple #[.agg cs, v]) w := by
  have hp' : tmps[p]?.getD undef = .pointer (some ⟨B, 0, none⟩) := by simpa using hp
  have hq' : tmps[q]?.getD undef = v := by simpa using hq
  simp [results, h, hp', hq', asAddr, run_loadVar_row w B _ 82 _ _ _ hB Try.underlying82 rfl (by rw [infoPa, hs])]
set_option maxHeartbeats 1000000 in
theorem klook_bad (l : List Ev) (la : Option Addr) (lc : Nat) (w : World) (hl : Rows w 26 la lc (l.map Ev.cells)) (c : Int) (hc : checkP l c) (h0 : c = 2 ∨ c = 7) :
    Calls Try.prog 44 #[.slice la l.length lc] w fun e w' => e = .returned (.tuple #[.agg #[.slice none 0 0, .slice none 0 0, .slice none 0 0, .slice none 0 0, .slice none 0 0, .slice none 0 0, .slice none 0 0, .slice none 0 0], .int .i64 c]) ∧ Below w.heap.size w w' := by
  have bx := boxed w objPz
  have hn := heap_alloc_new w objPz
  have c1 := clocks_bad l la lc (w.alloc objPz) (hl.later bx) c hc h0
  have d : (c != 0) = true := by rcases h0 with rfl | rfl <;> rfl
  clear hl hc h0
  go_enter Try.func44, Try.ntmps44
  go_wp2_with (first
    | (go_at_call 73; (with_reducible refine c1.mono ?_); rintro e w1 ⟨rfl, hb1⟩; (have hn1 : Hid (w1.heap[w.heap.size]? = some objPz) := (hb1.block _ (by rw [World.size_alloc]; omega)).trans hn); (have hbw1 : Hid (Below w.heap.size w w1) := bthen bx hb1); clear hb1 c1 bx hn)
    | (refine wpList_bldK rfl 82 _ rfl _ (by simp) _ bld_pas0 ?_)
    | (refine wpList_store_row rfl 82 _ _ rfl w.heap.size _ rfl rfl _ _ hn1.out infoPa rfl (by simp [Value.oneCell']) ?_))
  exact bodyPost_ret (results_pas Try.results44 _ _ w.heap.size _ _ rfl rfl rfl (setRow_heap _ w.heap.size _ _ _ _ hn1.out)) rfl ⟨rfl, below_setRow hbw1.out (Nat.le_refl _) _⟩
/-- What look leaves. -/
structure Pst (w' : World) (lo : Nat) (l : List Ev) (ca : Option Addr) (cc : Nat) (pa : Nat → Option Addr) (pc : Nat → Nat) : Prop where
  c : OwnL w' lo 86 6 ca cc ((rel (evf l) l.length).1.map Ck.cells)
  p : Six w' lo pa pc fun a => plI (gof l) l.length a
theorem Pst.later {w w' : World} {lo : Nat} {l : List Ev} {ca : Option Addr} {cc : Nat} {pa : Nat → Option Addr} {pc : Nat → Nat} (h : Pst w lo l ca cc pa pc) (hb : Below w.heap.size w w') : Pst w' lo l ca cc pa pc :=
  ⟨own_keep h.c fun g hg => hb.block g (blk_lt h.c g hg).2, h.p.later hb⟩
theorem Six.mono {W : World} {lo lo2 : Nat} {pa : Nat → Option Addr} {pc : Nat → Nat} {L : Nat → List Int} (h : Six W lo pa pc L) (hl : lo2 ≤ lo) : Six W lo2 pa pc L := ⟨fun a ha => own_mono_q (h.ow a ha) hl, h.ap⟩
abbrev pasV (l : List Ev) (la : Option Addr) (lc : Nat) (ca : Option Addr) (cc : Nat) (pa : Nat → Option Addr) (pc : Nat → Nat) : List Value := pasC la l.length lc ca cc pa pc fun a => plI (gof l) l.length a
set_option maxHeartbeats 1000000 in
theorem klook_ok (l : List Ev) (la : Option Addr) (lc : Nat) (w : World) (hl : Rows w 26 la lc (l.map Ev.cells)) (hlen : l.length ≤ 256) (hrt : ∀ x ∈ l, rightP x) :
    Calls Try.prog 44 #[.slice la l.length lc] w fun e w' => ∃ ca cc pa pc, e = .returned (.tuple #[.agg (pasV l la lc ca cc pa pc).toArray, .int .i64 0]) ∧ Pst w' w.heap.size l ca cc pa pc ∧ Below w.heap.size w w' := by
  have bx := boxed w objPz
  have hn := heap_alloc_new w objPz
  have c1 := clocks_ok l la lc (w.alloc objPz) (hl.later bx) hlen hrt
  have c2 : Hid (∀ V, Below w.heap.size w V → Calls Try.prog 49 #[.slice la l.length lc] V fun e w' => ∃ pa pc, e = .returned (.agg #[slv pa pc (fun a => plI (gof l) l.length a) 0, slv pa pc (fun a => plI (gof l) l.length a) 1, slv pa pc (fun a => plI (gof l) l.length a) 2, slv pa pc (fun a => plI (gof l) l.length a) 3, slv pa pc (fun a => plI (gof l) l.length a) 4, slv pa pc (fun a => plI (gof l) l.length a) 5]) ∧ Six w' V.heap.size pa pc (fun a => plI (gof l) l.length a) ∧ Below V.heap.size V w') := fun V hV => byGo_any l la lc V (hl.later hV) hlen hrt
  have hsz : (w.alloc objPz).heap.size = w.heap.size + 1 := World.size_alloc _ _
  have hszH : Hid ((w.alloc objPz).heap.size = w.heap.size + 1) := hsz
  clear hl hrt hsz
  go_enter Try.func44, Try.ntmps44
  go_wp2_with (first
    | (go_at_call 73; (with_reducible refine c1.mono ?_); rintro e w1 ⟨ca, cc, rfl, ow1, hb1⟩; (have hn1 : Hid (w1.heap[w.heap.size]? = some objPz) := (hb1.block _ (by rw [hszH.out]; omega)).trans hn); (have hbw1 : Hid (Below w.heap.size w w1) := bthen bx hb1); (have owH : Hid (OwnL w1 (w.alloc objPz).heap.size 86 6 ca cc ((rel (evf l) l.length).1.map Ck.cells)) := ow1); (have x2 := c2.out w1 hbw1.out); clear hb1 c1 bx hn ow1)
    | (go_at_call 49; (refine x2.mono ?_); rintro e w2 ⟨pa, pc, rfl, hs2, hb2⟩; (have hn2 : Hid (w2.heap[w.heap.size]? = some objPz) := (hb2.block _ (Array.getElem?_eq_some_iff.mp hn1.out).1).trans hn1.out); (have hsH : Hid (Six w2 w1.heap.size pa pc fun a => plI (gof l) l.length a) := hs2); (have hbw2 : Hid (Below w.heap.size w w2 ∧ Below w1.heap.size w1 w2) := ⟨bthen hbw1.out hb2, hb2⟩); clear hs2 hb2 x2)
    | (refine wpList_store_row rfl 82 _ _ rfl w.heap.size _ rfl rfl _ _ hn2.out infoPa rfl (pas_one _ _ _ _ _ _ _ _) ?_))
  have h1 := (Array.getElem?_eq_some_iff.mp hn1.out).1
  have h2 : Pst (w2.setRow w.heap.size (pasC la l.length lc ca cc pa pc fun a => plI (gof l) l.length a).toArray) (w.heap.size + 1) l ca cc pa pc := by
    refine ⟨?_, ?_⟩
    · have h3 := owH.out
      rw [hszH.out] at h3
      refine own_keep h3 fun g hg => (setRow_other _ _ _ _ ?_).trans (hbw2.out.2.block g (blk_lt h3 g hg).2)
      have := (blk_lt h3 g hg).1; omega
    · exact (hsH.out.mono (by omega)).keep fun g q _ => setRow_other _ _ _ _ (by omega)
  refine bodyPost_ret (results_pas Try.results44 _ _ w.heap.size (pasV l la lc ca cc pa pc).toArray (.int .i64 0) rfl rfl rfl (setRow_heap w2 w.heap.size _ _ _ _ hn2.out)) rfl ?_
  exact ⟨ca, cc, pa, pc, rfl, ⟨own_mono_q h2.c (by omega), h2.p.mono (by omega)⟩, below_setRow hbw2.out.1 (Nat.le_refl _) _⟩
theorem range_later {w w' : World} {b o : Nat} {cs : List Value} (h : w.rangeAt b o cs) (hl : b < w.heap.size) (hb : Below w.heap.size w w') : w'.rangeAt b o cs := fun j v hj => cell_later hb (h j v hj)
/-- Is a clock nowhere above another one? -/
def leKb (x y : Ck) (m : Nat) : Bool := (List.range m).all fun a => decide (x.of a ≤ y.of a)
theorem leKb_more (x y : Ck) (m : Nat) : leKb x y (m + 1) = (leKb x y m && decide (x.of m ≤ y.of m)) := by
  unfold leKb
  rw [List.range_succ, List.all_append]
  simp
theorem leKb_stop {x y : Ck} {m : Nat} (h : ¬ x.of m ≤ y.of m) : ∀ k, m < k → leKb x y k = false
  | 0, q => by omega
  | k + 1, q => by
    rw [leKb_more]
    by_cases e : m = k
    · subst e; simp [h]
    · rw [leKb_stop h k (by omega)]; rfl
set_option maxHeartbeats 2000000 in
theorem within_any (l : List Ev) (la : Option Addr) (lc : Nat) (C : List Ck) (ca : Option Addr) (cc : Nat) (pa : Nat → Option Addr) (pc : Nat → Nat) (L : Nat → List Int) (i : Nat) (c : Ck) (w : World) (hl : Rows w 26 la lc (l.map Ev.cells)) (hC : Rows w 6 ca cc (C.map Ck.cells)) (hCl : C.length = l.length) (hi : i < l.length) (x : Ck) (hx : C[i]? = some x) (gn : Nat) (hgn : (gn : Int) = (evf l i).go) (hg6 : gn < 6) (hc : 0 ≤ c.of gn ∧ c.of gn ≤ 1000) :
    Calls Try.prog 75 #[.agg (pasC la l.length lc ca cc pa pc L).toArray, .int .i64 (i : Int), c.val] w fun e w' => e = .returned (.bool (leKb x (tk c gn) 6)) ∧ Below w.heap.size w w' := by
  obtain ⟨n0, n1⟩ := two6 w (.cells (pasC la l.length lc ca cc pa pc L).toArray 82) (objK c)
  have hb := boxed2w w (.cells (pasC la l.length lc ca cc pa pc L).toArray 82) (objK c)
  have hK : InB ((w.alloc (.cells (pasC la l.length lc ca cc pa pc L).toArray 82)).alloc (objK c)) (w.heap.size + 1) c := n1
  obtain ⟨b0, o0, hix, hbl, hrg⟩ := ev_row (hl.later hb) i (evf l i) (evf_at hi)
  obtain ⟨b1, o1, hjx, hcl, hcg0⟩ := hC.ix 79 86 Try.underlying79 (by kernel_rfl) (fun wx => Try.sizeOf86 wx) i (row := x.cells) (by simp [hx])
  rw [List.length_map, hCl] at hjx
  have e0 : ((w.alloc (.cells (pasC la l.length lc ca cc pa pc L).toArray 82)).alloc (objK c)).cell? ⟨b0, o0, none⟩ = some (.int .i64 (gn : Int)) := by rw [hgn]; exact hrg 0 _ rfl
  have k0 := cell_ofK (k := 0) n0 (v := .slice la l.length lc) rfl
  have xg := ck_at (w.heap.size + 1) gn hg6
  obtain ⟨_, hof⟩ := of_mem (x := c) hg6
  obtain ⟨cg, fg⟩ := hK.cell hof
  have hK2 : Hid (InB (((w.alloc (.cells (pasC la l.length lc ca cc pa pc L).toArray 82)).alloc (objK c)).setCell ⟨w.heap.size + 1, gn, none⟩ (.int .i64 (c.of gn + 1))) (w.heap.size + 1) (tk c gn)) := hK.put hg6 (c.of gn + 1)
  have hw1 : wrap64 (c.of gn + 1) = c.of gn + 1 := by unfold wrap64; omega
  have hB2 : Hid (Below w.heap.size w (((w.alloc (.cells (pasC la l.length lc ca cc pa pc L).toArray 82)).alloc (objK c)).setCell ⟨w.heap.size + 1, gn, none⟩ (.int .i64 (c.of gn + 1)))) := hb.setCell (p := ⟨w.heap.size + 1, gn, none⟩) (by show w.heap.size ≤ w.heap.size + 1; omega) _
  have hn2 : Hid ((((w.alloc (.cells (pasC la l.length lc ca cc pa pc L).toArray 82)).alloc (objK c)).setCell ⟨w.heap.size + 1, gn, none⟩ (.int .i64 (c.of gn + 1))).heap[w.heap.size]? = some (.cells (pasC la l.length lc ca cc pa pc L).toArray 82)) := (Below.heap_setCell _ _ _ _ (by show w.heap.size ≠ w.heap.size + 1; omega)).trans n0
  have hiI : (i : Int) < l.length := by omega
  have huK : Hid (Try.prog.underlying 86 = _) := Try.underlying86
  have hlI := rows_len hl
  have hcgH : Hid (w.rangeAt b1 o1 x.cells ∧ b1 < w.heap.size) := ⟨hcg0, hcl⟩
  clear hK n0 n1 hrg hbl hof hl hC hCl hx hb hcg0 hcl hgn
  generalize hcn : c.of gn = cn at *
  go_enter Try.func75, Try.ntmps75
  go_upto_region 1 with fail
  generalize (w.alloc (.cells (pasC la l.length lc ca cc pa pc L).toArray 82)).alloc (objK c) = V at *
  go_upto_region 2 with fail
  clear k0 e0 cg fg xg hix
  generalize V.setCell ⟨w.heap.size + 1, gn, none⟩ (.int .i64 (cn + 1)) = W at *
  have k1 := cell_ofK (k := 1) hn2.out (v := .slice ca l.length cc) rfl
  have hrgW : Hid (W.rangeAt b1 o1 x.cells) := range_later hcgH.out.1 hcgH.out.2 hB2.out
  go_wp2_with (refine wpList_load_mid rfl 86 _ rfl b1 o1 rfl x.cells _ hrgW.out huK.out rfl (by kernel_rfl) ?_)
  clear k1 hjx hrgW
  go_loopw [24] (fun u wr => ∃ k : Nat, k ≤ 6 ∧ u = .int .i64 (k : Int) ∧ Hid (InB wr (w.heap.size + 1) (tk c gn) ∧ Below w.heap.size w wr ∧ leKb x (tk c gn) k = true)) (fun u _ => 6 - (intOf u).toNat)
  case atStart => exact ⟨0, Nat.zero_le _, rfl, hK2.out, hB2.out, rfl⟩
  case round =>
    clear hK2 hB2 hn2
    obtain ⟨k, hk, rfl, hs⟩ := hrel
    by_cases hlt : k < 6
    · have hkI : (k : Int) < 6 := by omega
      obtain ⟨_, hxk⟩ := of_mem (x := x) hlt
      have xk : ∀ wx, (Instr.index 86 (.agg x.cells.toArray) (.int .i64 (k : Int))).run Try.prog wx = .ok (.int .i64 (x.of k)) wx := ck_ix x k _ hxk
      obtain ⟨_, hck⟩ := of_mem (x := tk c gn) hlt
      obtain ⟨ck2, _⟩ := hs.out.1.cell hck
      have xa := ck_at (w.heap.size + 1) k hlt
      have hm := leKb_more x (tk c gn) k
      rw [hs.out.2.2, Bool.true_and] at hm
      have hmH : Hid (leKb x (tk c gn) (k + 1) = decide (x.of k ≤ (tk c gn).of k)) := hm
      have hst : Hid (¬ x.of k ≤ (tk c gn).of k → leKb x (tk c gn) 6 = false) := fun q => leKb_stop q 6 hlt
      clear hm hxk hck
      generalize x.of k = xv at *
      generalize (tk c gn).of k = cv at *
      by_cases hle : xv ≤ cv
      · have d1 : decide (cv < xv) = false := decide_eq_false (by omega)
        have hs2 : Hid (InB wr (w.heap.size + 1) (tk c gn) ∧ Below w.heap.size w wr ∧ leKb x (tk c gn) (k + 1) = true) := ⟨hs.out.1, hs.out.2.1, by rw [hmH.out]; exact decide_eq_true hle⟩
        clear hs hmH hle hst
        go_wp2_with fail
        go_roundw
        case rel => exact ⟨k + 1, by omega, by go_num, hs2⟩
        case measure => simp [intOf]; omega
      · have d1 : decide (cv < xv) = true := decide_eq_true (by omega)
        have hfin := hst.out hle
        have hfH : Hid (leKb x (tk c gn) 6 = false) := hfin
        clear hfin hst hmH hle
        go_wp2_with fail
        go_ret
        exact ⟨by rw [hfH.out]; rfl, hs.out.2.1⟩
    · have hkI : ¬ ((k : Int) < 6) := by omega
      have hke : k = 6 := by omega
      have hfH : Hid (leKb x (tk c gn) 6 = true) := by have := hs.out.2.2; rw [hke] at this; exact this
      clear hke
      go_wp2_with fail
      go_ret
      exact ⟨by rw [hfH.out]; rfl, hs.out.2.1⟩
end Go.Proofs.Ytkadlopcomjonaa.pg
