/- The functions that may be run, in the document's words: plain. -/
import Derived.Test.YtlcljdldhajkiaaDoorM23
import Derived.Test.YtlcljdldhajkiaaDoorM24
import Derived.Test.YtlcljdldhajkiaaDoorM19
namespace Go.Proofs.YtlcljdldhajkiaaDoor.pg
open Go.ChangeShapes Go.WideShapes Go.ChangeAt Go.RowKit Go.Shelf
set_option linter.unusedVariables false
set_option linter.unusedSimpArgs false
set_option maxRecDepth 100000
/-- The least closed one is there. -/
theorem least_ex (f : Fn) (L : Int → Bool) (s : Nat → Bool) : ∃ R, Least f L s R := by
  classical
  refine ⟨fun k => decide (∀ R' : Nat → Bool, (∀ j, s j = true → R' j = true) → closedF f L R' → R' k = true), fun k h => decide_eq_true fun R' h1 _ => h1 k h, fun pc hp hr hl x hx => decide_eq_true fun R' h1 h2 => h2 pc hp ((of_decide_eq_true hr) R' h1 h2) hl x hx, fun R' h1 h2 k h => (of_decide_eq_true h) R' h1 h2⟩
/-- What is known of the functions that are marked. -/
structure FnI (fns : List Fn) (run : Nat → Bool) : Prop where
  z : run 0 = true
  lo : ∀ R', R' 0 0 = true → ClosedP fns R' → ∀ b, run b = true → R' b 0 = true
  tn : ∀ b, run b = true → b < fns.length
/-- All that a marked function spawns is marked. -/
def FnC (fns : List Fn) (run : Nat → Bool) (g : Nat) : Prop := ∀ (a : Nat) (F : Fn) (S : Nat → Bool), a < g → fns[a]? = some F → run a = true → Least F alw (onePl 0) S → ∀ k, k < F.code.length → S k = true → (insAt F.code k).op = 62 → run (insAt F.code k).b.toNat = true
theorem FnI.first {fns : List Fn} (h : 0 < fns.length) : FnI fns (onePl 0) := ⟨by simp [onePl], fun R' h1 _ b q => by
  have : b = 0 := by simpa [onePl] using q
  rw [this]; exact h1, fun b q => by
  have : b = 0 := by simpa [onePl] using q
  omega⟩
/-- One more is marked. -/
theorem FnI.more {fns : List Fn} {run : Nat → Bool} (h : FnI fns run) {a k : Nat} {F : Fn} {S : Nat → Bool} (hF : fns[a]? = some F) (ha : run a = true) (hS : Least F alw (onePl 0) S) (hk : k < F.code.length) (hs : S k = true) (ho : (insAt F.code k).op = 62) (hb : (insAt F.code k).b.toNat < fns.length) : FnI fns (fun b => if b = (insAt F.code k).b.toNat then true else run b) := by
  refine ⟨?_, fun R' h1 h2 b q => ?_, fun b q => ?_⟩
  · show (if 0 = _ then true else run 0) = true
    split
    · rfl
    · exact h.z
  · split at q
    · rename_i e
      rw [e]
      exact h2.s a F hF k hk (hS.le (R' a) (fun j hj => by
        have : j = 0 := by simpa [onePl] using hj
        rw [this]; exact h.lo R' h1 h2 a ha) (h2.c a F hF) k hs) ho
    · exact h.lo R' h1 h2 b q
  · split at q
    · rename_i e
      rw [e]; exact hb
    · exact h.tn b q
/-- At the end: the same as what may be come to. -/
theorem FnI.same {fns : List Fn} {run : Nat → Bool} (h : FnI fns run) (hc : FnC fns run fns.length) {R : Nat → Nat → Bool} (hR : LeastP fns 0 0 R) (g : Nat) : run g = R g 0 := by
  classical
  have hex : ∀ a : Nat, ∃ S : Nat → Bool, ∀ F : Fn, fns[a]? = some F → Least F alw (onePl 0) S := fun a => by
    cases e : fns[a]? with
    | none => exact ⟨fun _ => false, fun F h => by cases h⟩
    | some F =>
      obtain ⟨S, hS⟩ := least_ex F alw (onePl 0)
      exact ⟨S, fun F' h => by cases h; exact hS⟩
  obtain ⟨S, hS⟩ : ∃ S : Nat → Nat → Bool, ∀ (a : Nat) (F : Fn), fns[a]? = some F → Least F alw (onePl 0) (S a) := ⟨fun a => Classical.choose (hex a), fun a F q => Classical.choose_spec (hex a) F q⟩
  have hcl : ClosedP fns (fun a k => run a && S a k) := by
    refine ⟨fun a F hF pc hp hr hl x hx => ?_, fun a F hF pc hp hr ho => ?_⟩
    · simp only [Bool.and_eq_true] at hr ⊢
      exact ⟨hr.1, (hS a F hF).cl pc hp hr.2 hl x hx⟩
    · simp only [Bool.and_eq_true] at hr ⊢
      have hlt := (List.getElem?_eq_some_iff.mp hF).1
      have h1 := hc a F (S a) hlt hF hr.1 (hS a F hF) pc hp hr.2 ho
      obtain ⟨G, hG⟩ : ∃ G, fns[(insAt F.code pc).b.toNat]? = some G := ⟨_, List.getElem?_eq_getElem (h.tn _ h1)⟩
      exact ⟨h1, (hS _ G hG).up 0 (by simp [onePl])⟩
  have h0 : (fun a k => run a && S a k) 0 0 = true := by
    have hl := h.tn 0 h.z
    obtain ⟨G, hG⟩ : ∃ G, fns[0]? = some G := ⟨_, List.getElem?_eq_getElem hl⟩
    show (run 0 && S 0 0) = true
    rw [h.z, (hS 0 G hG).up 0 (by simp [onePl])]
    rfl
  rw [Bool.eq_iff_iff]
  constructor
  · exact fun q => h.lo R hR.up hR.cl g q
  · intro q
    have := hR.le _ h0 hcl g 0 q
    simp only [Bool.and_eq_true] at this
    exact this.1
end Go.Proofs.YtlcljdldhajkiaaDoor.pg
/- The document's Funcs. -/
namespace Go.Proofs.YtlcljdldhajkiaaDoor.pg
open Go.ChangeShapes Go.WideShapes Go.ChangeAt Go.RowKit Go.Shelf
set_option linter.unusedVariables false
set_option linter.unusedSimpArgs false
set_option maxRecDepth 100000
structure FuW (w W : World) (M : MPr) (n : Nat) (run : Nat → Bool) : Prop where
  b : Below w.heap.size w W
  p : BoxP W w.heap.size M
  t : Bl W (w.heap.size + 1) (w.heap.size + 1) n n run
theorem FuW.later {w W W' : World} {M : MPr} {n : Nat} {run : Nat → Bool} (h : FuW w W M n run) (hb : Below W.heap.size W W') : FuW w W' M n run := ⟨bthen h.b hb, h.p.later hb, h.t.later hb⟩
theorem FuW.set {w W : World} {M : MPr} {n : Nat} {run : Nat → Bool} (h : FuW w W M n run) {j : Nat} (hj : j < n) : FuW w (W.setCell ⟨w.heap.size + 1, j, none⟩ (.bool true)) M n (fun b => if b = j then true else run b) := by
  have hp : (W.setCell ⟨w.heap.size + 1, j, none⟩ (.bool true)).heap[w.heap.size]? = W.heap[w.heap.size]? := heap_setCell_other W ⟨w.heap.size + 1, j, none⟩ w.heap.size _ (by show w.heap.size ≠ w.heap.size + 1; omega)
  exact ⟨h.b.setCell (p := ⟨w.heap.size + 1, j, none⟩) (by show w.heap.size ≤ w.heap.size + 1; omega) _, ⟨cell_keepQ h.p.1 hp, cell_keepQ h.p.2.1 hp, cell_keepQ h.p.2.2.1 hp, cell_keepQ h.p.2.2.2 hp⟩, h.t.set hj true⟩
theorem FuW.set0 {w W : World} {M : MPr} {n : Nat} (h1 : Below w.heap.size w W) (h2 : BoxP W w.heap.size M) (h3 : Bl W (w.heap.size + 1) (w.heap.size + 1) n n fun _ => false) (hn : 0 < n) : FuW w (W.setCell ⟨w.heap.size + 1, 0, none⟩ (.bool true)) M n (onePl 0) := by
  have h := FuW.set (M := M) ⟨h1, h2, h3⟩ hn
  have e : (fun b => if b = 0 then true else (fun _ : Nat => false) b) = onePl 0 := by
    funext b
    unfold onePl
    by_cases c : b = 0 <;> simp [c]
  rw [e] at h
  exact h
/-- A pass, so far: no fewer are marked, and more if it says so. -/
structure FuP (n : Nat) (run r : Nat → Bool) (tb : Bool) : Prop where
  up : ∀ b, run b = true → r b = true
  lt : tb = true → miss r n < miss run n
theorem FuP.refl (n : Nat) (run : Nat → Bool) : FuP n run run false := ⟨fun _ q => q, fun q => by cases q⟩
theorem FuP.more {n : Nat} {run r : Nat → Bool} {tb : Bool} (h : FuP n run r tb) {j : Nat} (hj : j < n) (hr : r j = false) : FuP n run (fun b => if b = j then true else r b) true := by
  have hu : ∀ b, r b = true → (fun b => if b = j then true else r b) b = true := fun b q => by
    show (if b = j then true else r b) = true
    split
    · rfl
    · exact q
  refine ⟨fun b q => hu b (h.up b q), fun _ => ?_⟩
  have h1 := miss_le h.up n
  have h2 := miss_lt hu n ⟨j, hj, by show (if j = j then true else r j) ≠ r j; rw [if_pos rfl, hr]; simp⟩
  omega
set_option maxHeartbeats 8000000 in
theorem rFuncs_any (M : MPr) (w : World) (hM : M.lies w) (hok : (chk insP M.pr).1 = 0) :
    Calls Tryd.prog 20 #[M.val] w fun e w' => ∃ run va vc, e = .returned (.slice va (lst run M.fns.length).length vc) ∧ FnI M.pr.fns run ∧ FnC M.pr.fns run M.pr.fns.length ∧ Rows w' 1 va vc ((lst run M.fns.length).map chCells) ∧ Below w.heap.size w w' ∧ (∀ b ∈ blk va, w.heap.size ≤ b) := by
  obtain ⟨iB, hiB', hzB', hsB', hbB'⟩ := info_q infoBl
  have hiB : Hid (Tryd.prog.info? 4 = some iB) := hiB'
  have hzB : Hid _ := hzB'
  have hsB : Hid _ := hsB'
  have hbB : Hid _ := hbB'
  clear hiB' hzB' hsB' hbB'
  have hMH : Hid (M.lies w) := hM
  have hn8 : M.fns.length ≤ 8 ∧ 1 ≤ M.fns.length := by (have := (sizes_ok (sizes_of hok)).2.2.2; have e : M.pr.fns.length = M.fns.length := List.length_map _; omega)
  have hnE : Hid (M.pr.fns.length = M.fns.length) := List.length_map _
  have hm : ∀ F ∈ M.fns, F.fn ∈ M.pr.fns := fun F h => List.mem_map.mpr ⟨F, h, rfl⟩
  have hfl : Hid (∀ F ∈ M.fns, FlowF F.fn) := fun F h => flow_of hok F.fn (hm F h)
  have hch : Hid (∀ F ∈ M.fns, ∀ i ∈ F.code, i.op = 62 → 0 ≤ i.b ∧ i.b < M.fns.length) := fun F h i hi q => by (have := sp_lt hok (hm F h) (i := i) hi q; rw [hnE.out] at this; exact this)
  have hFnH : Hid (∀ (g : Nat) (F : MFn), M.fns[g]? = some F → M.pr.fns[g]? = some F.fn) := fun g F h => by (show (M.fns.map MFn.fn)[g]? = _; rw [List.getElem?_map, h]; rfl)
  have cR : Hid (∀ V, Below w.heap.size w V → ∀ (g : Nat) (F : MFn), M.fns[g]? = some F → Calls Tryd.prog 32 #[M.val, .int .i64 (g : Int), .int .i64 0] V _) := fun V hV g F hF => rreach_own M g 0 V (hMH.out.later hV) F (by rw [Int.toNat_natCast]; exact hF) (hfl.out F (List.mem_of_getElem? hF)) (by omega) (hfl.out F (List.mem_of_getElem? hF)).l1
  have bP := boxP_new w M
  have hbH : Hid (Below w.heap.size w (w.alloc (objP M)) ∧ BoxP (w.alloc (objP M)) w.heap.size M) := ⟨boxed w (objP M), bP⟩
  clear hM hok hm
  go_enter Tryd.func20, Tryd.ntmps20
  obtain ⟨p0, p1, p2, p3⟩ := bP
  go_upto_region 2 with (refine wpList_mk _ rfl _ _ 79 rfl 4 iB _ Tryd.underlying79 hiB.out hzB.out rfl hsB.out M.fns.length rfl rfl (by rw [hbB.out]; omega) (by omega) ?_; intro w2 hn2 hb2 hs2)
  rw [World.size_alloc] at hn2 hs2
  have hBl : Hid (Bl w2 (w.heap.size + 1) (w.heap.size + 1) M.fns.length M.fns.length fun _ => false) := bl_new hn2 (by omega) (by omega)
  have h2 : Hid (Below w.heap.size w w2 ∧ BoxP w2 w.heap.size M) := ⟨bthen hbH.out.1 hb2, hbH.out.2.later hb2⟩
  try simp only [World.size_alloc]
  clear hn2 hb2 hs2 p0 p1 p2 p3
  have x0 : ∀ wx, (Instr.indexAt 79 (.slice (some ⟨w.heap.size + 1, 0, none⟩) M.fns.length M.fns.length) (.int .i64 0)).run Tryd.prog wx = .ok (.pointer (some ⟨w.heap.size + 1, 0, none⟩)) wx := ix_bl (w.heap.size + 1) M.fns.length M.fns.length 0 (by omega)
  have cB : w2.cell? ⟨w.heap.size + 1, 0, none⟩ = some (.bool false) := (hBl.out.cell (j := 0) (by omega)).1
  have fB : w2.frozen? ⟨w.heap.size + 1, 0, none⟩ = false := (hBl.out.cell (j := 0) (by omega)).2
  have nx : Hid (∀ W', W' = w2.setCell ⟨w.heap.size + 1, 0, none⟩ (.bool true) → FuW w W' M M.fns.length (onePl 0) ∧ FnI M.pr.fns (onePl 0)) := fun W' e => by
    rw [e]
    refine ⟨FuW.set0 h2.out.1 h2.out.2 hBl.out (by omega), FnI.first (by rw [hnE.out]; omega)⟩
  go_upto_region 4 with ((with_reducible refine at_storeQ 4 _ _ rfl ?_); refine stopQ_out ?_; refine wpList_putb rfl 4 _ _ rfl ⟨w.heap.size + 1, 0, none⟩ rfl true rfl (by kernel_rfl) _ cB fB ?_; intro W1 hW1; (have h1 : Hid (FuW w W1 M M.fns.length (onePl 0) ∧ FnI M.pr.fns (onePl 0)) := nx.out W1 hW1); clear hW1 cB fB nx)
  clear x0 h2 hBl
  go_loopw [4] (fun m wr => ∃ (tb : Bool) (run : Nat → Bool), m = .bool tb ∧ Hid (FuW w wr M M.fns.length run ∧ FnI M.pr.fns run ∧ (tb = false → FnC M.pr.fns run M.pr.fns.length))) (fun m wr => 2 * missB (w.heap.size + 1) M.fns.length wr + tN m)
  case atStart => exact ⟨true, _, rfl, h1.out.1, h1.out.2, fun q => by cases q⟩
  case round =>
    clear h1
    obtain ⟨tb, run, rfl, hs⟩ := hrel
    cases tb with
    | false =>
      have xL := rplaces_any M.fns.length (w.heap.size + 1) M.fns.length (w.heap.size + 1) run wr hs.out.1.t (by omega)
      go_wp2_with (go_at_call 41; (with_reducible refine xL.mono ?_); rintro e w3 ⟨va, vc, rfl, hL⟩; (have hLH : Hid (LsS wr (lst run M.fns.length) va vc w3) := hL); clear hL xL)
      go_ret
      exact ⟨run, va, vc, rfl, hs.out.2.1, hs.out.2.2 (by first | rfl | trivial), hLH.out.rows, bthen hs.out.1.b hLH.out.be, fun b q => by have h1 := (blk_lt hLH.out.ow b q).1; have h2 := hs.out.1.b.size; omega⟩
    | true =>
      have hms : Hid (missB (w.heap.size + 1) M.fns.length wr = miss run M.fns.length) := missB_is hs.out.1.t
      have h0 : Hid (FuW w wr M M.fns.length run ∧ FnI M.pr.fns run) := ⟨hs.out.1, hs.out.2.1⟩
      clear hs
      go_wp2_with fail
      go_loopw [4, 5] (fun m u wr => ∃ (tb : Bool) (r : Nat → Bool) (g : Nat), g ≤ M.fns.length ∧ m = .bool tb ∧ u = .int .i64 (g : Int) ∧ Hid (FuW w wr M M.fns.length r ∧ FnI M.pr.fns r ∧ FuP M.fns.length run r tb ∧ (tb = false → FnC M.pr.fns r g))) (fun _ u _ => M.fns.length - (intOf u).toNat)
      case atStart => exact ⟨false, run, 0, Nat.zero_le _, rfl, rfl, h0.out.1, h0.out.2, FuP.refl _ _, fun _ a F S ha => absurd ha (Nat.not_lt_zero _)⟩
      case round =>
        clear h0
        obtain ⟨tb, r, g, hg, rfl, rfl, hs⟩ := hrel
        by_cases hlt : g < M.fns.length
        · have hgI : (g : Int) < M.fns.length := by omega
          have xT := ix_bl (w.heap.size + 1) M.fns.length M.fns.length g hlt
          have cT : wr.cell? ⟨w.heap.size + 1, g, none⟩ = some (.bool (r g)) := (hs.out.1.t.cell hlt).1
          obtain ⟨rb, hrb⟩ : ∃ rb, r g = rb := ⟨_, rfl⟩
          rw [hrb] at cT
          cases rb with
          | false =>
            have hq : Hid (FuW w wr M M.fns.length r ∧ FnI M.pr.fns r ∧ FuP M.fns.length run r tb ∧ (tb = false → FnC M.pr.fns r (g + 1))) := ⟨hs.out.1, hs.out.2.1, hs.out.2.2.1, fun q a F S ha hF hra => by
              by_cases e : a = g
              · subst e; rw [hrb] at hra; cases hra
              · exact hs.out.2.2.2 q a F S (by omega) hF hra⟩
            clear hs
            go_wp2
            go_roundw
            case rel => exact ⟨tb, r, g + 1, by omega, rfl, by go_num, hq.out⟩
            case measure => simp [intOf]; omega
          | true =>
            obtain ⟨G, hG⟩ : ∃ G, M.fns[g]? = some G := ⟨_, List.getElem?_eq_getElem hlt⟩
            have xR := cR.out wr hs.out.1.b g G hG
            obtain ⟨p0, p1, p2, p3⟩ := hs.out.1.p
            go_upto_region 11 with (go_at_call 32; (with_reducible refine xR.mono ?_); rintro e w4 ⟨S, pa, pc, rfl, hS, hSo, hSr, hb4, hbk⟩)
            have hl64 : G.code.length ≤ 64 := (hfl.out G (List.mem_of_getElem? hG)).l64
            have hGH : Hid (M.fns[g]? = some G ∧ Least G.fn alw (onePl 0) S) := ⟨hG, hS⟩
            obtain ⟨X, hX⟩ : ∃ X, Hid (lst S G.code.length = X) := ⟨_, rfl⟩
            have hXl : X.length ≤ 64 := by (rw [← hX.out]; have := lst_len S G.code.length; omega)
            rw [hX.out] at hSr
            simp only [hX.out]
            have h4 : Hid (FuW w w4 M M.fns.length r ∧ FnI M.pr.fns r ∧ FuP M.fns.length run r tb ∧ (tb = false → FnC M.pr.fns r g ∧ ∀ k : Nat, (k : Int) ∈ X.take 0 → (insAt G.code k).op = 62 → r (insAt G.code k).b.toNat = true) ∧ r g = true ∧ Rows w4 1 pa pc (X.map chCells)) := ⟨hs.out.1.later hb4, hs.out.2.1, hs.out.2.2.1, fun q => ⟨hs.out.2.2.2 q, fun k hk => by simp at hk⟩, hrb, hSr⟩
            have hpn : Hid (∀ b ∈ blk pa, b ≠ w.heap.size + 1) := fun b hb => by (have h1 := (hbk b hb).1; have h2 := hs.out.1.t.lt; omega)
            clear hs hSr hb4 hbk xR p0 p1 p2 p3 cT xT hS hSo hG hrb
            go_wp2_with fail
            go_loopw [4, 7] (fun m u wr => ∃ (tb : Bool) (r : Nat → Bool) (i : Nat), i ≤ X.length ∧ m = .bool tb ∧ u = .int .i64 (i : Int) ∧ Hid (FuW w wr M M.fns.length r ∧ FnI M.pr.fns r ∧ FuP M.fns.length run r tb ∧ (tb = false → FnC M.pr.fns r g ∧ ∀ k : Nat, (k : Int) ∈ X.take i → (insAt G.code k).op = 62 → r (insAt G.code k).b.toNat = true) ∧ r g = true ∧ Rows wr 1 pa pc (X.map chCells))) (fun _ u _ => X.length - (intOf u).toNat)
            case atStart => exact ⟨tb, r, 0, Nat.zero_le _, rfl, rfl, h4.out⟩
            case round =>
              clear h4
              obtain ⟨tb, r, i, hi, rfl, rfl, hs⟩ := hrel
              by_cases hil : i < X.length
              · have hiI : (i : Int) < X.length := by omega
                obtain ⟨x, hx, hxm⟩ := get_lt X i hil
                obtain ⟨k, hkl, hSk, rfl⟩ := (lst_mem S x G.code.length).mp (hX.out.symm ▸ hxm)
                have hkS : Hid (X[i]? = some (k : Int) ∧ k < G.code.length ∧ S k = true) := ⟨hx, hkl, hSk⟩
                have c3 := hs.out.1.p.2.2.2
                obtain ⟨fb, fo, hfix, hfb, fc0, fc1, fc2, fc3⟩ := fn_ix (hMH.out.later hs.out.1.b).2.2.1 g G hGH.out.1
                obtain ⟨lb, lo, hix, hlb, lcel⟩ := ch_ix hs.out.2.2.2.2.2 i (k : Int) hx
                obtain ⟨m1, m2⟩ := insAt_mem (code := G.code) (pc := (k : Int)) (by omega) (by omega)
                rw [Int.toNat_natCast] at m1
                obtain ⟨ib, io, hiix, hib, i0, i1, i2, i3, i4⟩ := ins_ix ((hMH.out.later hs.out.1.b).2.2.2.2.2.2 G (List.mem_of_getElem? hGH.out.1)).1 k _ m1
                have hbi : Hid ((insAt G.code k).op = 62 → 0 ≤ (insAt G.code k).b ∧ (insAt G.code k).b < M.fns.length) := hch.out G (List.mem_of_getElem? hGH.out.1) _ m2
                obtain ⟨I, hI⟩ : ∃ I, Hid (insAt G.code k = I) := ⟨_, rfl⟩
                rw [hI.out] at i0 i1 i2 i3 i4 hbi
                clear fc0 fc1 fc3 hfb hlb hib hx hxm hkl hSk m1 m2
                have hbz := boxed wr (.cells #[.int .i64 0, .int .i64 0, .int .i64 0, .int .i64 0, .int .i64 0] 70)
                have z3 := cell_later hbz c3
                have z2 := cell_later hbz fc2
                have zl := cell_later hbz lcel
                have y0 := cell_later hbz i0
                have y1 := cell_later hbz i1
                have y2 := cell_later hbz i2
                have y3 := cell_later hbz i3
                have y4 := cell_later hbz i4
                have hV : Hid (FuW w (wr.alloc (objIn I)).drew M M.fns.length r ∧ Rows (wr.alloc (objIn I)).drew 1 pa pc (X.map chCells) ∧ (wr.alloc (objIn I)).drew.heap[wr.heap.size]? = some (objIn I)) := ⟨(hs.out.1.later (boxed _ _)).later (bey_drew _), (hs.out.2.2.2.2.2.later (boxed _ _)).later (bey_drew _), heap_alloc_new _ _⟩
                have hs2 : Hid (FnI M.pr.fns r ∧ FuP M.fns.length run r tb ∧ (tb = false → FnC M.pr.fns r g ∧ ∀ k : Nat, (k : Int) ∈ X.take i → (insAt G.code k).op = 62 → r (insAt G.code k).b.toNat = true) ∧ r g = true) := ⟨hs.out.2.1, hs.out.2.2.1, hs.out.2.2.2.1, hs.out.2.2.2.2.1⟩
                clear hs
                go_upto_region 14 with fail
                go_region
                clear z3 z2 zl y0 y1 y2 y3 y4 hbz c3 fc2 lcel i0 i1 i2 i3 i4 hfix hix hiix
                generalize (wr.alloc (objIn I)).drew = V at *
                generalize wr.heap.size = IB at *
                have k0 : V.cell? ⟨IB, 0, none⟩ = some (.int .i64 I.op) := cell_lcQ hV.out.2.2 rfl
                have k2 : V.cell? ⟨IB, 2, none⟩ = some (.int .i64 I.b) := cell_lcQ hV.out.2.2 rfl
                have htk : Hid (∀ k' : Nat, (k' : Int) ∈ X.take (i + 1) → k' = k ∨ (k' : Int) ∈ X.take i) := fun k' q => by
                  rw [take_oneQ X i _ hkS.out.1, List.mem_append, List.mem_singleton] at q
                  rcases q with q | q
                  · exact .inr q
                  · exact .inl (by omega)
                by_cases h62 : I.op = 62
                · have d62 : (I.op == 62) = true := by simpa using h62
                  obtain ⟨bn, hbn⟩ : ∃ bn : Nat, I.b = (bn : Int) := ⟨I.b.toNat, by have := (hbi.out h62).1; omega⟩
                  have hbl : bn < M.fns.length := by (have := (hbi.out h62).2; omega)
                  have hbT : Hid ((insAt G.code k).op = 62 ∧ (insAt G.code k).b.toNat = bn) := ⟨by rw [hI.out]; exact h62, by rw [hI.out, hbn]; rfl⟩
                  rw [hbn] at k2
                  have xJ := ix_bl (w.heap.size + 1) M.fns.length M.fns.length bn hbl
                  have cB : V.cell? ⟨w.heap.size + 1, bn, none⟩ = some (.bool (r bn)) := (hV.out.1.t.cell hbl).1
                  have fB : V.frozen? ⟨w.heap.size + 1, bn, none⟩ = false := (hV.out.1.t.cell hbl).2
                  obtain ⟨rb, hrb⟩ : ∃ rb, r bn = rb := ⟨_, rfl⟩
                  rw [hrb] at cB
                  cases rb with
                  | true =>
                    have hq : Hid (FuW w V M M.fns.length r ∧ FnI M.pr.fns r ∧ FuP M.fns.length run r tb ∧ (tb = false → FnC M.pr.fns r g ∧ ∀ k : Nat, (k : Int) ∈ X.take (i + 1) → (insAt G.code k).op = 62 → r (insAt G.code k).b.toNat = true) ∧ r g = true ∧ Rows V 1 pa pc (X.map chCells)) := ⟨hV.out.1, hs2.out.1, hs2.out.2.1, fun q => ⟨(hs2.out.2.2.1 q).1, fun k' hk' ho => by
                      rcases htk.out k' hk' with e | e
                      · subst e; rw [hbT.out.2]; exact hrb
                      · exact (hs2.out.2.2.1 q).2 k' e ho⟩, hs2.out.2.2.2, hV.out.2.1⟩
                    clear h62 hV hs2 fB
                    generalize I.op = op at *
                    go_wp2
                    go_roundw
                    case rel => exact ⟨tb, r, i + 1, by omega, rfl, by go_num, hq.out⟩
                    case measure => simp [intOf]; omega
                  | false =>
                    have nx : Hid (∀ W', W' = V.setCell ⟨w.heap.size + 1, bn, none⟩ (.bool true) → FuW w W' M M.fns.length (fun b => if b = bn then true else r b) ∧ FnI M.pr.fns (fun b => if b = bn then true else r b) ∧ FuP M.fns.length run (fun b => if b = bn then true else r b) true ∧ (true = false → FnC M.pr.fns (fun b => if b = bn then true else r b) g ∧ ∀ k : Nat, (k : Int) ∈ X.take (i + 1) → (insAt G.code k).op = 62 → (fun b => if b = bn then true else r b) (insAt G.code k).b.toNat = true) ∧ (fun b => if b = bn then true else r b) g = true ∧ Rows W' 1 pa pc (X.map chCells)) := fun W' e => by
                      rw [e]
                      have hm := hs2.out.1.more (hFnH.out g G hGH.out.1) hs2.out.2.2.2 hGH.out.2 hkS.out.2.1 hkS.out.2.2 hbT.out.1 (by rw [show (insAt G.fn.code k).b.toNat = bn from hbT.out.2, hnE.out]; exact hbl)
                      rw [show (insAt G.fn.code k).b.toNat = bn from hbT.out.2] at hm
                      refine ⟨hV.out.1.set hbl, hm, hs2.out.2.1.more hbl hrb, fun q => (by cases q), ?_, rows_keepF hV.out.2.1 ((Below.refl 0 V).setCell (p := ⟨w.heap.size + 1, bn, none⟩) (Nat.zero_le _) _).size fun b q => heap_setCell_other V ⟨w.heap.size + 1, bn, none⟩ b _ (hpn.out b q)⟩
                      show (if g = bn then true else r g) = true
                      split
                      · rfl
                      · exact hs2.out.2.2.2
                    clear h62 hV hs2
                    generalize I.op = op at *
                    go_wp2_with (first
                      | ((with_reducible refine at_storeQ 4 _ _ rfl ?_); refine stopQ_out ?_; refine wpList_putb rfl 4 _ _ rfl ⟨w.heap.size + 1, bn, none⟩ rfl true rfl (by kernel_rfl) _ cB fB ?_; intro W1 hW1; (have hn : Hid _ := nx.out W1 hW1); clear hW1 cB fB))
                    go_roundw
                    case rel => exact ⟨true, _, i + 1, by omega, rfl, by go_num, hn.out⟩
                    case measure => simp [intOf]; omega
                · have d62 : (I.op == 62) = false := by simpa using h62
                  have hq : Hid (FuW w V M M.fns.length r ∧ FnI M.pr.fns r ∧ FuP M.fns.length run r tb ∧ (tb = false → FnC M.pr.fns r g ∧ ∀ k : Nat, (k : Int) ∈ X.take (i + 1) → (insAt G.code k).op = 62 → r (insAt G.code k).b.toNat = true) ∧ r g = true ∧ Rows V 1 pa pc (X.map chCells)) := ⟨hV.out.1, hs2.out.1, hs2.out.2.1, fun q => ⟨(hs2.out.2.2.1 q).1, fun k' hk' ho => by
                    rcases htk.out k' hk' with e | e
                    · subst e; rw [hI.out] at ho; exact absurd ho h62
                    · exact (hs2.out.2.2.1 q).2 k' e ho⟩, hs2.out.2.2.2, hV.out.2.1⟩
                  clear h62 hV hs2
                  generalize I.op = op at *
                  go_wp2
                  go_roundw
                  case rel => exact ⟨tb, r, i + 1, by omega, rfl, by go_num, hq.out⟩
                  case measure => simp [intOf]; omega
              · have hie : i = X.length := by omega
                have hiI : ¬ (i : Int) < X.length := by omega
                have hq : Hid (FuW w wr M M.fns.length r ∧ FnI M.pr.fns r ∧ FuP M.fns.length run r tb ∧ (tb = false → FnC M.pr.fns r (g + 1))) := ⟨hs.out.1, hs.out.2.1, hs.out.2.2.1, fun q a F' S' ha hF' hra hS' k hk hSk ho => by
                  by_cases e : a = g
                  · subst e
                    have hF2 := hFnH.out a G hGH.out.1
                    rw [hF2] at hF'
                    have e2 := Option.some.inj hF'
                    subst e2
                    have e3 := hS'.same hGH.out.2
                    refine (hs.out.2.2.2.1 q).2 k ?_ ho
                    rw [hie, List.take_length, ← hX.out]
                    exact (lst_mem _ _ _).mpr ⟨k, hk, by rw [← e3]; exact hSk, rfl⟩
                  · exact (hs.out.2.2.2.1 q).1 a F' S' (by omega) hF' hra hS' k hk hSk ho⟩
                clear hs
                go_wp2
                go_roundw
                case rel => exact ⟨tb, r, g + 1, by omega, rfl, by go_num, hq.out⟩
                case measure => simp [intOf]; omega
        · have hge : g = M.fns.length := by omega
          have hgI : ¬ (g : Int) < M.fns.length := by omega
          have hE : Hid (FuW w wr M M.fns.length r ∧ FnI M.pr.fns r ∧ (tb = false → FnC M.pr.fns r M.pr.fns.length)) := ⟨hs.out.1, hs.out.2.1, fun q => by (rw [hnE.out, ← hge]; exact hs.out.2.2.2 q)⟩
          have hP : Hid (FuP M.fns.length run r tb) := hs.out.2.2.1
          clear hs
          go_wp2
          go_roundw
          case rel => exact ⟨tb, r, rfl, hE.out⟩
          case measure =>
            rw [hms.out, missB_is hE.out.1.t]
            have h1 := miss_le hP.out.up M.fns.length
            cases tb with
            | false => show 2 * _ + 0 < 2 * _ + 1; omega
            | true => have h2 := hP.out.lt (by first | rfl | trivial); show 2 * _ + 1 < 2 * _ + 1; omega
end Go.Proofs.YtlcljdldhajkiaaDoor.pg
/- Spots compared. -/
namespace Go.Proofs.YtlcljdldhajkiaaDoor.pg
open Go.ChangeShapes Go.WideShapes Go.ChangeAt Go.RowKit Go.Shelf
set_option linter.unusedVariables false
set_option linter.unusedSimpArgs false
set_option maxRecDepth 100000
theorem run_neSp (x : Nat × Nat) (w : World) : (binOp .neq 47 (.agg #[.int .i64 (x.1 : Int), .int .i64 (x.2 : Int)]) (.agg #[.int .i64 (x.1 : Int), .int .i64 (x.2 : Int)])).run Tryd.prog w = .ok (.bool false) w := by
  have u1 := Tryd.underlying3
  have a1 := Tryd.isAgg3
  have z1 := Tryd.sizeOf3
  have hS : Tryd.prog.underlying 47 = some (.struct (Tryd.prog.fieldsOf 47)) := by kernel_rfl
  have hp : Tryd.prog.stoodInHeld 47 = false := by kernel_rfl
  rw [run_neq_struct, show (10000 : Nat) = 9999 + 1 from rfl, run_equalIn_agg w 9999 47 _ _ hS hp]
  simp only [Program.fieldsOf, Tryd.underlying47]
  go_simp
theorem spot_ix {w : World} {a : Option Addr} {cap : Nat} {L : List (Nat × Nat)} (h : Rows w 2 a cap (L.map spC)) (i : Nat) (x : Nat × Nat) (hi : L[i]? = some x) :
    ∃ b o, (∀ wx, (Instr.indexAt 39 (.slice a L.length cap) (.int .i64 (i : Int))).run Tryd.prog wx = .ok (.pointer (some ⟨b, o, none⟩)) wx) ∧ b < w.heap.size ∧ w.cell? ⟨b, o, none⟩ = some (.int .i64 (x.1 : Int)) ∧ w.cell? ⟨b, o + 1, none⟩ = some (.int .i64 (x.2 : Int)) := by
  obtain ⟨b, o, hr, hlt, hc⟩ := h.ix 39 47 Tryd.underlying39 (by kernel_rfl) (fun wx => Tryd.sizeOf47 wx) i (row := spC x) (by simp [hi])
  rw [List.length_map] at hr
  exact ⟨b, o, hr, hlt, hc 0 _ rfl, hc 1 _ rfl⟩
theorem sp_len (L : List (Nat × Nat)) : ∀ row ∈ L.map spC, row.length = 2 := fun r hr => by
  obtain ⟨x, _, rfl⟩ := List.mem_map.mp hr
  rfl
end Go.Proofs.YtlcljdldhajkiaaDoor.pg
