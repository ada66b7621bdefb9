/- A program's plain variables; the races upon them. -/
import Derived.Test.YtafefnkgdnmjbaaGreatDoorM25
import Derived.Test.YtafefnkgdnmjbaaGreatDoorM26
import Derived.Test.YtafefnkgdnmjbaaGreatDoorM29
namespace Go.Proofs.YtafefnkgdnmjbaaGreatDoor.pg
open Go.ChangeShapes Go.WideShapes Go.ChangeAt Go.RowKit Go.Shelf
set_option linter.unusedVariables false
set_option linter.unusedSimpArgs false
set_option maxRecDepth 100000
attribute [local go_sem ↓] Go.wp_at_zero Go.wp_at_succ
/-- Which variables are plain, of the first k. -/
def plK (vars : List Vr) (k : Nat) (n : Nat) : Bool := decide (n < k) && (match vars[n]? with | some x => !x.atomic | none => false)
def plV (vars : List Vr) : Nat → Bool := plK vars vars.length
theorem plK_more {vars : List Vr} {k : Nat} {x : Vr} (h : vars[k]? = some x) (n : Nat) : (if n = k then !x.atomic else plK vars k n) = plK vars (k + 1) n := by
  unfold plK
  by_cases e : n = k
  · subst e
    rw [if_pos rfl, h]
    simp
  · rw [if_neg e]
    congr 1
    refine decide_eq_decide.mpr ?_
    omega
theorem zeroPl : ∀ w, (zeroValue 86).run Tryz.prog w = .ok (.agg (boolRow 8 fun _ => false)) w := fun w => by kernel_rfl
theorem pl0 (vars : List Vr) : (fun _ : Nat => false) = plK vars 0 := by funext n; simp [plK]
theorem vars8 {P : Pr} {b c : Int} (h : chk insP P = (0, b, c)) : P.vars.length ≤ 8 := by
  unfold chk at h
  split at h
  · rename_i h0
    unfold sizesE at h0
    split at h0
    · rename_i h1; exact h1.1
    · cases h0
  · rename_i h0
    simp only [Prod.mk.injEq] at h
    exact (h0 h.1).elim
theorem res_row_tmp {fn : Func} {p t : Tmp} {ty : TypeId} (h : fn.results = #[.cell p ty, .tmp t]) (tmps : Array Value) (w : World) (g : Nat) (ct : TypeId) (cs : Array Value) (fr : Nat × Nat) (d : TypeDesc) (hp : tmps.getD p undef = .pointer (some ⟨g, 0, none⟩)) (hg : w.heap[g]? = some (.cells cs ct fr))
    (hu : Tryz.prog.underlying ty = some d) (hd : d.isRow = true) (hi : (Tryz.prog.info? ty).map (·.size) = some cs.size) : (results fn tmps).run Tryz.prog w = .ok (.tuple #[.agg cs, tmps.getD t undef]) w := by
  have hl := run_loadVar_mid w g 0 ty cs.toList d (fun j v hj => by rw [Nat.zero_add]; exact cell_of hg (by simpa using hj)) hu hd (by rw [Array.length_toList]; exact hi)
  rw [Array.toArray_toList] at hl
  have hp2 : tmps[p]?.getD undef = .pointer (some ⟨g, 0, none⟩) := by simpa using hp
  simp [results, h, hp2, asAddr, hl]
/-- How plainOf stands in its loop. -/
structure PoS (w W : World) (M : MPr) (k : Nat) : Prop where
  p : BoxP W w.heap.size M
  r : W.heap[w.heap.size + 1]? = some (objV fun _ => false)
  v : W.heap[w.heap.size + 2]? = some (objV (plK M.vars k))
  b : Below w.heap.size w W
theorem PoS.later {w W W' : World} {M : MPr} {k : Nat} (h : PoS w W M k) (hb : Below W.heap.size W W') : PoS w W' M k :=
  ⟨h.p.later hb, (hb.block _ (Array.getElem?_eq_some_iff.mp h.r).1).trans h.r, (hb.block _ (Array.getElem?_eq_some_iff.mp h.v).1).trans h.v, bthen h.b hb⟩
theorem PoS.put {w W : World} {M : MPr} {k : Nat} (h : PoS w W M k) {x : Vr} (hx : M.vars[k]? = some x) : PoS w (W.setCell ⟨w.heap.size + 2, k, none⟩ (.bool (!x.atomic))) M (k + 1) := by
  have hk : ∀ b, b ≠ w.heap.size + 2 → (W.setCell ⟨w.heap.size + 2, k, none⟩ (.bool (!x.atomic))).heap[b]? = W.heap[b]? := fun b q => Below.heap_setCell _ _ _ _ q
  have kc : ∀ i v, W.cell? ⟨w.heap.size, i, none⟩ = some v → (W.setCell ⟨w.heap.size + 2, k, none⟩ (.bool (!x.atomic))).cell? ⟨w.heap.size, i, none⟩ = some v := fun i v q => (World.cell?_of_block (a := ⟨w.heap.size, i, none⟩) (hk _ (by show w.heap.size ≠ _; omega))).trans q
  refine ⟨⟨kc _ _ h.p.1, kc _ _ h.p.2.1, kc _ _ h.p.2.2.1, kc _ _ h.p.2.2.2⟩, (hk _ (by omega)).trans h.r, ?_, h.b.setCell (p := ⟨w.heap.size + 2, k, none⟩) (by show w.heap.size ≤ w.heap.size + 2; omega) _⟩
  rw [setCell_eq_setRow W (w.heap.size + 2) k _ _ _ _ h.v, boolRow_set, setRow_heap W (w.heap.size + 2) _ _ _ _ h.v]
  have : (fun b => if b = k then !x.atomic else plK M.vars k b) = plK M.vars (k + 1) := funext fun n => plK_more hx n
  rw [this]
set_option maxHeartbeats 4000000 in
theorem plainOf_ok (M : MPr) (w : World) (hl : M.lies w) (hF : prog.Forms w) (b c : Int) (hr : chk insP M.pr = (0, b, c)) :
    Calls Tryz.prog 44 #[M.val] w fun e w' => e = .returned (.tuple #[.agg (boolRow 8 (plV M.vars)), .int .i64 0]) ∧ Below w.heap.size w w' := by
  have h8 : M.vars.length ≤ 8 := vars8 (P := M.pr) hr
  have cC : ∀ wx, Below w.heap.size w wx → Calls Tryz.prog 94 #[M.val] wx fun e w' => e = .returned (.tuple #[.int .i64 0, .agg #[.int .i64 b, .int .i64 c]]) ∧ Below wx.heap.size wx w' := fun wx hb => pp.check_any M wx (hl.later hb) (hF.later hb) 0 b c hr
  have hzV : Hid (∀ w, (zeroValue 86).run Tryz.prog w = .ok (.agg (boolRow 8 fun _ => false)) w) := zeroPl
  have huV : Hid (Tryz.prog.underlying 86 = _) := Tryz.underlying86
  have hlH : Hid (M.lies w) := hl
  have hW0 : ∀ W, W = ((w.alloc (objP M)).alloc (objV fun _ => false)).alloc (objV fun _ => false) → PoS w W M 0 := fun W e => by
    have h1 := boxP_new w M
    have h2 := heap_alloc_new (w.alloc (objP M)) (objV fun _ => false)
    have h3 := heap_alloc_new ((w.alloc (objP M)).alloc (objV fun _ => false)) (objV fun _ => false)
    simp only [World.size_alloc] at h2 h3
    rw [e]
    exact ⟨h1.later (bthen (boxed _ _) (boxed _ _)), ((boxed _ _).block _ (by simp [World.size_alloc])).trans h2, by rw [← pl0]; exact h3, bthen (bthen (boxed _ _) (boxed _ _)) (boxed _ _)⟩
  have hlen : (M.vars.length : Int) ≤ 8 := by omega
  obtain ⟨W0, hW⟩ : ∃ W, W = ((w.alloc (objP M)).alloc (objV fun _ => false)).alloc (objV fun _ => false) := ⟨_, rfl⟩
  have s0 := hW0 W0 hW
  have hWH : Hid _ := hW
  clear hl hF hr hW0 hW
  go_enter Tryz.func44, Tryz.ntmps44
  go_wp2_with (first
    | (refine wpList_alloc_big rfl 86 rfl hzV.out ?_)
    | (go_at_call 94; (refine (cC _ ?_).mono ?_); (exact bthen (bthen (boxed _ _) (boxed _ _)) (boxed _ _)); rintro e w1 ⟨rfl, hb1⟩; (have s1 : PoS w w1 M 0 := (hWH.out ▸ s0).later hb1); (have hsH : Hid (PoS w (w1.alloc (.cells #[.int .i64 b, .int .i64 c] 82)) M 0) := s1.later (boxed _ _)); (have c0 := hsH.out.p.1); clear s1 hb1))
  go_loopw [20] (fun u wr => ∃ k : Nat, k ≤ M.vars.length ∧ u = .int .i64 (k : Int) ∧ Hid (PoS w wr M k)) (fun u _ => M.vars.length - (intOf u).toNat)
  case atStart => exact ⟨0, Nat.zero_le _, rfl, hsH⟩
  case round =>
    clear hsH c0 s0 hWH
    obtain ⟨k, hk, rfl, hs⟩ := hrel
    by_cases hlt : k < M.vars.length
    · have hkI : (k : Int) < M.vars.length := by omega
      obtain ⟨x, hx⟩ : ∃ x, M.vars[k]? = some x := ⟨_, List.getElem?_eq_getElem hlt⟩
      obtain ⟨b0, o0, hix, hbl, k0, k1⟩ := vr_ix (hlH.out.1.later hs.out.b) k x hx
      have hs2 : Hid (PoS w (wr.alloc (.cells #[.bool x.atomic, .int .i64 x.init] 159)) M k) := hs.out.later (boxed _ _)
      have ixk := ix_pl (w.heap.size + 2) k (by omega)
      have cv : (wr.alloc (.cells #[.bool x.atomic, .int .i64 x.init] 159)).cell? ⟨w.heap.size + 2, k, none⟩ = some (.bool (plK M.vars k k)) := cell_of hs2.out.v (boolRow_at (by omega))
      have fv : (wr.alloc (.cells #[.bool x.atomic, .int .i64 x.init] 159)).frozen? ⟨w.heap.size + 2, k, none⟩ = false := frozen_of_row _ _ _ _ _ hs2.out.v
      go_wp2_with (refine wpList_putb rfl 4 _ _ rfl ⟨w.heap.size + 2, k, none⟩ rfl (!x.atomic) rfl (by kernel_rfl) _ cv fv fun W' hW' => ?_; (have hs3 : Hid (PoS w W' M (k + 1)) := by (rw [hW']; exact hs2.out.put hx)); clear hW')
      go_roundw
      case rel => exact ⟨k + 1, by omega, by go_num, hs3⟩
      case measure => simp [intOf]; omega
    · have hkl : k = M.vars.length := by omega
      subst hkl
      go_wp2_with (first
        | (refine wpList_load_row rfl 86 _ rfl (w.heap.size + 2) rfl _ _ _ _ hs.out.v huV.out rfl (infoPl _) ?_)
        | (refine wpList_store_row rfl 86 _ _ rfl (w.heap.size + 1) (boolRow 8 (plK M.vars M.vars.length)) rfl rfl _ _ hs.out.r (infoPl _) (by rw [boolRow_size, boolRow_size]) (boolRow_one _ _) ?_))
      refine bodyPost_ret (res_row_tmp Tryz.results44 _ _ (w.heap.size + 1) 86 _ (0, 0) _ rfl (setRow_heap wr (w.heap.size + 1) _ _ _ _ hs.out.r) huV.out rfl (infoPl _)) rfl ⟨rfl, below_setRow hs.out.b (by omega) _⟩
end Go.Proofs.YtafefnkgdnmjbaaGreatDoor.pg
/- Package race's Data. -/
namespace Go.Proofs.YtafefnkgdnmjbaaGreatDoor.pg
open Go.ChangeShapes Go.WideShapes Go.ChangeAt Go.RowKit Go.Shelf
set_option linter.unusedVariables false
set_option linter.unusedSimpArgs false
set_option maxRecDepth 100000
attribute [local go_sem ↓] Go.wp_at_zero Go.wp_at_succ
set_option maxHeartbeats 2000000 in
theorem plainOf_bad (M : MPr) (w : World) (hl : M.lies w) (hF : prog.Forms w) (a b c : Int) (ha : a ≠ 0) (hr : chk insP M.pr = (a, b, c)) :
    Calls Tryz.prog 44 #[M.val] w fun e w' => e = .returned (.tuple #[.agg (boolRow 8 fun _ => false), .int .i64 3]) ∧ Below w.heap.size w w' := by
  have cC : ∀ wx, Below w.heap.size w wx → Calls Tryz.prog 94 #[M.val] wx fun e w' => e = .returned (.tuple #[.int .i64 a, .agg #[.int .i64 b, .int .i64 c]]) ∧ Below wx.heap.size wx w' := fun wx hb => pp.check_any M wx (hl.later hb) (hF.later hb) a b c hr
  have hzV : Hid (∀ w, (zeroValue 86).run Tryz.prog w = .ok (.agg (boolRow 8 fun _ => false)) w) := zeroPl
  have huV : Hid (Tryz.prog.underlying 86 = _) := Tryz.underlying86
  have hW0 : ∀ W, W = ((w.alloc (objP M)).alloc (objV fun _ => false)).alloc (objV fun _ => false) → PoS w W M 0 := fun W e => by
    have h1 := boxP_new w M
    have h2 := heap_alloc_new (w.alloc (objP M)) (objV fun _ => false)
    have h3 := heap_alloc_new ((w.alloc (objP M)).alloc (objV fun _ => false)) (objV fun _ => false)
    simp only [World.size_alloc] at h2 h3
    rw [e]
    exact ⟨h1.later (bthen (boxed _ _) (boxed _ _)), ((boxed _ _).block _ (by simp [World.size_alloc])).trans h2, by rw [← pl0]; exact h3, bthen (bthen (boxed _ _) (boxed _ _)) (boxed _ _)⟩
  obtain ⟨W0, hW⟩ : ∃ W, W = ((w.alloc (objP M)).alloc (objV fun _ => false)).alloc (objV fun _ => false) := ⟨_, rfl⟩
  have s0 := hW0 W0 hW
  have hWH : Hid _ := hW
  have ha1 : (a == 0) = false := by simpa using ha
  have ha2 : (a != 0) = true := by simpa using ha
  clear hl hF hr hW0 hW ha
  go_enter Tryz.func44, Tryz.ntmps44
  go_wp2_with (first
    | (refine wpList_alloc_big rfl 86 rfl hzV.out ?_)
    | (go_at_call 94; (refine (cC _ ?_).mono ?_); (exact bthen (bthen (boxed _ _) (boxed _ _)) (boxed _ _)); rintro e w1 ⟨rfl, hb1⟩; (have s1 : PoS w w1 M 0 := (hWH.out ▸ s0).later hb1); (have hsH : Hid (PoS w (w1.alloc (.cells #[.int .i64 b, .int .i64 c] 82)) M 0) := s1.later (boxed _ _)); clear s1 hb1)
    | (refine wpList_load_row rfl 86 _ rfl (w.heap.size + 2) rfl _ _ _ _ hsH.out.v huV.out rfl (infoPl _) ?_)
    | (refine wpList_store_row rfl 86 _ _ rfl (w.heap.size + 1) (boolRow 8 (plK M.vars 0)) rfl rfl _ _ hsH.out.r (infoPl _) (by rw [boolRow_size, boolRow_size]) (boolRow_one _ _) ?_))
  refine bodyPost_ret (res_row_tmp Tryz.results44 _ _ (w.heap.size + 1) 86 _ (0, 0) _ rfl (setRow_heap _ (w.heap.size + 1) _ _ _ _ hsH.out.r) huV.out rfl (infoPl _)) rfl ⟨by rw [pl0 M.vars]; rfl, below_setRow hsH.out.b (by omega) _⟩
/-- Which pairs of events clash on a plain variable. -/
def daF (vars : List Vr) (l : List Ev) (i j : Nat) : Bool := clP (plV vars) (evf l i) (evf l j)
set_option maxHeartbeats 2000000 in
theorem data_ok (M : MPr) (l : List Ev) (la : Option Addr) (lc : Nat) (w : World) (hM : M.lies w) (hF : prog.Forms w) (b c : Int) (hr : chk insP M.pr = (0, b, c)) (hl : Rows w 26 la lc (l.map Ev.cells)) (hlen : l.length ≤ 256) (hrt : ∀ x ∈ l, rightP x) (B : Nat → Nat → Bool) (hB : Tells (dpf l) B) :
    Calls Tryz.prog 14 #[M.val, .slice la l.length lc] w fun e w' => ∃ da dc, e = .returned (.tuple #[.slice da (rcL B l (daF M.vars l)).length dc, .int .i64 0]) ∧ Rows w' 2 da dc ((rcL B l (daF M.vars l)).map edg) ∧ Below w.heap.size w w' := by
  have cP : ∀ wx, Below w.heap.size w wx → Calls Tryz.prog 44 #[M.val] wx fun e w' => e = .returned (.tuple #[.agg (boolRow 8 (plV M.vars)), .int .i64 0]) ∧ Below wx.heap.size wx w' := fun wx hb => plainOf_ok M wx (hM.later hb) (hF.later hb) b c hr
  have cR : ∀ wx, Below w.heap.size w wx → Calls Tryz.prog 38 #[.slice la l.length lc, .func (.func 45) #[.agg (boolRow 8 (plV M.vars))] #[]] wx fun e w' => ∃ da dc, e = .returned (.tuple #[.slice da (rcL B l (daF M.vars l)).length dc, .int .i64 0]) ∧ Rows w' 2 da dc ((rcL B l (daF M.vars l)).map edg) ∧ Below wx.heap.size wx w' := fun wx hb =>
    races_ok 45 #[.agg (boolRow 8 (plV M.vars))] #[] (enters_of Tryz.func45 (by kernel_rfl) rfl) l la lc wx (hl.later hb) hlen hrt B hB (daF M.vars l) (fun i j hi hj wy _ => clashV_any _ _ _ (hrt _ (List.mem_of_getElem? (evf_at hi))) (hrt _ (List.mem_of_getElem? (evf_at hj))) wy)
  have hzV : Hid (∀ w, (zeroValue 86).run Tryz.prog w = .ok (.agg (boolRow 8 fun _ => false)) w) := zeroPl
  have huV : Hid (Tryz.prog.underlying 86 = _) := Tryz.underlying86
  clear hl hF hr hM hlen hrt hB
  generalize rcL B l (daF M.vars l) = F at *
  generalize plV M.vars = v at *
  go_enter Tryz.func14, Tryz.ntmps14
  go_wp2_with (first
    | (refine wpList_alloc_big rfl 86 rfl hzV.out ?_)
    | (go_at_call 44; (with_reducible refine (cP _ (boxed _ _)).mono ?_); rintro e w1 ⟨rfl, hb1⟩; (have hB1 : Hid (Below w.heap.size w w1) := bthen (boxed _ _) hb1); clear hb1)
    | (refine wpList_store_row rfl 86 _ _ rfl w1.heap.size (boolRow 8 v) rfl rfl _ _ (heap_alloc_new _ _) (infoPl _) (by rw [boolRow_size, boolRow_size]) (boolRow_one _ _) ?_; (obtain ⟨W2, hW2⟩ : ∃ W2, W2 = (w1.alloc (objV fun _ => false)).setRow w1.heap.size (boolRow 8 v) := ⟨_, rfl⟩); rw [← hW2]; (have hv2 : Hid (W2.heap[w1.heap.size]? = some (objV v) ∧ Below w.heap.size w W2) := by (rw [hW2]; exact ⟨setRow_heap _ _ _ _ _ _ (heap_alloc_new _ _), below_setRow (bthen hB1.out (boxed _ _)) hB1.out.size _⟩)); clear hW2)
    | (refine wpList_load_row rfl 86 _ rfl w1.heap.size rfl _ _ _ _ hv2.out.1 huV.out rfl (infoPl _) ?_)
    | (go_at_call 38; (with_reducible refine (cR _ hv2.out.2).mono ?_); rintro e w3 ⟨da, dc, rfl, hr3, hb3⟩))
  go_ret2
  exact ⟨da, dc, rfl, hr3, bthen hv2.out.2 hb3⟩
set_option maxHeartbeats 2000000 in
theorem data_prog (M : MPr) (la : Option Addr) (ln lc : Nat) (w : World) (hM : M.lies w) (hF : prog.Forms w) (a b c : Int) (ha : a ≠ 0) (hr : chk insP M.pr = (a, b, c)) :
    Calls Tryz.prog 14 #[M.val, .slice la ln lc] w fun e w' => e = .returned (.tuple #[.slice none 0 0, .int .i64 3]) ∧ Below w.heap.size w w' := by
  have cP : ∀ wx, Below w.heap.size w wx → Calls Tryz.prog 44 #[M.val] wx fun e w' => e = .returned (.tuple #[.agg (boolRow 8 fun _ => false), .int .i64 3]) ∧ Below wx.heap.size wx w' := fun wx hb => plainOf_bad M wx (hM.later hb) (hF.later hb) a b c ha hr
  have hzV : Hid (∀ w, (zeroValue 86).run Tryz.prog w = .ok (.agg (boolRow 8 fun _ => false)) w) := zeroPl
  clear hF hr hM ha
  go_enter Tryz.func14, Tryz.ntmps14
  go_wp2_with (first
    | (refine wpList_alloc_big rfl 86 rfl hzV.out ?_)
    | (go_at_call 44; (with_reducible refine (cP _ (boxed _ _)).mono ?_); rintro e w1 ⟨rfl, hb1⟩; (have hB1 : Hid (Below w.heap.size w w1) := bthen (boxed _ _) hb1); clear hb1)
    | (refine wpList_store_row rfl 86 _ _ rfl w1.heap.size (boolRow 8 fun _ => false) rfl rfl _ _ (heap_alloc_new _ _) (infoPl _) (by rw [boolRow_size]) (boolRow_one _ _) ?_))
  go_ret2
  exact ⟨rfl, below_setRow (bthen hB1.out (boxed _ _)) hB1.out.size _⟩
set_option maxHeartbeats 2000000 in
theorem data_bad (M : MPr) (l : List Ev) (la : Option Addr) (lc : Nat) (w : World) (hM : M.lies w) (hF : prog.Forms w) (b c : Int) (hr : chk insP M.pr = (0, b, c)) (hl : Rows w 26 la lc (l.map Ev.cells)) (d : Int) (hc : checkP l d) (h0 : d = 2 ∨ d = 7) :
    Calls Tryz.prog 14 #[M.val, .slice la l.length lc] w fun e w' => e = .returned (.tuple #[.slice none 0 0, .int .i64 d]) ∧ Below w.heap.size w w' := by
  have cP : ∀ wx, Below w.heap.size w wx → Calls Tryz.prog 44 #[M.val] wx fun e w' => e = .returned (.tuple #[.agg (boolRow 8 (plV M.vars)), .int .i64 0]) ∧ Below wx.heap.size wx w' := fun wx hb => plainOf_ok M wx (hM.later hb) (hF.later hb) b c hr
  have cR : ∀ wx, Below w.heap.size w wx → Calls Tryz.prog 38 #[.slice la l.length lc, .func (.func 45) #[.agg (boolRow 8 (plV M.vars))] #[]] wx fun e w' => e = .returned (.tuple #[.slice none 0 0, .int .i64 d]) ∧ Below wx.heap.size wx w' := fun wx hb => races_bad _ _ _ _ rfl l la lc wx (hl.later hb) d hc h0
  have hzV : Hid (∀ w, (zeroValue 86).run Tryz.prog w = .ok (.agg (boolRow 8 fun _ => false)) w) := zeroPl
  have huV : Hid (Tryz.prog.underlying 86 = _) := Tryz.underlying86
  clear hl hF hr hM hc h0
  generalize plV M.vars = v at *
  go_enter Tryz.func14, Tryz.ntmps14
  go_wp2_with (first
    | (refine wpList_alloc_big rfl 86 rfl hzV.out ?_)
    | (go_at_call 44; (with_reducible refine (cP _ (boxed _ _)).mono ?_); rintro e w1 ⟨rfl, hb1⟩; (have hB1 : Hid (Below w.heap.size w w1) := bthen (boxed _ _) hb1); clear hb1)
    | (refine wpList_store_row rfl 86 _ _ rfl w1.heap.size (boolRow 8 v) rfl rfl _ _ (heap_alloc_new _ _) (infoPl _) (by rw [boolRow_size, boolRow_size]) (boolRow_one _ _) ?_; (obtain ⟨W2, hW2⟩ : ∃ W2, W2 = (w1.alloc (objV fun _ => false)).setRow w1.heap.size (boolRow 8 v) := ⟨_, rfl⟩); rw [← hW2]; (have hv2 : Hid (W2.heap[w1.heap.size]? = some (objV v) ∧ Below w.heap.size w W2) := by (rw [hW2]; exact ⟨setRow_heap _ _ _ _ _ _ (heap_alloc_new _ _), below_setRow (bthen hB1.out (boxed _ _)) hB1.out.size _⟩)); clear hW2)
    | (refine wpList_load_row rfl 86 _ rfl w1.heap.size rfl _ _ _ _ hv2.out.1 huV.out rfl (infoPl _) ?_)
    | (go_at_call 38; (with_reducible refine (cR _ hv2.out.2).mono ?_); rintro e w3 ⟨rfl, hb3⟩))
  go_ret2
  exact ⟨rfl, bthen hv2.out.2 hb3⟩
end Go.Proofs.YtafefnkgdnmjbaaGreatDoor.pg
/- All pairs of places, handed out one by one. -/
namespace Go.Proofs.YtafefnkgdnmjbaaGreatDoor.pg
open Go.ChangeShapes Go.WideShapes Go.ChangeAt Go.RowKit Go.Shelf
set_option linter.unusedVariables false
set_option linter.unusedSimpArgs false
set_option maxRecDepth 100000
attribute [local go_sem] Oper.semAt_some
abbrev ttF : Nat → Nat → Bool := fun _ _ => true
/-- All pairs of places below n, in order. -/
def prL (n : Nat) : List (Nat × Nat) := eAll ttF n n
theorem eRow_pre (i : Nat) : ∀ {k m : Nat}, k ≤ m → eRow ttF i k <+: eRow ttF i m
  | k, 0, h => by obtain rfl : k = 0 := by omega
                  exact List.prefix_refl _
  | k, m + 1, h => by
    by_cases e : k = m + 1
    · subst e; exact List.prefix_refl _
    · refine (eRow_pre i (show k ≤ m by omega)).trans ?_
      rw [eRow]
      exact List.prefix_append _ _
theorem eAll_pre (n : Nat) : ∀ {i m : Nat}, i ≤ m → eAll ttF n i <+: eAll ttF n m
  | i, 0, h => by obtain rfl : i = 0 := by omega
                  exact List.prefix_refl _
  | i, m + 1, h => by
    by_cases e : i = m + 1
    · subst e; exact List.prefix_refl _
    · refine (eAll_pre n (show i ≤ m by omega)).trans ?_
      rw [eAll]
      exact List.prefix_append _ _
/-- What has been handed out ahead of (i, k). -/
def prK (n i k : Nat) : List (Nat × Nat) := eAll ttF n i ++ eRow ttF i k
theorem prK_pre {n i k : Nat} (hi : i < n) (hk : k ≤ n) : prK n i k <+: prL n := by
  unfold prK prL
  refine List.IsPrefix.trans ?_ (eAll_pre n (show i + 1 ≤ n by omega))
  rw [eAll]
  exact List.prefix_append_right_inj _ |>.mpr (eRow_pre i hk)
theorem prK_more {n i k : Nat} (h : i < k) : prK n i (k + 1) = prK n i k ++ [(i, k)] := by
  unfold prK
  rw [eRow, if_pos ⟨h, rfl⟩, List.append_assoc]
theorem eRow_none (i : Nat) : ∀ k, k ≤ i + 1 → eRow ttF i k = []
  | 0, _ => rfl
  | k + 1, h => by rw [eRow, eRow_none i k (by omega), if_neg (by omega)]; rfl
theorem prK_start {n i : Nat} : prK n i (i + 1) = eAll ttF n i := by
  unfold prK
  rw [eRow_none i (i + 1) (Nat.le_refl _), List.append_nil]
theorem prK_end {n i : Nat} : prK n i n = eAll ttF n (i + 1) := rfl
theorem prL_at {n i k : Nat} (hi : i < k) (hk : k < n) : (prK n i k).length < (prL n).length ∧ (prL n).getD (prK n i k).length (0, 0) = (i, k) := by
  obtain ⟨t, ht⟩ := prK_pre (show i < n by omega) (show k + 1 ≤ n by omega)
  rw [prK_more hi, List.append_assoc] at ht
  rw [← ht]
  refine ⟨by simp, ?_⟩
  rw [List.getD_eq_getElem?_getD, List.getElem?_append_right (Nat.le_refl _), Nat.sub_self]
  rfl
theorem prL_len {n : Nat} (h : n ≤ 256) : (prL n).length ≤ 65536 := by
  have h1 := eAll_len ttF n n
  have h2 := Nat.mul_le_mul h h
  unfold prL
  omega
set_option maxHeartbeats 4000000 in
theorem all1_in (F : Fence) (m : Nat) (hf : F.fn 102) (hro : F.round = none) (hn : 1 ≤ m) (lp Bs n₀ n AB : Nat) (hj : n ≤ 256) (J Jx : List { i : Nat // i < (prL n).length } → World → Prop) (hJ : AbidesFrom AB J)
    (hY : ∀ pre x W, J pre W → pre.length < (prL n).length → YieldAt F (m - 1) Tryz.prog lp #[.agg (edg ((prL n).getD x.1 (0, 0))).toArray] W fun e W' =>
      (e = .returned (.bool true) ∧ J (pre ++ [x]) W' ∧ Below n₀ W W') ∨ (e = .returned (.bool false) ∧ Jx (pre ++ [x]) W'))
    (W : World) (hBn : Bs < n₀) (hnW : n₀ ≤ W.heap.size) (hBs : W.heap[Bs]? = some (.cells #[.int .i64 (n : Int)] 3)) (h0 : J [] W) :
    CallsIn F m Tryz.prog 102 #[.func (.yield lp) #[] #[], .pointer (some ⟨Bs, 0, none⟩)] W fun e W' => (∃ v, e = .returned v) ∧
      ((∃ ys, ys = up (prL n).length (prL n).length ∧ J ys W') ∨ (∃ pre, True ∧ Jx pre W')) := by
  have hjI : (n : Int) ≤ 256 := by omega
  have hcell : ∀ {V : World}, Below n₀ W V → V.cell? ⟨Bs, 0, none⟩ = some (.int .i64 (n : Int)) := fun {V} hk => cell_of ((hk.block Bs hBn).trans hBs) rfl
  have hcW := hcell (Below.refl _ _)
  have hcH : Hid (∀ V : World, Below n₀ W V → V.cell? ⟨Bs, 0, none⟩ = some (.int .i64 (n : Int))) := fun V => hcell
  have hYH : Hid (∀ pre x W, J pre W → pre.length < (prL n).length → YieldAt F (m - 1) Tryz.prog lp #[.agg (edg ((prL n).getD x.1 (0, 0))).toArray] W fun e W' => (e = .returned (.bool true) ∧ J (pre ++ [x]) W' ∧ Below n₀ W W') ∨ (e = .returned (.bool false) ∧ Jx (pre ++ [x]) W')) := hY
  have h0H : Hid (J (up (prL n).length (eAll ttF n 0).length) W ∧ Below n₀ W W) := ⟨h0, Below.refl _ _⟩
  clear hY h0 hcell hBs
  refine callsIn_of_wp Tryz.func102 rfl hf ?_ hro
  simp only [Tryz.ntmps102, List.size_toArray, List.length_cons, List.length_nil, Nat.reduceAdd, Nat.reduceSub, Array.replicate_succ, Array.replicate_zero, List.push_toArray, List.append_toArray, List.nil_append, List.cons_append]
  gi_wp2
  clear hcW
  gi_loopw [6] (fun u wr => ∃ i : Nat, i ≤ n ∧ u = .int .i64 (i : Int) ∧ Hid (J (up (prL n).length (eAll ttF n i).length) wr ∧ Below n₀ W wr))
    (fun u _ => n - (intOf u).toNat)
  case atStart => exact ⟨0, Nat.zero_le _, rfl, h0H⟩
  case round =>
    clear h0H
    obtain ⟨i, hi, rfl, hs⟩ := hrel
    by_cases hlt : i < n
    · have hiI : (i : Int) < n := by omega
      have hi0 : (i : Int) ≤ 256 := by omega
      have hw1 : wrap64 ((i : Int) + 1) = (i : Int) + 1 := by unfold wrap64; omega
      have hs1 : Hid (J (up (prL n).length (prK n i (i + 1)).length) wr ∧ Below n₀ W wr) := by rw [prK_start]; exact hs
      gi_wp2
      clear hs
      gi_loopw [4] (fun u wq => ∃ k : Nat, i + 1 ≤ k ∧ k ≤ n ∧ u = .int .i64 (k : Int) ∧ Hid (J (up (prL n).length (prK n i k).length) wq ∧ Below n₀ W wq)) (fun u _ => n - (intOf u).toNat)
      case atStart => exact ⟨i + 1, Nat.le_refl _, by omega, by simp, hs1⟩
      case round =>
        clear hs1
        obtain ⟨k, hk1, hk2, rfl, hs⟩ := hrel
        have hcx := hcH.out _ hs.out.2
        by_cases hkl : k < n
        · have hkI : (k : Int) < n := by omega
          have hk0 : (k : Int) ≤ 256 := by omega
          obtain ⟨q1, q2⟩ := prL_at (n := n) (show i < k by omega) hkl
          obtain ⟨fn, tmps, assign, body, hy, hR⟩ := hYH.out (up (prL n).length (prK n i k).length) ⟨(prK n i k).length, q1⟩ _ hs.out.1 (by rw [up_len (by omega)]; exact q1)
          have hm : Hid (up (prL n).length (prK n i (k + 1)).length = up (prL n).length (prK n i k).length ++ [⟨(prK n i k).length, q1⟩]) := by
            show _ = _
            rw [prK_more (by omega), List.length_append, List.length_singleton]
            exact up_more q1
          dsimp only at hy
          rw [q2] at hy
          simp only [edg] at hy
          clear q2
          gi_wp2
          refine hR.mono ?_
          rintro e W3 (⟨rfl, hJ3, hk3⟩ | ⟨rfl, hJx3⟩)
          · have hs3 : Hid (J (up (prL n).length (prK n i (k + 1)).length) W3 ∧ Below n₀ W W3) := ⟨by rw [hm.out]; exact hJ3, hs.out.2.trans hk3⟩
            clear hJ3 hk3 hs hm
            gi_wp2
            go_roundw
            case rel => exact ⟨k + 1, by omega, by omega, by go_num, hs3⟩
            case measure => simp [intOf]; omega
          · gi_wp2
            refine bodyPost_ret (results_none rfl _ _ _) rfl ?_
            exact ⟨⟨_, rfl⟩, .inr ⟨_, trivial, hJx3⟩⟩
        · have hkn : k = n := by omega
          have hs2 : Hid (J (up (prL n).length (eAll ttF n (i + 1)).length) wr ∧ Below n₀ W wr) := by rw [hkn] at hs; exact hs
          subst hkn
          clear hs
          gi_wp2
          go_roundw
          case rel => exact ⟨i + 1, by omega, by go_num, hs2⟩
          case measure => simp [intOf]; omega
    · have hin : i = n := by omega
      have hJj : J (up (prL n).length (prL n).length) wr := by rw [hin] at hs; exact hs.out.1
      subst hin
      clear hs
      gi_wp2
      go_end0
      first
        | exact ⟨⟨_, rfl⟩, .inl hJj⟩
        | exact ⟨⟨_, rfl⟩, .inl ⟨_, rfl, hJj⟩⟩
set_option maxHeartbeats 1000000 in
theorem allPairs_any (n : Int) (w : World) : Calls Tryz.prog 62 #[.int .i64 n] w fun e w' => e = .returned (.func (.func 102) #[] #[.pointer (some ⟨w.heap.size, 0, none⟩)]) ∧ w' = w.alloc (.cells #[.int .i64 n] 3) := by
  go_enter Tryz.func62, Tryz.ntmps62
  go_wp2
  go_ret
  exact ⟨rfl, rfl⟩
theorem all_stops (F : Fence) (m : Nat) (hf : F.fn 102) (hro : F.round = none) (hn : 1 ≤ m) (Bs n₀ n : Nat) (hj : n ≤ 256) (w : World) (hB : Bs < n₀) (hn0 : n₀ ≤ w.heap.size) (hBs : w.heap[Bs]? = some (.cells #[.int .i64 (n : Int)] 3)) :
    SeqStopsK F m Tryz.prog 102 #[.pointer (some ⟨Bs, 0, none⟩)] (fun x : { i : Nat // i < (prL n).length } => #[.agg (edg ((prL n).getD x.1 (0, 0))).toArray]) (Below n₀) (fun ys => ys = up (prL n).length (prL n).length) (fun _ => True) (prL n).length w :=
  fun l J Jx W hW hJ _ hY h0 => all1_in F m hf hro hn l Bs n₀ n _ hj J Jx hJ hY W hB (by have := hW.size; omega) ((hW.block Bs (by omega)).trans hBs) h0
end Go.Proofs.YtafefnkgdnmjbaaGreatDoor.pg
