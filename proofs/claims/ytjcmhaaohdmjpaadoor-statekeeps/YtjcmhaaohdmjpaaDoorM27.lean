/- The statements' own little program begins. -/
import Derived.Test.YtjcmhaaohdmjpaaDoorM25
import Derived.Test.YtjcmhaaohdmjpaaDoorM26
namespace Go.Proofs.YtjcmhaaohdmjpaaDoor.pg
open Go.ChangeShapes Go.WideShapes Go.ChangeAt Go.RowKit
set_option linter.unusedVariables false
set_option linter.unusedSimpArgs false
set_option maxRecDepth 100000
def litP : Pr := ⟨[⟨false, 7⟩], 0, [], [⟨0, 1, [⟨40, 0, 0, 0, 5⟩, ⟨64, 0, 0, 0, 0⟩, ⟨45, 0, 0, 0, 0⟩], []⟩]⟩
theorem chk_lit : chk insP litP = (0, 0, 0) := by decide
/-- The program, its variable in block B, its code in B + 1, its function in B + 2. -/
def litM (B : Nat) : MPr := ⟨some ⟨B, 0, none⟩, 1, [⟨false, 7⟩], 0, none, 0, [], some ⟨B + 1 + 1, 0, none⟩, 1, [⟨0, 1, some ⟨B + 1, 0, none⟩, 3, [⟨40, 0, 0, 0, 5⟩, ⟨64, 0, 0, 0, 0⟩, ⟨45, 0, 0, 0, 0⟩], none, 0, []⟩]⟩
theorem litM_pr (B : Nat) : (litM B).pr = litP := rfl
def litS : Sts := ⟨[7, 0, 0, 0, 0, 0, 0, 0], [0, 0, 0, 0], [zeroC, zeroC, zeroC, zeroC], [⟨1, 0, 1, 0, [5, 0, 0, 0, 0, 0, 0, 0]⟩, zeroG, zeroG, zeroG, zeroG, zeroG], 1⟩
def litT : Sts := ⟨[7, 0, 0, 0, 0, 0, 0, 0], [0, 0, 0, 0], [zeroC, zeroC, zeroC, zeroC], [⟨5, 0, 0, 0, zero8⟩, zeroG, zeroG, zeroG, zeroG, zeroG], 1⟩
theorem lit_start1 : startR litP 1 = (litS, 0) := by
  unfold startR
  rw [if_pos (by rw [chk_lit]), if_pos (by omega)]
  rfl
theorem lit_start0 : startR litP 0 = (litT, 0) := by
  unfold startR
  rw [if_pos (by rw [chk_lit]), if_pos (by omega)]
  rfl
theorem four_boxes (w : World) (a b c d : Obj) : ((((w.alloc a).alloc b).alloc c).alloc d).heap[w.heap.size]? = some a ∧ ((((w.alloc a).alloc b).alloc c).alloc d).heap[w.heap.size + 1]? = some b ∧ ((((w.alloc a).alloc b).alloc c).alloc d).heap[w.heap.size + 1 + 1]? = some c ∧ ((((w.alloc a).alloc b).alloc c).alloc d).heap[w.heap.size + 1 + 1 + 1]? = some d := by
  obtain ⟨h1, h2, h3⟩ := three_boxes w a b c
  refine ⟨((boxed _ d).block _ (by simp only [World.size_alloc]; omega)).trans h1, ((boxed _ d).block _ (by simp only [World.size_alloc]; omega)).trans h2, ((boxed _ d).block _ (by simp only [World.size_alloc]; omega)).trans h3, ?_⟩
  have := heap_alloc_new (((w.alloc a).alloc b).alloc c) d
  rwa [World.size_alloc, World.size_alloc, World.size_alloc] at this
theorem rows_nilS (w : World) (k : Nat) : Rows w k none 0 [] := ⟨by simp, by simp, by simp, .inl rfl⟩
theorem i0S : I64 0 := ⟨by decide, by decide⟩
theorem lit_lies {w : World} {B : Nat} (h1 : w.heap[B]? = some (.cells #[.bool false, .int .i64 7] 68)) (h2 : w.heap[B + 1]? = some (.cells #[.int .i64 40, .int .i64 0, .int .i64 0, .int .i64 0, .int .i64 5, .int .i64 64, .int .i64 0, .int .i64 0, .int .i64 0, .int .i64 0, .int .i64 45, .int .i64 0, .int .i64 0, .int .i64 0, .int .i64 0] 74))
    (h3 : w.heap[B + 1 + 1]? = some (.cells #[.int .i64 0, .int .i64 1, .slice (some ⟨B + 1, 0, none⟩) 3 3, .slice none 0 0] 58)) : (litM B).lies w := by
  refine ⟨rows_of (cs := [.bool false, .int .i64 7]) h1 [[.bool false, .int .i64 7]] (by simp) (by simp [litM]) (by simp [litM]) [] [] rfl rfl, rows_nilS w 1, rows_of (cs := [.int .i64 0, .int .i64 1, .slice (some ⟨B + 1, 0, none⟩) 3 3, .slice none 0 0]) h3 [[.int .i64 0, .int .i64 1, .slice (some ⟨B + 1, 0, none⟩) 3 3, .slice none 0 0]] (by simp) (by simp [litM]) (by simp [litM]) [] [] rfl rfl, ?_, i0S, by simp [litM], ?_⟩
  · intro x hx
    have : x = ⟨false, 7⟩ := by simpa [litM] using hx
    subst this
    exact ⟨by decide, by decide⟩
  · intro f hf
    simp only [litM, List.mem_singleton] at hf
    subst hf
    refine ⟨rows_of (cs := [.int .i64 40, .int .i64 0, .int .i64 0, .int .i64 0, .int .i64 5, .int .i64 64, .int .i64 0, .int .i64 0, .int .i64 0, .int .i64 0, .int .i64 45, .int .i64 0, .int .i64 0, .int .i64 0, .int .i64 0]) h2 [[.int .i64 40, .int .i64 0, .int .i64 0, .int .i64 0, .int .i64 5], [.int .i64 64, .int .i64 0, .int .i64 0, .int .i64 0, .int .i64 0], [.int .i64 45, .int .i64 0, .int .i64 0, .int .i64 0, .int .i64 0]] (by simp) (by simp) (by simp) [] [] rfl rfl, rows_nilS w 2, ?_, by simp, i0S, (show I64 1 from ⟨by decide, by decide⟩)⟩
    intro x hx
    simp only [List.mem_cons, List.not_mem_nil, or_false] at hx
    rcases hx with rfl | rfl | rfl <;> (unfold Ins.wf I64; decide)
theorem litS_valid : validS litP litS ∧ litS.wf := by
  have h : startS word.apF litP (1 : Int).toNat = litS := by
    have := lit_start1
    unfold startR at this
    rw [if_pos (by rw [chk_lit]), if_pos (by omega)] at this
    exact (Prod.mk.inj this).1
  rw [← h]
  refine start_valid hapF (by rw [chk_lit]) ?_ ?_ _
  · intro f hf i hi
    have : f = ⟨0, 1, [⟨40, 0, 0, 0, 5⟩, ⟨64, 0, 0, 0, 0⟩, ⟨45, 0, 0, 0, 0⟩], []⟩ := by simpa [litP] using hf
    subst this
    simp only [List.mem_cons, List.not_mem_nil, or_false] at hi
    rcases hi with rfl | rfl | rfl <;> (unfold I64; decide)
  · intro x hx
    have : x = ⟨false, 7⟩ := by simpa [litP] using hx
    subst this
    exact ⟨by decide, by decide⟩
theorem litT_wf : litT.wf := by
  refine ⟨rfl, rfl, rfl, rfl, litS_valid.2.av, litS_valid.2.ao, litS_valid.2.ac, ?_, ⟨by decide, by decide⟩⟩
  intro g hg
  have : g = ⟨5, 0, 0, 0, zero8⟩ ∨ g = zeroG := by simpa [litT] using hg
  rcases this with rfl | rfl
  · exact ⟨⟨by decide, by decide⟩, ⟨by decide, by decide⟩, ⟨by decide, by decide⟩, ⟨by decide, by decide⟩, rfl, zero8_all⟩
  · exact zeroG_wf
set_option maxHeartbeats 4000000 in
theorem smallS_any (w : World) (hF : prog.Forms w) : Calls Tryd.prog 13 #[] w fun e w' => e = .returned (.bool true) ∧ Below w.heap.size w w' := by
  obtain ⟨h1, h2, h3, h4⟩ := four_boxes w (.cells #[.bool false, .int .i64 7] 68) (.cells #[.int .i64 40, .int .i64 0, .int .i64 0, .int .i64 0, .int .i64 5, .int .i64 64, .int .i64 0, .int .i64 0, .int .i64 0, .int .i64 0, .int .i64 45, .int .i64 0, .int .i64 0, .int .i64 0, .int .i64 0] 74) (.cells #[.int .i64 0, .int .i64 1, .slice (some ⟨w.heap.size + 1, 0, none⟩) 3 3, .slice none 0 0] 58) (.cells #[.slice (some ⟨w.heap.size, 0, none⟩) 1 1, .int .i64 0, .slice none 0 0, .slice (some ⟨w.heap.size + 1 + 1, 0, none⟩) 1 1] 26)
  have hb := bthen (boxed3 w (.cells #[.bool false, .int .i64 7] 68) (.cells #[.int .i64 40, .int .i64 0, .int .i64 0, .int .i64 0, .int .i64 5, .int .i64 64, .int .i64 0, .int .i64 0, .int .i64 0, .int .i64 0, .int .i64 45, .int .i64 0, .int .i64 0, .int .i64 0, .int .i64 0] 74) (.cells #[.int .i64 0, .int .i64 1, .slice (some ⟨w.heap.size + 1, 0, none⟩) 3 3, .slice none 0 0] 58)) (boxed _ (.cells #[.slice (some ⟨w.heap.size, 0, none⟩) 1 1, .int .i64 0, .slice none 0 0, .slice (some ⟨w.heap.size + 1 + 1, 0, none⟩) 1 1] 26))
  have hlies := lit_lies h1 h2 h3
  have hFH : Hid (prog.Forms w) := hF
  have huS : Hid (Tryd.prog.underlying 38 = _) := Tryd.underlying38
  clear h1 h2 h3 hF
  go_enter Tryd.func13, Tryd.ntmps13
  go_upto_region 2 with fail
  generalize (((w.alloc (.cells #[.bool false, .int .i64 7] 68)).alloc (.cells #[.int .i64 40, .int .i64 0, .int .i64 0, .int .i64 0, .int .i64 5, .int .i64 64, .int .i64 0, .int .i64 0, .int .i64 0, .int .i64 0, .int .i64 45, .int .i64 0, .int .i64 0, .int .i64 0, .int .i64 0] 74)).alloc (.cells #[.int .i64 0, .int .i64 1, .slice (some ⟨w.heap.size + 1, 0, none⟩) 3 3, .slice none 0 0] 58)).alloc (.cells #[.slice (some ⟨w.heap.size, 0, none⟩) 1 1, .int .i64 0, .slice none 0 0, .slice (some ⟨w.heap.size + 1 + 1, 0, none⟩) 1 1] 26) = W at *
  have hbP : Hid (BoxP W (w.heap.size + 1 + 1 + 1) (litM w.heap.size)) := ⟨cell_ofG h4 rfl, cell_ofG h4 rfl, cell_ofG h4 rfl, cell_ofG h4 rfl⟩
  have hlH : Hid ((litM w.heap.size).lies W) := hlies
  have hbH : Hid (Below w.heap.size w W) := hb
  have xA := start_any (litM w.heap.size) 1 W hlies (hFH.out.later hb) litS 0 (by show _ = _; rw [litM_pr, lit_start1])
  have cB : ∀ V, Below W.heap.size W V → Calls Tryd.prog 10 #[(litM w.heap.size).val, .int .i64 0] V _ := fun V hV => start_any (litM w.heap.size) 0 V (hlH.out.later hV) (hFH.out.later (bthen hbH.out hV)) litT 0 (by show _ = _; rw [litM_pr, lit_start0])
  have cV : ∀ V, Below W.heap.size W V → Calls Tryd.prog 16 #[(litM w.heap.size).val, litS.val] V _ := fun V hV => valid_any (litM w.heap.size) litS litS_valid.2 V (hlH.out.later hV) (hFH.out.later (bthen hbH.out hV)) true ⟨fun _ => by rw [litM_pr]; exact litS_valid.1, fun _ => rfl⟩
  generalize w.heap.size + 1 + 1 + 1 = PB at *
  obtain ⟨p0, p1, p2, p3⟩ := hbP.out
  clear h4 hlies hb
  go_upto_region 3 with (first
    | (go_at_call 10; (refine xA.mono ?_); rintro e w2 ⟨rfl, hb2⟩; (have hzi : (w2.alloc (objSt zeroS)).heap[w2.heap.size]? = some (objSt zeroS) := heap_alloc_new w2 _))
    | (refine wpList_alloc_big rfl 38 rfl zv_S ?_)
    | (refine wpList_store_row rfl 38 _ _ rfl w2.heap.size litS.cells.toArray rfl rfl _ _ hzi (infoS litS_valid.2) rfl (oneS litS) ?_))
  try simp only [Act.put, List.setIfInBounds_toArray, List.set_cons_zero, List.set_cons_succ]
  have hS1 : Hid (InS ((w2.alloc (objSt zeroS)).setRow w2.heap.size litS.cells.toArray) w2.heap.size litS) := setRow_heap _ _ _ _ _ _ hzi
  have hW1 : Hid (Below W.heap.size W ((w2.alloc (objSt zeroS)).setRow w2.heap.size litS.cells.toArray)) := below_setRowG (bthen hb2 (boxed _ _)) hb2.size _
  generalize (w2.alloc (objSt zeroS)).setRow w2.heap.size litS.cells.toArray = V at *
  generalize w2.heap.size = SB at *
  clear hzi hb2 xA p0 p1 p2 p3
  obtain ⟨p0, p1, p2, p3⟩ := hbP.out.later hW1.out
  have xB := cB V hW1.out
  go_upto_region 4 with (first
    | (go_at_call 10; (refine xB.mono ?_); rintro e w3 ⟨rfl, hb3⟩; (have hzi : (w3.alloc (objSt zeroS)).heap[w3.heap.size]? = some (objSt zeroS) := heap_alloc_new w3 _))
    | (refine wpList_alloc_big rfl 38 rfl zv_S ?_)
    | (refine wpList_store_row rfl 38 _ _ rfl w3.heap.size litT.cells.toArray rfl rfl _ _ hzi (infoS litT_wf) rfl (oneS litT) ?_))
  try simp only [Act.put, List.setIfInBounds_toArray, List.set_cons_zero, List.set_cons_succ]
  have hT1 : Hid (InS ((w3.alloc (objSt zeroS)).setRow w3.heap.size litT.cells.toArray) w3.heap.size litT) := setRow_heap _ _ _ _ _ _ hzi
  have hbw : Below V.heap.size V ((w3.alloc (objSt zeroS)).setRow w3.heap.size litT.cells.toArray) := below_setRowG (bthen hb3 (boxed _ _)) hb3.size _
  have hS2 : Hid (InS ((w3.alloc (objSt zeroS)).setRow w3.heap.size litT.cells.toArray) SB litS) := hS1.out.later hbw
  have hW2 : Hid (Below W.heap.size W ((w3.alloc (objSt zeroS)).setRow w3.heap.size litT.cells.toArray)) := bthen hW1.out hbw
  generalize (w3.alloc (objSt zeroS)).setRow w3.heap.size litT.cells.toArray = U at *
  generalize w3.heap.size = TB at *
  clear hzi hb3 xB cB hbw hS1 hW1 p0 p1 p2 p3
  obtain ⟨p0, p1, p2, p3⟩ := hbP.out.later hW2.out
  have xV := cV U hW2.out
  have hSS := hS2.out
  have k0 := cell_ofG (k := 0) (v := .int .i64 7) hS2.out rfl
  have k48 := cell_ofG (k := 48) (v := .int .i64 1) hS2.out rfl
  have k50 := cell_ofG (k := 50) (v := .int .i64 1) hS2.out rfl
  have k52 := cell_ofG (k := 52) (v := .int .i64 5) hS2.out rfl
  have l48 := cell_ofG (k := 48) (v := .int .i64 5) hT1.out rfl
  have g1 := ixg0 SB
  have g2 := ixg0 TB
  have g3 : ∀ wx, (Instr.indexAt 28 (.pointer (some ⟨SB, 0, none⟩)) (.int .i64 0)).run Tryd.prog wx = .ok (.pointer (some ⟨SB, 0, none⟩)) wx := ixv8 SB 0 (by omega)
  have g4 : ∀ wx, (Instr.indexAt 28 (.pointer (some ⟨SB, 52, none⟩)) (.int .i64 0)).run Tryd.prog wx = .ok (.pointer (some ⟨SB, 52, none⟩)) wx := ixp (t := 28) Tryd.underlying28 (fun wx => Tryd.sizeOf2 wx) SB 52 0 (by omega) (by omega)
  have hrS : Hid (U.rangeAt SB 0 litS.cells) := range_of hS2.out [] litS.cells [] (by simp) 0 rfl
  have hinL : Hid ((Tryd.prog.info? 38).map (·.size) = some litS.cells.length) := by have := infoS litS_valid.2; rwa [List.size_toArray] at this
  clear cV hS2 hT1 hSS
  go_wp2_with (first
    | (refine wpList_load_g (by rfl) 38 _ rfl SB 0 rfl litS.cells _ hrS.out huS.out rfl hinL.out ?_)
    | (go_at_call 16; (refine xV.mono ?_); rintro e w5 ⟨rfl, hb5⟩))
  go_ret
  exact ⟨rfl, bthen (bthen hbH.out hW2.out) hb5⟩
end Go.Proofs.YtjcmhaaohdmjpaaDoor.pg
/- StateValids, walked. -/
namespace Go.Proofs.YtjcmhaaohdmjpaaDoor.pg
open Go.ChangeShapes Go.WideShapes Go.ChangeAt Go.RowKit
set_option linter.unusedVariables false
set_option linter.unusedSimpArgs false
set_option maxRecDepth 100000
/-- Where the argument lies while a statement is gone through. -/
structure Lw (w wr : World) (M : MPr) (s : Sts) (g f : Int) : Prop where
  b : Below w.heap.size w wr
  a : InCa wr w.heap.size M s g f
theorem Lw.later {w wr w' : World} {M : MPr} {s : Sts} {g f : Int} (h : Lw w wr M s g f) (hb : Below wr.heap.size wr w') : Lw w w' M s g f := ⟨bthen h.b hb, h.a.later hb⟩
set_option maxHeartbeats 6000000 in
theorem valids_any (M : MPr) (s : Sts) (hs : s.wf) (g f : Int) (w : World) (hM : M.lies w) (hF : prog.Forms w) :
    Calls Tryd.prog 5 #[caseV M s g f] w fun e w' => e = .returned (.bool true) ∧ Below w.heap.size w w' := by
  have hL0 : Hid (Lw w (w.alloc (objCa M s g f)) M s g f) := ⟨boxed _ _, inCa_new _ _ _ _ _⟩
  have hMH : Hid (M.lies w) := hM
  have hFH : Hid (prog.Forms w) := hF
  have hsH : Hid s.wf := hs
  have huS : Hid (Tryd.prog.underlying 38 = _) := Tryd.underlying38
  have hinL : Hid ((Tryd.prog.info? 38).map (·.size) = some s.cells.length) := by have := infoS hs; rwa [List.size_toArray] at this
  clear hM hF hs
  go_enter Tryd.func5, Tryd.ntmps5
  go_upto_region 1 with fail
  generalize w.alloc (objCa M s g f) = W at *
  obtain ⟨R, hR⟩ : ∃ R : Bool, Hid (R = true ↔ validS M.pr s) := by
    by_cases h : validS M.pr s
    · exact ⟨true, fun _ => h, fun _ => rfl⟩
    · exact ⟨false, fun q => (by cases q), fun q => absurd q h⟩
  have cA : ∀ x : Cls (Bey W), Calls Tryd.prog 16 #[M.val, s.val] x.w fun e w' => e = .returned (.bool R) ∧ Below x.w.heap.size x.w w' := fun x => valid_any M s hsH.out x.w (hMH.out.later (bthen hL0.out.b x.h)) (hFH.out.later (bthen hL0.out.b x.h)) R hR
  have cB : ∀ x : Cls (Bey W), Calls Tryd.prog 17 #[M.val, s.val] x.w fun e w' => e = .returned (.bool R) ∧ Below x.w.heap.size x.w w' := fun x => rvalid_any M s hsH.out x.w (hMH.out.later (bthen hL0.out.b x.h)) R hR
  have cC : ∀ x : Cls (Bey W), Calls Tryd.prog 13 #[] x.w fun e w' => e = .returned (.bool true) ∧ Below x.w.heap.size x.w w' := fun x => smallS_any x.w (hFH.out.later (bthen hL0.out.b x.h))
  have tS : ∀ x : Cls (Bey W), x.w.rangeAt w.heap.size 4 s.cells := fun x j u hj => bey_cell (hL0.out.a.s j u hj) x
  obtain ⟨p0, p1, p2, p3⟩ := hL0.out.a.p
  have t0 := fun x => bey_cell (W := W) p0 x
  have t1 := fun x => bey_cell (W := W) p1 x
  have t2 := fun x => bey_cell (W := W) p2 x
  have t3 := fun x => bey_cell (W := W) p3 x
  have hne := bey_some W
  clear p0 p1 p2 p3 hR
  cases R with
  | true =>
    go_wp2_with fail
    refine wp_region_cls (Bey W) (by kernel_rfl) (by kernel_rfl) (bey_drew W) ?_
    repeat (first
      | (go_big_quiet_want; (refine quiet_load_mid 38 _ rfl w.heap.size 4 rfl _ _ tS huS.out rfl hinL.out ?_); (simp only [Act.put, List.setIfInBounds_toArray, List.set_cons_zero, List.set_cons_succ]); go_big_quiet_on)
      | go_big_quiet_step (first | (go_at_call 16; exact calls_bey (cA _)) | (go_at_call 17; exact calls_bey (cB _)) | (go_at_call 13; exact calls_bey (cC _))))
    refine wpQuiet_nil ?_
    intro _ hw'
    obtain ⟨sq, hw''⟩ := hw'
    subst hw''
    go_wp2
    go_ret
    exact ⟨rfl, bthen hL0.out.b sq.h⟩
  | false =>
    go_wp2_with fail
    refine wp_region_cls (Bey W) (by kernel_rfl) (by kernel_rfl) (bey_drew W) ?_
    repeat (first
      | (go_big_quiet_want; (refine quiet_load_mid 38 _ rfl w.heap.size 4 rfl _ _ tS huS.out rfl hinL.out ?_); (simp only [Act.put, List.setIfInBounds_toArray, List.set_cons_zero, List.set_cons_succ]); go_big_quiet_on)
      | go_big_quiet_step (first | (go_at_call 16; exact calls_bey (cA _)) | (go_at_call 17; exact calls_bey (cB _)) | (go_at_call 13; exact calls_bey (cC _))))
    refine wpQuiet_nil ?_
    intro _ hw'
    obtain ⟨sq, hw''⟩ := hw'
    subst hw''
    go_wp2
    go_ret
    exact ⟨rfl, bthen hL0.out.b sq.h⟩
end Go.Proofs.YtjcmhaaohdmjpaaDoor.pg
