/- The document's first order, and LinearOrders walked. -/
import Derived.Test.YtklpifammbnldaaM34
import Derived.Test.YtklpifammbnldaaM28
namespace Go.Proofs.Ytklpifammbnldaa.pg
open Go.ChangeShapes Go.WideShapes Go.ChangeAt Go.RowKit
set_option linter.unusedVariables false
set_option linter.unusedSimpArgs false
set_option maxRecDepth 100000
attribute [local go_sem ↓] Go.wp_at_zero Go.wp_at_succ
section
variable {w0 w : World} {k : Int} {h : List Cl} {ha : Option Addr} {hc : Nat} {tm : Bool} {S : Nat}
theorem on_any (hn : h.length ≤ 8) (hR : RightH k h) (hI : ∀ x ∈ h, I64 x.inn) (hrd : RelD (relT tm) h) (hh : Rows w0 7 ha hc (h.map Cl.cells)) : ∀ (fu D : Nat) (c : List Int) (W : World) (T : List Tr) (oa : Option Addr) (oc : Nat) (n : Int) (a : Option Addr) (ml lc : Nat), D < 256 → h.length ≤ fu + cntD (fD D) h.length → InvC k c (cntD (fD D) h.length) → closD (relT tm) h (fD D) → SdS w0 W k h ha hc tm S T oa oc → (∀ q ∈ T, fsB k (relT tm) h (fD q.D) q.c = none) → T.length + 9 ^ (fu + 1) ≤ 2 ^ 40 → RepD W k c n a ml lc → (∀ b ∈ blk a, b ≠ S ∧ b ∉ blk oa ∧ b < W.heap.size) →
    Calls Try.prog 32 #[.pointer (some ⟨S, 0, none⟩), .int .i64 (D : Int), .agg #[.int .i64 n, .slice a ml lc]] W (SonP w0 W k h ha hc tm S T oa D c fu) := by
  intro fu
  induction fu with
  | zero =>
    intro D c W T oa oc n a ml lc hD hm hi hcd hg hv hN hx hxb
    exact on_whole 0 hn hD hh (all_done (by omega)) hg hv
  | succ fu ih =>
    intro D c W T oa oc n a ml lc hD hm hi hcd hg hv hN hx hxb
    rcases Bool.eq_false_or_eq_true (wholeB h (fD D)) with hw | hw
    · exact on_whole (fu + 1) hn hD hh hw hg hv
    · have hlt : cntD (fD D) h.length < h.length := by
        rcases Nat.lt_or_ge (cntD (fD D) h.length) h.length with q | q
        · exact q
        · rw [all_done q] at hw; cases hw
      refine on_part fu hn hD hR hcd hrd hh hw hi (by omega) hg hv hN hx hxb fun i X T' oa' oc' n' a' m' lc' hil hmay hfit hg' hx' hxb' hv' hN' => ?_
      have e : cntD (fD (D ||| 2 ^ i)) h.length = cntD (fD D) h.length + 1 := by rw [fD_set]; exact cntD_set (may_not hmay) hil
      have hxm := hf_mem hil
      refine ih (D ||| 2 ^ i) _ X T' oa' oc' n' a' m' lc' (orD_lt hD (by omega)) (by rw [e]; omega) ?_ ?_ hg' hv' hN' hx' hxb'
      · rw [e]
        exact inv_next hi (hR.c _ hxm).1 (hI _ hxm)
      · rw [fD_set]
        exact closD_next hcd hmay
theorem bld_S6 (k : Int) (ha : Option Addr) (n hc : Nat) (tm : Bool) : ∀ wx, (Instr.build TS6 #[(0, .int .i64 k), (1, .slice ha n hc), (2, .bool tm)]).run Try.prog wx = .ok (.agg #[.int .i64 k, .slice ha n hc, .bool tm, .slice none 0 0]) wx := fun wx => by kernel_rfl
theorem bld_S6f (k : Int) (ha : Option Addr) (n hc : Nat) : ∀ wx, (Instr.build TS6 #[(0, .int .i64 k), (1, .slice ha n hc)]).run Try.prog wx = .ok (.agg #[.int .i64 k, .slice ha n hc, .bool false, .slice none 0 0]) wx := fun wx => by kernel_rfl
theorem bld_D9 : ∀ wx, (Instr.build TD6 #[]).run Try.prog wx = .ok (.agg #[.int .i64 0, .slice none 0 0]) wx := fun wx => by kernel_rfl
/-- What the document's Linear and Turns answer. -/
def RlinP (k : Int) (h : List Cl) (rel : Cl → Cl → Bool) (e : Ending) (w' : World) : Prop :=
  ∃ (ra : Option Addr) (rc : Nat), e = .returned (.tuple #[.slice ra ((fsB k rel h (fun _ => false) (firstC k)).getD []).length rc, .bool (fsB k rel h (fun _ => false) (firstC k)).isSome]) ∧ Rows w' 1 ra rc ((asI ((fsB k rel h (fun _ => false) (firstC k)).getD [])).map chCells)
theorem rlin_of (hn : h.length ≤ 8) (hR : RightH k h) (hI : ∀ x ∈ h, I64 x.inn) (hrd : RelD (relT tm) h) (hh : Rows w 7 ha hc (h.map Cl.cells)) : Calls Try.prog 32 #[.pointer (some ⟨w.heap.size, 0, none⟩), .int .i64 0, .agg #[.int .i64 0, .slice none 0 0]] (w.alloc (oSd k ha h.length hc tm none 0 0)) fun e w' => RlinP k h (relT tm) e w' ∧ Below w.heap.size w w' := by
  have hg : SdS w (w.alloc (oSd k ha h.length hc tm none 0 0)) k h ha hc tm w.heap.size [] none 0 := ⟨heap_alloc_new _ _, own_nil_q _ _ _ _, boxed _ _, Nat.le_refl _, by simp [blk], fun q hq => by simp at hq, fun q hq => by simp at hq⟩
  have := on_any (S := w.heap.size) hn hR hI hrd hh 8 0 (firstC k) _ [] none 0 0 none 0 0 (by decide) (by omega) (by rw [fD_zero, cnt_none8]; exact inv_first) (by rw [fD_zero]; exact closD_zero _ _) hg (fun q hq => by simp at hq) (by decide) (repD_zero _ hR.kd) (fun b hb => by simp [blk] at hb)
  rw [show ((0 : Nat) : Int) = 0 from rfl] at this
  refine this.mono ?_
  rintro e w' ⟨T', oa', oc', hg', _, _, _, hres⟩
  rw [fD_zero] at hres
  refine ⟨?_, hg'.b⟩
  rcases hres with ⟨hno, rfl⟩ | ⟨r, ra, rc, hso, rfl, hra⟩
  · refine ⟨none, 0, by rw [hno]; rfl, ?_⟩
    rw [hno]
    exact ⟨Nat.le_refl _, by decide, fun _ => ⟨rfl, rfl⟩, .inl rfl⟩
  · exact ⟨ra, rc, by rw [hso]; rfl, by rw [hso]; exact hra⟩
set_option maxHeartbeats 4000000 in
theorem rlinear_any (hR : RightH k h) (hI : ∀ x ∈ h, I64 x.inn) (hh : Rows w 7 ha hc (h.map Cl.cells)) : Calls Try.prog 14 #[.int .i64 k, .slice ha h.length hc] w fun e w' => RlinP k h endB e w' ∧ Below w.heap.size w w' := by
  have cO := rlin_of (tm := true) hR.n hR hI (relD_end hR) hh
  have hbl := bld_S6 k ha h.length hc true
  clear hR hI hh
  go_enter Try.func14, Try.ntmps14
  go_wp2_with (first
    | ((with_reducible refine at_buildL TS6 _ rfl ?_); refine stopL_out ?_; refine wpList_bldL rfl TS6 _ rfl #[(0, .int .i64 k), (1, .slice ha h.length hc), (2, .bool true)] (by simp only [List.map_toArray, List.map_cons, List.map_nil]; rfl) _ hbl ?_)
    | ((with_reducible refine at_buildL TD6 _ rfl ?_); refine stopL_out ?_; refine wpList_bldL rfl TD6 _ rfl #[] (by simp only [List.map_toArray, List.map_nil]) _ bld_D9 ?_)
    | (go_at_call 32; (with_reducible refine cO.mono ?_); rintro e w1 ⟨⟨ra, rc, rfl, hrw⟩, hb⟩; (have hB : Hid (Below w.heap.size w w1) := hb); (have hRW : Hid _ := hrw); clear hb hrw))
  go_ret2
  exact ⟨⟨ra, rc, rfl, hRW.out⟩, hB.out⟩
set_option maxHeartbeats 4000000 in
theorem rturns_any (hR : RightH k h) (hI : ∀ x ∈ h, I64 x.inn) (hh : Rows w 7 ha hc (h.map Cl.cells)) : Calls Try.prog 15 #[.int .i64 k, .slice ha h.length hc] w fun e w' => RlinP k h turnB e w' ∧ Below w.heap.size w w' := by
  have cO := rlin_of (tm := false) hR.n hR hI (relD_turn hR) hh
  have hbl := bld_S6f k ha h.length hc
  clear hR hI hh
  go_enter Try.func15, Try.ntmps15
  go_wp2_with (first
    | ((with_reducible refine at_buildL TS6 _ rfl ?_); refine stopL_out ?_; refine wpList_bldL rfl TS6 _ rfl #[(0, .int .i64 k), (1, .slice ha h.length hc)] (by simp only [List.map_toArray, List.map_cons, List.map_nil]; rfl) _ hbl ?_)
    | ((with_reducible refine at_buildL TD6 _ rfl ?_); refine stopL_out ?_; refine wpList_bldL rfl TD6 _ rfl #[] (by simp only [List.map_toArray, List.map_nil]) _ bld_D9 ?_)
    | (go_at_call 32; (with_reducible refine cO.mono ?_); rintro e w1 ⟨⟨ra, rc, rfl, hrw⟩, hb⟩; (have hB : Hid (Below w.heap.size w w1) := hb); (have hRW : Hid _ := hrw); clear hb hrw))
  go_ret2
  exact ⟨⟨ra, rc, rfl, hRW.out⟩, hB.out⟩
theorem findV_opt {rel : Cl → Cl → Bool} {a : Option Addr} {n c : Nat} {b : Bool} {x : Int} {w' : World} {lo : Nat} (q : FindV k h rel lo a n c b x w') (hR : RightH k h) : n = ((fsB k rel h (fun _ => false) (firstC k)).getD []).length ∧ b = (fsB k rel h (fun _ => false) (firstC k)).isSome ∧ x = 0 ∧ Rows w' 1 a c ((asI ((fsB k rel h (fun _ => false) (firstC k)).getD [])).map chCells) := by
  cases hf : fsB k rel h (fun _ => false) (firstC k) with
  | none =>
    obtain ⟨rfl, rfl, rfl, rfl, rfl⟩ := findV_none q hR hf
    exact ⟨rfl, rfl, rfl, ⟨Nat.le_refl _, by decide, fun _ => ⟨rfl, rfl⟩, .inl rfl⟩⟩
  | some r =>
    obtain ⟨rfl, rfl, rfl, ho, _⟩ := findV_some q hR hf
    exact ⟨rfl, rfl, rfl, ho⟩
set_option maxHeartbeats 4000000 in
theorem orders_bad (hh : Rows w 7 ha hc (h.map Cl.cells)) (hI : ∀ x ∈ h, I64 x.inn) (hR : ¬ RightH k h) : Calls Try.prog 3 #[.int .i64 k, .slice ha h.length hc] w fun e w' => e = .returned (.bool true) ∧ Below w.heap.size w w' := by
  have hhH : Hid (∀ wx, Below w.heap.size w wx → Rows wx 7 ha hc (h.map Cl.cells)) := fun wx q => hh.later q
  have hRH : Hid (¬ RightH k h) := hR
  have cC : ∀ wx, Below w.heap.size w wx → Calls Try.prog 9 #[.int .i64 k, .slice ha h.length hc] wx _ := fun wx q => rcheckH_any (hhH.out wx q)
  have cK : ∀ wx, Below w.heap.size w wx → Calls Try.prog 10 #[.int .i64 k, .slice ha h.length hc] wx _ := fun wx q => check_no (hhH.out wx q) hR
  have cL : ∀ wx, Below w.heap.size w wx → Calls Try.prog 11 #[.int .i64 k, .slice ha h.length hc] wx _ := fun wx q => linear_any (hhH.out wx q) hI
  have cT : ∀ wx, Below w.heap.size w wx → Calls Try.prog 12 #[.int .i64 k, .slice ha h.length hc] wx _ := fun wx q => turns_any (hhH.out wx q) hI
  have cS : ∀ wx, Calls Try.prog 13 #[] wx _ := fun wx => speaks_lin wx
  clear hh hI hR
  go_enter Try.func3, Try.ntmps3
  go_wp2_with (first
    | (go_at_call 9; (with_reducible refine (cC _ (Below.refl _ _)).mono ?_); rintro e w1 ⟨hq, hb⟩; (obtain rfl := (hq.elim (fun q => absurd q.1 hRH.out) (fun q => q.2))); (have hB1 : Hid (Below w.heap.size w w1) := hb); clear hb hq)
    | (go_at_call 10; (with_reducible refine (cK _ hB1.out).mono ?_); rintro e w2 ⟨rfl, hb⟩; (have hB2 : Hid (Below w.heap.size w w2) := bthen hB1.out hb); clear hb cK)
    | (go_at_call 11; (with_reducible refine (cL _ hB2.out).mono ?_); rintro e w3 ⟨a1, n1, c1, b1, x1, rfl, hF, hb⟩; (obtain ⟨rfl, rfl, rfl, rfl, rfl⟩ := findV_bad hF hRH.out); (have hB3 : Hid (Below w.heap.size w w3) := bthen hB2.out hb); clear hF hb cL)
    | (go_at_call 12; (with_reducible refine (cT _ hB3.out).mono ?_); rintro e w4 ⟨a2, n2, c2, b2, x2, rfl, hF, hb⟩; (obtain ⟨rfl, rfl, rfl, rfl, rfl⟩ := findV_bad hF hRH.out); (have hB4 : Hid (Below w.heap.size w w4) := bthen hB3.out hb); clear hF hb cT)
    | (go_at_call 13; (with_reducible refine (cS _).mono ?_); rintro e w9 ⟨rfl, hb⟩; (have hB9 : Hid (Below w.heap.size w w9) := bthen hB4.out hb); clear hb))
  go_ret
  exact ⟨rfl, hB9.out⟩
set_option maxHeartbeats 4000000 in
theorem orders_ok (hh : Rows w 7 ha hc (h.map Cl.cells)) (hI : ∀ x ∈ h, I64 x.inn) (hR : RightH k h) : Calls Try.prog 3 #[.int .i64 k, .slice ha h.length hc] w fun e w' => e = .returned (.bool true) ∧ Below w.heap.size w w' := by
  have hhH : Hid (∀ wx, Below w.heap.size w wx → Rows wx 7 ha hc (h.map Cl.cells)) := fun wx q => hh.later q
  have hRH : Hid (RightH k h) := hR
  have cC : ∀ wx, Below w.heap.size w wx → Calls Try.prog 9 #[.int .i64 k, .slice ha h.length hc] wx _ := fun wx q => rcheckH_any (hhH.out wx q)
  have cK : ∀ wx, Below w.heap.size w wx → Calls Try.prog 10 #[.int .i64 k, .slice ha h.length hc] wx _ := fun wx q => check_yes (hhH.out wx q) hR
  obtain ⟨R1, hR1⟩ : ∃ R1, fsB k endB h (fun _ => false) (firstC k) = R1 := ⟨_, rfl⟩
  obtain ⟨R2, hR2⟩ : ∃ R2, fsB k turnB h (fun _ => false) (firstC k) = R2 := ⟨_, rfl⟩
  have cL : ∀ wx, Below w.heap.size w wx → Calls Try.prog 11 #[.int .i64 k, .slice ha h.length hc] wx fun e w' => ∃ a c, e = .returned (.tuple #[.slice a (R1.getD []).length c, .bool R1.isSome, .int .i64 0]) ∧ Rows w' 1 a c ((asI (R1.getD [])).map chCells) ∧ Below wx.heap.size wx w' := fun wx q => by
    refine (linear_any (hhH.out wx q) hI).mono ?_
    rintro e w' ⟨a, n, c, b, x, rfl, hF, hb⟩
    obtain ⟨rfl, rfl, rfl, ho⟩ := findV_opt hF hR
    rw [hR1] at ho ⊢
    exact ⟨a, c, rfl, ho, hb⟩
  have cT : ∀ wx, Below w.heap.size w wx → Calls Try.prog 12 #[.int .i64 k, .slice ha h.length hc] wx fun e w' => ∃ a c, e = .returned (.tuple #[.slice a (R2.getD []).length c, .bool R2.isSome, .int .i64 0]) ∧ Rows w' 1 a c ((asI (R2.getD [])).map chCells) ∧ Below wx.heap.size wx w' := fun wx q => by
    refine (turns_any (hhH.out wx q) hI).mono ?_
    rintro e w' ⟨a, n, c, b, x, rfl, hF, hb⟩
    obtain ⟨rfl, rfl, rfl, ho⟩ := findV_opt hF hR
    rw [hR2] at ho ⊢
    exact ⟨a, c, rfl, ho, hb⟩
  have cU : ∀ wx, Below w.heap.size w wx → Calls Try.prog 14 #[.int .i64 k, .slice ha h.length hc] wx fun e w' => ∃ a c, e = .returned (.tuple #[.slice a (R1.getD []).length c, .bool R1.isSome]) ∧ Rows w' 1 a c ((asI (R1.getD [])).map chCells) ∧ Below wx.heap.size wx w' := fun wx q => by
    refine (rlinear_any hR hI (hhH.out wx q)).mono ?_
    rintro e w' ⟨⟨a, c, rfl, ho⟩, hb⟩
    rw [hR1] at ho ⊢
    exact ⟨a, c, rfl, ho, hb⟩
  have cV : ∀ wx, Below w.heap.size w wx → Calls Try.prog 15 #[.int .i64 k, .slice ha h.length hc] wx fun e w' => ∃ a c, e = .returned (.tuple #[.slice a (R2.getD []).length c, .bool R2.isSome]) ∧ Rows w' 1 a c ((asI (R2.getD [])).map chCells) ∧ Below wx.heap.size wx w' := fun wx q => by
    refine (rturns_any hR hI (hhH.out wx q)).mono ?_
    rintro e w' ⟨⟨a, c, rfl, ho⟩, hb⟩
    rw [hR2] at ho ⊢
    exact ⟨a, c, rfl, ho, hb⟩
  have cS : ∀ wx, Calls Try.prog 13 #[] wx _ := fun wx => speaks_lin wx
  have cI : ∀ (l : List Nat) (a b : Option Addr) (ca cb : Nat) (wx : World), Rows wx 1 a ca ((asI l).map chCells) → Rows wx 1 b cb ((asI l).map chCells) → Calls Try.prog 16 #[.slice a l.length ca, .slice b l.length cb] wx fun e w' => e = .returned (.bool true) ∧ Below wx.heap.size wx w' := fun l a b ca cb wx h1 h2 => by
    have := sameInts_u (asI l) a b ca cb wx h1 h2
    rw [show (asI l).length = l.length from List.length_map ..] at this
    exact this
  clear hh hI hR hR1 hR2
  generalize R1.getD [] = l1 at *
  generalize R1.isSome = t1 at *
  generalize R2.getD [] = l2 at *
  generalize R2.isSome = t2 at *
  go_enter Try.func3, Try.ntmps3
  go_wp2_with (first
    | (go_at_call 9; (with_reducible refine (cC _ (Below.refl _ _)).mono ?_); rintro e w1 ⟨hq, hb⟩; (obtain rfl := (hq.elim (fun q => q.2) (fun q => absurd hRH.out q.1))); (have hB1 : Hid (Below w.heap.size w w1) := hb); clear hb hq)
    | (go_at_call 10; (with_reducible refine (cK _ hB1.out).mono ?_); rintro e w2 ⟨rfl, hb⟩; (have hB2 : Hid (Below w.heap.size w w2) := bthen hB1.out hb); clear hb cK)
    | (go_at_call 11; (with_reducible refine (cL _ hB2.out).mono ?_); rintro e w3 ⟨a1, c1, rfl, ho, hb⟩; (have hB3 : Hid (Below w.heap.size w w3 ∧ Rows w3 1 a1 c1 ((asI l1).map chCells)) := ⟨bthen hB2.out hb, ho⟩); clear hb ho cL)
    | (go_at_call 12; (with_reducible refine (cT _ hB3.out.1).mono ?_); rintro e w4 ⟨a2, c2, rfl, ho, hb⟩; (have hB4 : Hid (Below w.heap.size w w4 ∧ Rows w4 1 a1 c1 ((asI l1).map chCells) ∧ Rows w4 1 a2 c2 ((asI l2).map chCells)) := ⟨bthen hB3.out.1 hb, hB3.out.2.later hb, ho⟩); clear hb ho cT)
    | (go_at_call 13; (with_reducible refine (cS _).mono ?_); rintro e w5 ⟨rfl, hb⟩; (have hB5 : Hid (Below w.heap.size w w5 ∧ Rows w5 1 a1 c1 ((asI l1).map chCells) ∧ Rows w5 1 a2 c2 ((asI l2).map chCells)) := ⟨bthen hB4.out.1 hb, hB4.out.2.1.later hb, hB4.out.2.2.later hb⟩); clear hb)
    | (go_at_call 14; (with_reducible refine (cU _ hB5.out.1).mono ?_); rintro e w6 ⟨a3, c3, rfl, ho, hb⟩; (have hB6 : Hid (Below w.heap.size w w6 ∧ Rows w6 1 a1 c1 ((asI l1).map chCells) ∧ Rows w6 1 a2 c2 ((asI l2).map chCells) ∧ Rows w6 1 a3 c3 ((asI l1).map chCells)) := ⟨bthen hB5.out.1 hb, hB5.out.2.1.later hb, hB5.out.2.2.later hb, ho⟩); clear hb ho cU)
    | (go_at_call 15; (with_reducible refine (cV _ hB6.out.1).mono ?_); rintro e w7 ⟨a4, c4, rfl, ho, hb⟩; (have hB7 : Hid (Below w.heap.size w w7 ∧ Rows w7 1 a1 c1 ((asI l1).map chCells) ∧ Rows w7 1 a2 c2 ((asI l2).map chCells) ∧ Rows w7 1 a3 c3 ((asI l1).map chCells) ∧ Rows w7 1 a4 c4 ((asI l2).map chCells)) := ⟨bthen hB6.out.1 hb, hB6.out.2.1.later hb, hB6.out.2.2.1.later hb, hB6.out.2.2.2.later hb, ho⟩); clear hb ho cV)
    | (go_at_call 16; first
      | ((with_reducible refine (cI l1 a1 a3 c1 c3 _ hB7.out.2.1 hB7.out.2.2.2.1).mono ?_); rintro e w8 ⟨rfl, hb⟩; (have hB8 : Hid (Below w.heap.size w w8 ∧ Rows w8 1 a2 c2 ((asI l2).map chCells) ∧ Rows w8 1 a4 c4 ((asI l2).map chCells)) := ⟨bthen hB7.out.1 hb, hB7.out.2.2.1.later hb, hB7.out.2.2.2.2.later hb⟩); clear hb hB7)
      | ((with_reducible refine (cI l2 a2 a4 c2 c4 _ hB8.out.2.1 hB8.out.2.2).mono ?_); rintro e w9 ⟨rfl, hb⟩; (have hB9 : Hid (Below w.heap.size w w9) := bthen hB8.out.1 hb); clear hb)))
  cases t1 <;> cases t2 <;> (go_wp2; go_ret; exact ⟨rfl, hB9.out⟩)
end
theorem orders_row (k : Int) (h : List Cl) (ha : Option Addr) (hc : Nat) (w : World) (_ : (Lit.int .i64 k).wf = true) (hin : ClsIn w ha hc h) : Calls Try.prog 3 #[.int .i64 k, .slice ha h.length hc] w fun e w' => e = .returned (.bool true) ∧ Below w.heap.size w w' := by
  by_cases hR : RightH k h
  · exact orders_ok hin.1 hin.i hR
  · exact orders_bad hin.1 hin.i hR
end Go.Proofs.Ytklpifammbnldaa.pg

