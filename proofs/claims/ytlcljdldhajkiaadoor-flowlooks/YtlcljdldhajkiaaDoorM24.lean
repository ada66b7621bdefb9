/- An access added to a list that rises. -/
import Derived.Test.YtlcljdldhajkiaaDoorM19
import Derived.Test.YtlcljdldhajkiaaDoorM22
namespace Go.Proofs.YtlcljdldhajkiaaDoor.pg
open Go.ChangeShapes Go.WideShapes Go.ChangeAt Go.RowKit Go.Shelf
set_option linter.unusedVariables false
set_option linter.unusedSimpArgs false
set_option maxRecDepth 100000
def aStep (a : AcQ) (s : List AcQ × Bool) (x : AcQ) : List AcQ × Bool :=
  if s.2 = true then (s.1 ++ [x], true)
  else if x.kind = a.kind ∧ x.num = a.num then (s.1 ++ [⟨x.kind, x.num, x.wr || a.wr⟩], true)
  else if a.kind < x.kind ∨ (x.kind = a.kind ∧ a.num < x.num) then (s.1 ++ [a] ++ [x], true)
  else (s.1 ++ [x], false)
def aSt (l : List AcQ) (a : AcQ) (i : Nat) : List AcQ × Bool := (l.take i).foldl (aStep a) ([], false)
def addA (l : List AcQ) (a : AcQ) : List AcQ := if (aSt l a l.length).2 = true then (aSt l a l.length).1 else (aSt l a l.length).1 ++ [a]
theorem aSt_more {l : List AcQ} {a x : AcQ} {i : Nat} (h : l[i]? = some x) : aSt l a (i + 1) = aStep a (aSt l a i) x := by
  unfold aSt
  rw [take_oneQ l i x h, List.foldl_append]
  rfl
/-- The list that rises, with one more. -/
theorem addA_go (O : Nat → Int) (J : Nat) (h : Int) (hh : h = 1 ∨ h = 2) (hO : ∀ j, O j = 0 ∨ O j = 1 ∨ O j = 2) : ∀ n,
    (n ≤ J ∧ (lstO O n).foldl (aStep ⟨((J / 8 : Nat) : Int), ((J % 8 : Nat) : Int), h == 2⟩) ([], false) = (lstO O n, false)) ∨
    (J < n ∧ (lstO O n).foldl (aStep ⟨((J / 8 : Nat) : Int), ((J % 8 : Nat) : Int), h == 2⟩) ([], false) = (lstO (mx1 O (J, h)) n, true)) ∨
    (J < n ∧ (lstO O n).foldl (aStep ⟨((J / 8 : Nat) : Int), ((J % 8 : Nat) : Int), h == 2⟩) ([], false) = (lstO O n, false) ∧ lstO (mx1 O (J, h)) n = lstO O n ++ [⟨((J / 8 : Nat) : Int), ((J % 8 : Nat) : Int), h == 2⟩])
  | 0 => .inl ⟨Nat.zero_le _, rfl⟩
  | n + 1 => by
    have hm : ∀ j, j ≠ J → mx1 O (J, h) j = O j := fun j hj => by unfold mx1; rw [if_neg hj]
    have hmJ : mx1 O (J, h) J = max (O J) h := by unfold mx1; rw [if_pos rfl]
    have hlow : ∀ m, m ≤ J → lstO (mx1 O (J, h)) m = lstO O m := fun m => by
      induction m with
      | zero => intro _; rfl
      | succ m ih =>
        intro hm'
        rw [lstO_step, lstO_step, ih (by omega)]
        unfold accO
        rw [hm m (by omega)]
    rw [lstO_step, lstO_step, List.foldl_append]
    have hk : ∀ j, accO (mx1 O (J, h)) j = if j = J then [⟨((J / 8 : Nat) : Int), ((J % 8 : Nat) : Int), max (O J) h == 2⟩] else accO O j := fun j => by
      by_cases c : j = J
      · subst c
        rw [if_pos rfl]
        unfold accO
        rw [hmJ, if_neg (by have := hO j; omega)]
      · rw [if_neg c]
        unfold accO
        rw [hm j c]
    rcases addA_go O J h hh hO n with ⟨h1, h2⟩ | ⟨h1, h2⟩ | ⟨h1, h2, h3⟩
    · by_cases c : n = J
      · subst c
        rw [h2]
        by_cases z : O n = 0
        · right; right
          have e : accO O n = [] := by unfold accO; rw [if_pos z]
          refine ⟨by omega, ?_, ?_⟩
          · rw [e, List.append_nil]; rfl
          · rw [hlow n (Nat.le_refl _), hk n, if_pos rfl, e, z, List.append_nil, show max (0 : Int) h = h by omega]
        · right; left
          refine ⟨by omega, ?_⟩
          rw [hlow n (Nat.le_refl _), hk n, if_pos rfl]
          unfold accO
          rw [if_neg z]
          have e : (O n == 2 || h == 2) = (max (O n) h == 2) := by
            rcases hO n with q | q | q <;> rcases hh with r | r <;> rw [q, r] <;> first | rfl | (exfalso; exact z q)
          simp [aStep, e]
      · left
        refine ⟨by omega, ?_⟩
        rw [h2]
        by_cases z : O n = 0
        · have e : accO O n = [] := by unfold accO; rw [if_pos z]
          rw [e, List.append_nil]; rfl
        · unfold accO
          rw [if_neg z]
          have q1 : ¬ (((n / 8 : Nat) : Int) = ((J / 8 : Nat) : Int) ∧ ((n % 8 : Nat) : Int) = ((J % 8 : Nat) : Int)) := by omega
          have q2 : ¬ (((J / 8 : Nat) : Int) < ((n / 8 : Nat) : Int) ∨ (((n / 8 : Nat) : Int) = ((J / 8 : Nat) : Int) ∧ ((J % 8 : Nat) : Int) < ((n % 8 : Nat) : Int))) := by omega
          rw [List.foldl_cons, List.foldl_nil]
          unfold aStep
          rw [if_neg (by simp), if_neg q1, if_neg q2]
    · right; left
      refine ⟨by omega, ?_⟩
      rw [h2, hk n, if_neg (by omega)]
      by_cases z : O n = 0
      · have e : accO O n = [] := by unfold accO; rw [if_pos z]
        rw [e, List.append_nil]; rfl
      · unfold accO
        rw [if_neg z]
        rfl
    · by_cases z : O n = 0
      · have e : accO O n = [] := by unfold accO; rw [if_pos z]
        right; right
        refine ⟨by omega, ?_, ?_⟩
        · rw [h2, e, List.append_nil]; rfl
        · rw [h3, hk n, if_neg (by omega), e, List.append_nil, List.append_nil]
      · right; left
        refine ⟨by omega, ?_⟩
        rw [h2, h3, hk n, if_neg (by omega)]
        unfold accO
        rw [if_neg z]
        have q1 : ¬ (((n / 8 : Nat) : Int) = ((J / 8 : Nat) : Int) ∧ ((n % 8 : Nat) : Int) = ((J % 8 : Nat) : Int)) := by omega
        have q2 : ((J / 8 : Nat) : Int) < ((n / 8 : Nat) : Int) ∨ (((n / 8 : Nat) : Int) = ((J / 8 : Nat) : Int) ∧ ((J % 8 : Nat) : Int) < ((n % 8 : Nat) : Int)) := by omega
        rw [List.foldl_cons, List.foldl_nil]
        unfold aStep
        rw [if_neg (by simp), if_neg q1, if_pos q2]
theorem addA_lst (O : Nat → Int) (J : Nat) (h : Int) (hh : h = 1 ∨ h = 2) (hO : ∀ j, O j = 0 ∨ O j = 1 ∨ O j = 2) (hJ : J < 56) : addA (lstO O 56) ⟨((J / 8 : Nat) : Int), ((J % 8 : Nat) : Int), h == 2⟩ = lstO (mx1 O (J, h)) 56 := by
  unfold addA aSt
  rw [List.take_length]
  rcases addA_go O J h hh hO 56 with ⟨h1, _⟩ | ⟨_, h2⟩ | ⟨_, h2, h3⟩
  · omega
  · rw [h2]; rfl
  · rw [h2, h3]; rfl
theorem AcS.later {w : World} {L : List AcQ} {va : Option Addr} {vc : Nat} {wr w' : World} (h : AcS w L va vc wr) (hb : Below wr.heap.size wr w') : AcS w L va vc w' := ⟨bthen h.be hb, own_keep h.ow fun b q => hb.block b (blk_lt h.ow b q).2⟩
theorem acs_of {w W wr : World} {L : List AcQ} {va : Option Addr} {vc : Nat} (hb : Below w.heap.size w W) (h : AcS W L va vc wr) : AcS w L va vc wr := ⟨bthen hb h.be, own_mono_q h.ow hb.size⟩
set_option maxHeartbeats 8000000 in
theorem rAdd_any (l : List AcQ) (a : Option Addr) (ca : Nat) (x : AcQ) (w : World) (ha : Rows w 3 a ca (l.map AcQ.cells)) (hl : l.length ≤ 500) :
    Calls Tryd.prog 33 #[.slice a l.length ca, .agg #[.int .i64 x.kind, .int .i64 x.num, .bool x.wr]] w fun e w' => ∃ va vc, e = .returned (.slice va (addA l x).length vc) ∧ AcS w (addA l x) va vc w' := by
  obtain ⟨iA, hiA', hzA', hsA', hbA'⟩ := info_q infoAq
  have hiA : Hid (Tryd.prog.info? 53 = some iA) := hiA'
  have hzA : Hid _ := hzA'
  have hsA : Hid _ := hsA'
  have hbA : Hid _ := hbA'
  clear hiA' hzA' hsA' hbA'
  have huA : Hid (Tryd.prog.underlying 53 = _) := Tryd.underlying53
  have hlI : (l.length : Int) ≤ 500 := by omega
  have haH : Hid (Rows w 3 a ca (l.map AcQ.cells)) := ha
  obtain ⟨ak, an, aw⟩ := x
  have hbH : Hid (Below w.heap.size w (w.alloc (.cells #[.int .i64 ak, .int .i64 an, .bool aw] 53))) := boxed _ _
  have hA0 : Hid ((w.alloc (.cells #[.int .i64 ak, .int .i64 an, .bool aw] 53)).heap[w.heap.size]? = some (.cells #[.int .i64 ak, .int .i64 an, .bool aw] 53)) := heap_alloc_new _ _
  clear ha
  go_enter Tryd.func33, Tryd.ntmps33
  go_wp2_with fail
  obtain ⟨AB, hAB⟩ : ∃ AB, w.heap.size = AB := ⟨_, rfl⟩
  have hbH : Hid (Below w.heap.size w (w.alloc (.cells #[.int .i64 ak, .int .i64 an, .bool aw] 53))) := hbH.out
  generalize w.alloc (.cells #[.int .i64 ak, .int .i64 an, .bool aw] 53) = W at *
  rw [hAB] at hA0
  rw [hAB]
  go_loopw [5, 6, 7] (fun o d u wr => ∃ (i : Nat) (L : List AcQ) (pl : Bool) (va : Option Addr) (vc : Nat), i ≤ l.length ∧ u = .int .i64 (i : Int) ∧ d = .bool pl ∧ o = .slice va L.length vc ∧ aSt l ⟨ak, an, aw⟩ i = (L, pl) ∧ AcS W L va vc wr ∧ L.length ≤ 2 * i) (fun _ _ u _ => l.length - (intOf u).toNat)
  case atStart => exact ⟨0, [], false, none, 0, Nat.zero_le _, rfl, rfl, rfl, rfl, ⟨Below.refl _ _, own_nil_q _ _ _ _⟩, Nat.zero_le _⟩
  case round =>
    obtain ⟨i, L, pl, va, vc, hi, rfl, rfl, rfl, hst', hs', hs2'⟩ := hrel
    have hst : Hid (aSt l ⟨ak, an, aw⟩ i = (L, pl)) := hst'
    have hs : Hid (AcS W L va vc wr ∧ L.length ≤ 2 * i) := ⟨hs', hs2'⟩
    clear hst' hs' hs2'
    by_cases hlt : i < l.length
    · obtain ⟨x, hx, hxm⟩ := get_lt l i hlt
      obtain ⟨b1, o1, hix1, hbl1, c1⟩ := accQ_ix (haH.out.later (bthen hbH.out hs.out.1.be)) i x hx
      have hiI : (i : Int) < l.length := by omega
      have hmore : Hid (aSt l ⟨ak, an, aw⟩ (i + 1) = aStep ⟨ak, an, aw⟩ (aSt l ⟨ak, an, aw⟩ i) x) := aSt_more hx
      obtain ⟨xk, xn, xw⟩ := x
      have hrg : Hid (wr.rangeAt b1 o1 [.int .i64 xk, .int .i64 xn, .bool xw]) := c1
      have hX : Hid (AcS W L va vc (wr.alloc (.cells #[.int .i64 xk, .int .i64 xn, .bool xw] 53)) ∧ (wr.alloc (.cells #[.int .i64 xk, .int .i64 xn, .bool xw] 53)).heap[wr.heap.size]? = some (.cells #[.int .i64 xk, .int .i64 xn, .bool xw] 53)) := ⟨hs.out.1.later (boxed _ _), heap_alloc_new _ _⟩
      have hXn : Hid (wr.heap.size ∉ blk va) := fun q => by (have := (blk_lt hs.out.1.ow _ q).2; omega)
      have hXlo : Hid (W.heap.size ≤ wr.heap.size) := hs.out.1.be.size
      have hA : Hid ((wr.alloc (.cells #[.int .i64 xk, .int .i64 xn, .bool xw] 53)).heap[AB]? = some (.cells #[.int .i64 ak, .int .i64 an, .bool aw] 53)) := blk_onQ hA0.out (bthen hs.out.1.be (boxed _ _))
      have hLn : Hid (L.length ≤ 2 * i) := hs.out.2
      have hLl : Hid (L.length ≤ 2000) := by (show _ ≤ _; have := hLn.out; omega)
      clear hs hx hxm c1 hbl1
      go_upto_region 7 with (first
        | ((with_reducible refine at_loadQ 53 _ rfl ?_); refine stopQ_out ?_; refine wpList_load_mid rfl 53 _ rfl b1 o1 rfl [.int .i64 xk, .int .i64 xn, .bool xw] _ hrg.out huA.out rfl (by kernel_rfl) ?_)
        | ((with_reducible refine at_storeQ 53 _ _ rfl ?_); refine stopQ_out ?_; refine wpList_store_new rfl 53 _ _ rfl rfl _ #[.int .i64 xk, .int .i64 xn, .bool xw] rfl (by kernel_rfl) rfl (by simp [Value.oneCell']) ?_))
      change Code.wp _ _ _ _ (wr.alloc (.cells #[.int .i64 xk, .int .i64 xn, .bool xw] 53))
      try simp only [Act.put, List.getElem_toArray, List.getElem_cons_succ, List.getElem_cons_zero, List.setIfInBounds_toArray, List.set_cons_zero, List.set_cons_succ]
      clear hrg hix1
      generalize wr.alloc (.cells #[.int .i64 xk, .int .i64 xn, .bool xw] 53) = X at *
      generalize wr.heap.size = XB at *
      have k0 : X.cell? ⟨XB, 0, none⟩ = some (.int .i64 xk) := cell_lcQ hX.out.2 rfl
      have k1 : X.cell? ⟨XB, 1, none⟩ = some (.int .i64 xn) := cell_lcQ hX.out.2 rfl
      have k2 : X.cell? ⟨XB, 2, none⟩ = some (.bool xw) := cell_lcQ hX.out.2 rfl
      have p0 : X.cell? ⟨AB, 0, none⟩ = some (.int .i64 ak) := cell_lcQ hA.out rfl
      have p1 : X.cell? ⟨AB, 1, none⟩ = some (.int .i64 an) := cell_lcQ hA.out rfl
      have p2 : X.cell? ⟨AB, 2, none⟩ = some (.bool aw) := cell_lcQ hA.out rfl
      cases pl with
      | true =>
        have hN : Hid (aSt l ⟨ak, an, aw⟩ (i + 1) = (L ++ [⟨xk, xn, xw⟩], true)) := by (show _ = _; rw [hmore.out, hst.out]; simp [aStep])
        go_wp2_with (first
          | ((with_reducible refine at_loadQ 53 (.tmp 8) rfl ?_); refine stopQ_out ?_; refine wpList_load_row rfl 53 _ rfl XB rfl _ _ _ _ hX.out.2 huA.out rfl (by kernel_rfl) ?_)
          | (at_builtin; (refine wpList_app1 rfl (.tmp 69) (.tmp 71) 27 rfl W.heap.size 53 iA _ 3 24 Tryd.underlying27 hiA.out hzA.out hsA.out hbA.out rfl (by decide) _ _ (L.map AcQ.cells) (by rw [List.length_map]; (try rw [List.length_append, List.length_singleton]); rfl) hX.out.1.ow [.int .i64 xk, .int .i64 xn, .bool xw] rfl rfl (by simp [Value.oneCell']) (by rw [List.length_map]; have := hLl.out; unfold maxLen; (try rw [List.length_append, List.length_singleton]); omega) (by rw [List.length_map]; have := hLl.out; (try rw [List.length_append, List.length_singleton]); omega) hX.out.1.be.size ?_); intro va' vc' w9 hg; rw [List.length_map]; (have h9 : Hid (AcS W (L ++ [⟨xk, xn, xw⟩]) va' vc' w9 ∧ True) := ⟨hX.out.1.grown (x := ⟨xk, xn, xw⟩) hg, trivial⟩); clear hg))
        go_roundw
        case rel => exact ⟨i + 1, L ++ [⟨xk, xn, xw⟩], true, va', vc', by omega, by go_num, rfl, by simp, hN.out, h9.out.1, by have := hLn.out; simp; omega⟩
        case measure => simp [intOf]; omega
      
      | false =>
        by_cases e1 : ak = xk
        · subst e1
          have d1 : (ak == ak) = true := by simp
          by_cases e2 : an = xn
          · subst e2
            have d2 : (an == an) = true := by simp
            cases xw with
            | true =>
              have hN : Hid (aSt l ⟨ak, an, aw⟩ (i + 1) = (L ++ [⟨ak, an, true⟩], true)) := by (show _ = _; rw [hmore.out, hst.out]; simp [aStep])
              have nx : Hid (∀ W', W' = X.setCell ⟨XB, 2, none⟩ (.bool (true)) → AcS W L va vc W' ∧ W'.heap[XB]? = some (.cells #[.int .i64 ak, .int .i64 an, .bool (true)] 53)) := fun W' e => by
                refine ⟨⟨?_, ?_⟩, ?_⟩
                · rw [e]; exact hX.out.1.be.setCell (p := ⟨XB, 2, none⟩) hXlo.out _
                · rw [e]; exact own_keep hX.out.1.ow fun g hg => heap_setCell_other X ⟨XB, 2, none⟩ g _ (fun q => hXn.out (by rw [← (show g = XB from q)]; exact hg))
                · rw [e, heap_setCell_same X XB 2 _ _ _ hX.out.2]; rfl
              have fO : X.frozen? ⟨XB, 2, none⟩ = false := frozen_of_row _ _ _ _ _ hX.out.2
              go_upto_region 10 with (first
                | (refine wpList_putb rfl 4 _ _ rfl ⟨XB, 2, none⟩ rfl (true) rfl (by kernel_rfl) _ k2 fO ?_; intro W1 hW1; (have hX2p : Hid (AcS W L va vc W1 ∧ W1.heap[XB]? = some (.cells #[.int .i64 ak, .int .i64 an, .bool (true)] 53)) := nx.out W1 hW1); clear hW1 fO k2))
              clear hX k0 k1 p0 p1 p2 nx
              have hX : Hid (AcS W L va vc W1 ∧ W1.heap[XB]? = some (.cells #[.int .i64 ak, .int .i64 an, .bool (true)] 53)) := hX2p
              go_wp2_with (first
                | ((with_reducible refine at_loadQ 53 (.tmp 8) rfl ?_); refine stopQ_out ?_; refine wpList_load_row rfl 53 _ rfl XB rfl _ _ _ _ hX.out.2 huA.out rfl (by kernel_rfl) ?_)
                | (at_builtin; (refine wpList_app1 rfl (.tmp 69) (.tmp 71) 27 rfl W.heap.size 53 iA _ 3 24 Tryd.underlying27 hiA.out hzA.out hsA.out hbA.out rfl (by decide) _ _ (L.map AcQ.cells) (by rw [List.length_map]; (try rw [List.length_append, List.length_singleton]); rfl) hX.out.1.ow [.int .i64 ak, .int .i64 an, .bool (true)] rfl rfl (by simp [Value.oneCell']) (by rw [List.length_map]; have := hLl.out; unfold maxLen; (try rw [List.length_append, List.length_singleton]); omega) (by rw [List.length_map]; have := hLl.out; (try rw [List.length_append, List.length_singleton]); omega) hX.out.1.be.size ?_); intro va' vc' w9 hg; rw [List.length_map]; (have h9 : Hid (AcS W (L ++ [⟨ak, an, true⟩]) va' vc' w9 ∧ True) := ⟨hX.out.1.grown (x := ⟨ak, an, true⟩) hg, trivial⟩); clear hg))
              go_roundw
              case rel => exact ⟨i + 1, L ++ [⟨ak, an, true⟩], true, va', vc', by omega, by go_num, rfl, by simp, hN.out, h9.out.1, by have := hLn.out; simp; omega⟩
              case measure => simp [intOf]; omega
      
            | false =>
              have hN : Hid (aSt l ⟨ak, an, aw⟩ (i + 1) = (L ++ [⟨ak, an, aw⟩], true)) := by (show _ = _; rw [hmore.out, hst.out]; simp [aStep])
              have nx : Hid (∀ W', W' = X.setCell ⟨XB, 2, none⟩ (.bool (aw)) → AcS W L va vc W' ∧ W'.heap[XB]? = some (.cells #[.int .i64 ak, .int .i64 an, .bool (aw)] 53)) := fun W' e => by
                refine ⟨⟨?_, ?_⟩, ?_⟩
                · rw [e]; exact hX.out.1.be.setCell (p := ⟨XB, 2, none⟩) hXlo.out _
                · rw [e]; exact own_keep hX.out.1.ow fun g hg => heap_setCell_other X ⟨XB, 2, none⟩ g _ (fun q => hXn.out (by rw [← (show g = XB from q)]; exact hg))
                · rw [e, heap_setCell_same X XB 2 _ _ _ hX.out.2]; rfl
              have fO : X.frozen? ⟨XB, 2, none⟩ = false := frozen_of_row _ _ _ _ _ hX.out.2
              go_upto_region 10 with (first
                | (refine wpList_putb rfl 4 _ _ rfl ⟨XB, 2, none⟩ rfl (aw) rfl (by kernel_rfl) _ k2 fO ?_; intro W1 hW1; (have hX2p : Hid (AcS W L va vc W1 ∧ W1.heap[XB]? = some (.cells #[.int .i64 ak, .int .i64 an, .bool (aw)] 53)) := nx.out W1 hW1); clear hW1 fO k2))
              clear hX k0 k1 p0 p1 p2 nx
              have hX : Hid (AcS W L va vc W1 ∧ W1.heap[XB]? = some (.cells #[.int .i64 ak, .int .i64 an, .bool (aw)] 53)) := hX2p
              go_wp2_with (first
                | ((with_reducible refine at_loadQ 53 (.tmp 8) rfl ?_); refine stopQ_out ?_; refine wpList_load_row rfl 53 _ rfl XB rfl _ _ _ _ hX.out.2 huA.out rfl (by kernel_rfl) ?_)
                | (at_builtin; (refine wpList_app1 rfl (.tmp 69) (.tmp 71) 27 rfl W.heap.size 53 iA _ 3 24 Tryd.underlying27 hiA.out hzA.out hsA.out hbA.out rfl (by decide) _ _ (L.map AcQ.cells) (by rw [List.length_map]; (try rw [List.length_append, List.length_singleton]); rfl) hX.out.1.ow [.int .i64 ak, .int .i64 an, .bool (aw)] rfl rfl (by simp [Value.oneCell']) (by rw [List.length_map]; have := hLl.out; unfold maxLen; (try rw [List.length_append, List.length_singleton]); omega) (by rw [List.length_map]; have := hLl.out; (try rw [List.length_append, List.length_singleton]); omega) hX.out.1.be.size ?_); intro va' vc' w9 hg; rw [List.length_map]; (have h9 : Hid (AcS W (L ++ [⟨ak, an, aw⟩]) va' vc' w9 ∧ True) := ⟨hX.out.1.grown (x := ⟨ak, an, aw⟩) hg, trivial⟩); clear hg))
              go_roundw
              case rel => exact ⟨i + 1, L ++ [⟨ak, an, aw⟩], true, va', vc', by omega, by go_num, rfl, by simp, hN.out, h9.out.1, by have := hLn.out; simp; omega⟩
              case measure => simp [intOf]; omega
      
          · have d2 : (xn == an) = false := beq_eq_false_iff_ne.mpr (Ne.symm e2)
            have g1 : ¬ ak > ak := by omega
            have g1d : decide (ak > ak) = false := decide_eq_false g1
            by_cases g2 : xn > an
            · have g2d : decide (xn > an) = true := decide_eq_true g2
              have hN : Hid (aSt l ⟨ak, an, aw⟩ (i + 1) = (L ++ [⟨ak, an, aw⟩] ++ [⟨ak, xn, xw⟩], true)) := by (show _ = _; rw [hmore.out, hst.out]; simp [aStep, Ne.symm e2, g2])
              go_wp2_with (first
                | ((with_reducible refine at_loadQ 53 (.tmp 3) rfl ?_); refine stopQ_out ?_; refine wpList_load_row rfl 53 _ rfl AB rfl _ _ _ _ hA.out huA.out rfl (by kernel_rfl) ?_)
                | (at_builtin; (refine wpList_app1 rfl (.tmp 65) (.tmp 67) 27 rfl W.heap.size 53 iA _ 3 24 Tryd.underlying27 hiA.out hzA.out hsA.out hbA.out rfl (by decide) _ _ (L.map AcQ.cells) (by rw [List.length_map]; (try rw [List.length_append, List.length_singleton]); rfl) hX.out.1.ow [.int .i64 ak, .int .i64 an, .bool aw] rfl rfl (by simp [Value.oneCell']) (by rw [List.length_map]; have := hLl.out; unfold maxLen; (try rw [List.length_append, List.length_singleton]); omega) (by rw [List.length_map]; have := hLl.out; (try rw [List.length_append, List.length_singleton]); omega) hX.out.1.be.size ?_); intro va' vc' w9 hg; rw [List.length_map]; (have h8 : Hid (AcS W (L ++ [⟨ak, an, aw⟩]) va' vc' w9 ∧ w9.heap[XB]? = some (.cells #[.int .i64 ak, .int .i64 xn, .bool xw] 53)) := ⟨hX.out.1.grown (x := ⟨ak, an, aw⟩) hg, (hg.kp XB (Array.getElem?_eq_some_iff.mp hX.out.2).1 hXn.out).trans hX.out.2⟩); clear hg)
                | ((with_reducible refine at_loadQ 53 (.tmp 8) rfl ?_); refine stopQ_out ?_; refine wpList_load_row rfl 53 _ rfl XB rfl _ _ _ _ h8.out.2 huA.out rfl (by kernel_rfl) ?_)
                | (at_builtin; (refine wpList_app1 rfl (.tmp 69) (.tmp 71) 27 rfl W.heap.size 53 iA _ 3 24 Tryd.underlying27 hiA.out hzA.out hsA.out hbA.out rfl (by decide) _ _ ((L ++ [(⟨ak, an, aw⟩ : AcQ)]).map AcQ.cells) (by rw [List.length_map]; (try rw [List.length_append, List.length_singleton]); rfl) h8.out.1.ow [.int .i64 ak, .int .i64 xn, .bool xw] rfl rfl (by simp [Value.oneCell']) (by rw [List.length_map]; have := hLl.out; unfold maxLen; (try rw [List.length_append, List.length_singleton]); omega) (by rw [List.length_map]; have := hLl.out; (try rw [List.length_append, List.length_singleton]); omega) h8.out.1.be.size ?_); intro va' vc' w9 hg; rw [List.length_map]; (have h9 : Hid (AcS W ((L ++ [(⟨ak, an, aw⟩ : AcQ)]) ++ [⟨ak, xn, xw⟩]) va' vc' w9 ∧ True) := ⟨h8.out.1.grown (x := ⟨ak, xn, xw⟩) hg, trivial⟩); clear hg))
              go_roundw
              case rel => exact ⟨i + 1, L ++ [⟨ak, an, aw⟩] ++ [⟨ak, xn, xw⟩], true, va', vc', by omega, by go_num, rfl, by simp, hN.out, h9.out.1, by have := hLn.out; simp; omega⟩
              case measure => simp [intOf]; omega
      
            · have g2d : decide (xn > an) = false := decide_eq_false g2
              have hN : Hid (aSt l ⟨ak, an, aw⟩ (i + 1) = (L ++ [⟨ak, xn, xw⟩], false)) := by (show _ = _; rw [hmore.out, hst.out]; simp [aStep, Ne.symm e2, show ¬ an < xn from g2])
              go_wp2_with (first
                | ((with_reducible refine at_loadQ 53 (.tmp 8) rfl ?_); refine stopQ_out ?_; refine wpList_load_row rfl 53 _ rfl XB rfl _ _ _ _ hX.out.2 huA.out rfl (by kernel_rfl) ?_)
                | (at_builtin; (refine wpList_app1 rfl (.tmp 69) (.tmp 71) 27 rfl W.heap.size 53 iA _ 3 24 Tryd.underlying27 hiA.out hzA.out hsA.out hbA.out rfl (by decide) _ _ (L.map AcQ.cells) (by rw [List.length_map]; (try rw [List.length_append, List.length_singleton]); rfl) hX.out.1.ow [.int .i64 ak, .int .i64 xn, .bool xw] rfl rfl (by simp [Value.oneCell']) (by rw [List.length_map]; have := hLl.out; unfold maxLen; (try rw [List.length_append, List.length_singleton]); omega) (by rw [List.length_map]; have := hLl.out; (try rw [List.length_append, List.length_singleton]); omega) hX.out.1.be.size ?_); intro va' vc' w9 hg; rw [List.length_map]; (have h9 : Hid (AcS W (L ++ [⟨ak, xn, xw⟩]) va' vc' w9 ∧ True) := ⟨hX.out.1.grown (x := ⟨ak, xn, xw⟩) hg, trivial⟩); clear hg))
              go_roundw
              case rel => exact ⟨i + 1, L ++ [⟨ak, xn, xw⟩], false, va', vc', by omega, by go_num, rfl, by simp, hN.out, h9.out.1, by have := hLn.out; simp; omega⟩
              case measure => simp [intOf]; omega
      
        · have d1 : (xk == ak) = false := beq_eq_false_iff_ne.mpr (Ne.symm e1)
          by_cases g1 : xk > ak
          · have g1d : decide (xk > ak) = true := decide_eq_true g1
            have hN : Hid (aSt l ⟨ak, an, aw⟩ (i + 1) = (L ++ [⟨ak, an, aw⟩] ++ [⟨xk, xn, xw⟩], true)) := by (show _ = _; rw [hmore.out, hst.out]; simp [aStep, Ne.symm e1, g1])
            go_wp2_with (first
              | ((with_reducible refine at_loadQ 53 (.tmp 3) rfl ?_); refine stopQ_out ?_; refine wpList_load_row rfl 53 _ rfl AB rfl _ _ _ _ hA.out huA.out rfl (by kernel_rfl) ?_)
              | (at_builtin; (refine wpList_app1 rfl (.tmp 65) (.tmp 67) 27 rfl W.heap.size 53 iA _ 3 24 Tryd.underlying27 hiA.out hzA.out hsA.out hbA.out rfl (by decide) _ _ (L.map AcQ.cells) (by rw [List.length_map]; (try rw [List.length_append, List.length_singleton]); rfl) hX.out.1.ow [.int .i64 ak, .int .i64 an, .bool aw] rfl rfl (by simp [Value.oneCell']) (by rw [List.length_map]; have := hLl.out; unfold maxLen; (try rw [List.length_append, List.length_singleton]); omega) (by rw [List.length_map]; have := hLl.out; (try rw [List.length_append, List.length_singleton]); omega) hX.out.1.be.size ?_); intro va' vc' w9 hg; rw [List.length_map]; (have h8 : Hid (AcS W (L ++ [⟨ak, an, aw⟩]) va' vc' w9 ∧ w9.heap[XB]? = some (.cells #[.int .i64 xk, .int .i64 xn, .bool xw] 53)) := ⟨hX.out.1.grown (x := ⟨ak, an, aw⟩) hg, (hg.kp XB (Array.getElem?_eq_some_iff.mp hX.out.2).1 hXn.out).trans hX.out.2⟩); clear hg)
              | ((with_reducible refine at_loadQ 53 (.tmp 8) rfl ?_); refine stopQ_out ?_; refine wpList_load_row rfl 53 _ rfl XB rfl _ _ _ _ h8.out.2 huA.out rfl (by kernel_rfl) ?_)
              | (at_builtin; (refine wpList_app1 rfl (.tmp 69) (.tmp 71) 27 rfl W.heap.size 53 iA _ 3 24 Tryd.underlying27 hiA.out hzA.out hsA.out hbA.out rfl (by decide) _ _ ((L ++ [(⟨ak, an, aw⟩ : AcQ)]).map AcQ.cells) (by rw [List.length_map]; (try rw [List.length_append, List.length_singleton]); rfl) h8.out.1.ow [.int .i64 xk, .int .i64 xn, .bool xw] rfl rfl (by simp [Value.oneCell']) (by rw [List.length_map]; have := hLl.out; unfold maxLen; (try rw [List.length_append, List.length_singleton]); omega) (by rw [List.length_map]; have := hLl.out; (try rw [List.length_append, List.length_singleton]); omega) h8.out.1.be.size ?_); intro va' vc' w9 hg; rw [List.length_map]; (have h9 : Hid (AcS W ((L ++ [(⟨ak, an, aw⟩ : AcQ)]) ++ [⟨xk, xn, xw⟩]) va' vc' w9 ∧ True) := ⟨h8.out.1.grown (x := ⟨xk, xn, xw⟩) hg, trivial⟩); clear hg))
            go_roundw
            case rel => exact ⟨i + 1, L ++ [⟨ak, an, aw⟩] ++ [⟨xk, xn, xw⟩], true, va', vc', by omega, by go_num, rfl, by simp, hN.out, h9.out.1, by have := hLn.out; simp; omega⟩
            case measure => simp [intOf]; omega
      
          · have g1d : decide (xk > ak) = false := decide_eq_false g1
            have hN : Hid (aSt l ⟨ak, an, aw⟩ (i + 1) = (L ++ [⟨xk, xn, xw⟩], false)) := by (show _ = _; rw [hmore.out, hst.out]; simp [aStep, Ne.symm e1, show ¬ ak < xk from g1])
            go_wp2_with (first
              | ((with_reducible refine at_loadQ 53 (.tmp 8) rfl ?_); refine stopQ_out ?_; refine wpList_load_row rfl 53 _ rfl XB rfl _ _ _ _ hX.out.2 huA.out rfl (by kernel_rfl) ?_)
              | (at_builtin; (refine wpList_app1 rfl (.tmp 69) (.tmp 71) 27 rfl W.heap.size 53 iA _ 3 24 Tryd.underlying27 hiA.out hzA.out hsA.out hbA.out rfl (by decide) _ _ (L.map AcQ.cells) (by rw [List.length_map]; (try rw [List.length_append, List.length_singleton]); rfl) hX.out.1.ow [.int .i64 xk, .int .i64 xn, .bool xw] rfl rfl (by simp [Value.oneCell']) (by rw [List.length_map]; have := hLl.out; unfold maxLen; (try rw [List.length_append, List.length_singleton]); omega) (by rw [List.length_map]; have := hLl.out; (try rw [List.length_append, List.length_singleton]); omega) hX.out.1.be.size ?_); intro va' vc' w9 hg; rw [List.length_map]; (have h9 : Hid (AcS W (L ++ [⟨xk, xn, xw⟩]) va' vc' w9 ∧ True) := ⟨hX.out.1.grown (x := ⟨xk, xn, xw⟩) hg, trivial⟩); clear hg))
            go_roundw
            case rel => exact ⟨i + 1, L ++ [⟨xk, xn, xw⟩], false, va', vc', by omega, by go_num, rfl, by simp, hN.out, h9.out.1, by have := hLn.out; simp; omega⟩
            case measure => simp [intOf]; omega
    · have hie : i = l.length := by omega
      have hiI : ¬ ((i : Int) < l.length) := by omega
      have hX : Hid (AcS W L va vc wr ∧ True) := ⟨hs.out.1, trivial⟩
      have hA : Hid (wr.heap[AB]? = some (.cells #[.int .i64 ak, .int .i64 an, .bool aw] 53)) := blk_onQ hA0.out hs.out.1.be
      have hLl : Hid (L.length ≤ 2000) := by (show _ ≤ _; have := hs.out.2; omega)
      have hst2 : Hid (aSt l ⟨ak, an, aw⟩ l.length = (L, pl)) := by (rw [← hie]; exact hst.out)
      clear hs
      cases pl with
      | true =>
        have hN : Hid (addA l ⟨ak, an, aw⟩ = L) := by (show _ = _; unfold addA; rw [hst2.out]; rfl)
        go_wp2
        go_ret
        exact ⟨va, vc, by rw [hN.out]; rfl, by rw [hN.out]; exact acs_of hbH.out hX.out.1⟩
      | false =>
        have hN : Hid (addA l ⟨ak, an, aw⟩ = L ++ [⟨ak, an, aw⟩]) := by (show _ = _; unfold addA; rw [hst2.out]; rfl)
        go_wp2_with (first
          | ((with_reducible refine at_loadQ 53 (.tmp 3) rfl ?_); refine stopQ_out ?_; refine wpList_load_row rfl 53 _ rfl AB rfl _ _ _ _ hA.out huA.out rfl (by kernel_rfl) ?_)
          | (at_builtin; (refine wpList_app1 rfl (.tmp 75) (.tmp 77) 27 rfl W.heap.size 53 iA _ 3 24 Tryd.underlying27 hiA.out hzA.out hsA.out hbA.out rfl (by decide) _ _ (L.map AcQ.cells) (by rw [List.length_map]; (try rw [List.length_append, List.length_singleton]); rfl) hX.out.1.ow [.int .i64 ak, .int .i64 an, .bool aw] rfl rfl (by simp [Value.oneCell']) (by rw [List.length_map]; have := hLl.out; unfold maxLen; (try rw [List.length_append, List.length_singleton]); omega) (by rw [List.length_map]; have := hLl.out; (try rw [List.length_append, List.length_singleton]); omega) hX.out.1.be.size ?_); intro va' vc' w9 hg; rw [List.length_map]; (have h9 : Hid (AcS W (L ++ [⟨ak, an, aw⟩]) va' vc' w9 ∧ True) := ⟨hX.out.1.grown (x := ⟨ak, an, aw⟩) hg, trivial⟩); clear hg))
        go_ret
        exact ⟨va', vc', by rw [hN.out, List.length_append, List.length_singleton]; rfl, by rw [hN.out]; exact acs_of hbH.out h9.out.1⟩
end Go.Proofs.YtlcljdldhajkiaaDoor.pg
/- The document's several and Touches. -/
namespace Go.Proofs.YtlcljdldhajkiaaDoor.pg
open Go.ChangeShapes Go.WideShapes Go.ChangeAt Go.RowKit Go.Shelf
set_option linter.unusedVariables false
set_option linter.unusedSimpArgs false
set_option maxRecDepth 100000
def sevL (kd fr n : Nat) (how : Int) : List (Nat × Int) := (List.range n).map fun k => (kd * 8 + (fr + k), how)
theorem sevL_more (kd fr n : Nat) (how : Int) : sevL kd fr (n + 1) how = sevL kd fr n how ++ [(kd * 8 + (fr + n), how)] := by
  unfold sevL
  rw [List.range_succ, List.map_append]
  rfl
theorem sevL_pos {kd fr n : Nat} {how : Int} (hh : how = 1 ∨ how = 2) : ∀ x ∈ sevL kd fr n how, x.2 = 1 ∨ x.2 = 2 := fun x hx => by
  unfold sevL at hx
  obtain ⟨k, _, rfl⟩ := List.mem_map.mp hx
  exact hh
theorem mxL_range {O : Nat → Int} (hO : ∀ j, O j = 0 ∨ O j = 1 ∨ O j = 2) {l : List (Nat × Int)} (hl : ∀ x ∈ l, x.2 = 1 ∨ x.2 = 2) (j : Nat) : mxL O l j = 0 ∨ mxL O l j = 1 ∨ mxL O l j = 2 := by
  rcases mxL_one l O j with e | e
  · rw [e]; exact hO j
  · exact .inr (hl _ e)
theorem addI (n : Nat) (h : n < 8) : ∀ w, (binOp .add 3 (.int .i64 (n : Int)) (.int .i64 1)).run Tryd.prog w = .ok (.int .i64 ((n : Int) + 1)) w := by
  match n, h with
  | 0, _ => exact fun _ => by kernel_rfl
  | 1, _ => exact fun _ => by kernel_rfl
  | 2, _ => exact fun _ => by kernel_rfl
  | 3, _ => exact fun _ => by kernel_rfl
  | 4, _ => exact fun _ => by kernel_rfl
  | 5, _ => exact fun _ => by kernel_rfl
  | 6, _ => exact fun _ => by kernel_rfl
  | 7, _ => exact fun _ => by kernel_rfl
theorem reg_call5Q {P : Program} {ops : Array Oper} {Q : Exit → Act → World → Prop} {S : World → Prop} {fuel : Nat} {listed : Array Bool} {a : Act} {w : World} {i : Nat} {o : Oper} (hr : Region.ready .any ops listed = [i]) (ho : ops[i]? = some o) (hw : Region.wanted o (yielded ops a.tmps) = true) (f : FuncId) (xs : Array Operand) (ts : Array TypeId)
    (hc0 : o.op = .call { callee := .value (.func f), args := xs, argTypes := ts }) (vs : Array Value) (hx : xs.map a.eval = vs) (hcf : (callFunc f vs).run P w = .ok (.enter f vs) w) (R : Ending → World → Prop) (hc : Calls P f vs w R)
    (hK : ∀ e w', R e w' → ∃ v, e = .returned v ∧ S w' ∧ (S w' → wpAnyH P .any ops Q S fuel (listed.setIfInBounds i true) (a.put o.dst v) w')) :
    wpAnyH P .any ops Q S (fuel + 1) listed a w := reg_call hr ho hw f xs ts hc0 vs hx hcf R hc hK
set_option maxHeartbeats 2000000 in
theorem rseveral_any (O : Nat → Int) (hO : ∀ j, O j = 0 ∨ O j = 1 ∨ O j = 2) (kd fr n : Nat) (tt : Int) (hto : tt = (fr : Int) + (n : Int)) (hk : kd < 7) (hn : fr + n ≤ 8) (how : Int) (hh : how = 1 ∨ how = 2) (wr : Bool) (hw : wr = (how == 2)) (a : Option Addr) (ca : Nat) (w : World) (ha : Rows w 3 a ca ((lstO O 56).map AcQ.cells)) :
    Calls Tryd.prog 31 #[.slice a (lstO O 56).length ca, .int .i64 (kd : Int), .int .i64 (fr : Int), .int .i64 tt, .bool wr] w fun e w' => ∃ va vc, e = .returned (.slice va (lstO (mxL O (sevL kd fr n how)) 56).length vc) ∧ Rows w' 3 va vc ((lstO (mxL O (sevL kd fr n how)) 56).map AcQ.cells) ∧ Below w.heap.size w w' := by
  subst hto
  obtain ⟨how2, rfl⟩ : ∃ b, b = wr := ⟨_, rfl⟩
  have hrec : Hid (∀ i, i ≤ n → ∀ j, mxL O (sevL kd fr i how) j = 0 ∨ mxL O (sevL kd fr i how) j = 1 ∨ mxL O (sevL kd fr i how) j = 2) := fun i _ => mxL_range hO (sevL_pos hh)
  have h0 : Hid (Rows w 3 a ca ((lstO (mxL O (sevL kd fr 0 how)) 56).map AcQ.cells) ∧ Below w.heap.size w w) := ⟨ha, Below.refl _ _⟩
  have hw' : (how == 2) = how2 := hw.symm
  clear ha hO hw
  go_enter Tryd.func31, Tryd.ntmps31
  go_wp2_with fail
  go_loopw [0, 11] (fun o u wr => ∃ (i : Nat) (va : Option Addr) (vc : Nat), i ≤ n ∧ u = .int .i64 ((fr : Int) + (i : Int)) ∧ o = .slice va (lstO (mxL O (sevL kd fr i how)) 56).length vc ∧ Hid (Rows wr 3 va vc ((lstO (mxL O (sevL kd fr i how)) 56).map AcQ.cells) ∧ Below w.heap.size w wr)) (fun _ u _ => fr + n - (intOf u).toNat)
  case atStart => exact ⟨0, a, ca, Nat.zero_le _, by simp, rfl, h0.out⟩
  case round =>
    clear h0
    obtain ⟨i, va, vc, hi, rfl, rfl, hs⟩ := hrel
    by_cases hlt : i < n
    · have hiI : (fr : Int) + (i : Int) < (fr : Int) + (n : Int) := by omega
      have hpw : wrap64 ((fr : Int) + (i : Int) + 1) = (fr : Int) + (i : Int) + 1 := by unfold wrap64; omega
      have hadd := addA_lst (mxL O (sevL kd fr i how)) (kd * 8 + (fr + i)) how hh (hrec.out i hi) (by omega)
      rw [show (kd * 8 + (fr + i)) / 8 = kd by omega, show (kd * 8 + (fr + i)) % 8 = fr + i by omega, hw'] at hadd
      have hmore : Hid (mxL O (sevL kd fr (i + 1) how) = mx1 (mxL O (sevL kd fr i how)) (kd * 8 + (fr + i), how)) := by (show _ = _; rw [sevL_more, mxL_app]; rfl)
      have xA := rAdd_any (lstO (mxL O (sevL kd fr i how)) 56) va vc ⟨(kd : Int), ((fr + i : Nat) : Int), how2⟩ wr hs.out.1 (by have := lstO_len (mxL O (sevL kd fr i how)) 56; omega)
      rw [hadd, Int.natCast_add] at xA
      clear hadd
      go_wp2_with (go_at_call 33; (with_reducible refine xA.mono ?_); rintro e w2 ⟨va2, vc2, rfl, hs2⟩)
      have hr2 : Hid (Rows w2 3 va2 vc2 ((lstO (mx1 (mxL O (sevL kd fr i how)) (kd * 8 + (fr + i), how)) 56).map AcQ.cells) ∧ Below w.heap.size w w2) := ⟨hs2.rows, bthen hs.out.2 hs2.be⟩
      go_roundw
      case rel => exact ⟨i + 1, va2, vc2, by omega, by first | (congr 1; done) | (congr 1; omega), by rw [hmore.out], by rw [hmore.out]; exact hr2⟩
      case measure => simp [intOf]; omega
    · have hie : i = n := by omega
      have hiI : ¬ ((fr : Int) + (i : Int) < (fr : Int) + (n : Int)) := by omega
      go_wp2
      go_ret
      exact ⟨va, vc, by first | rfl | (rw [hie]; rfl), by first | exact hs.out.1 | (rw [← hie]; exact hs.out.1), hs.out.2⟩
theorem lst_zO : lstO zO 56 = [] := by
  have : ∀ n, lstO zO n = [] := fun n => by
    induction n with
    | zero => rfl
    | succ n ih => rw [lstO_step, ih]; rfl
  exact this 56
theorem rseveral0 (kd fr n : Nat) (tt : Int) (hto : tt = (fr : Int) + (n : Int)) (hk : kd < 7) (hn : fr + n ≤ 8) (how : Int) (hh : how = 1 ∨ how = 2) (wr : Bool) (hw : wr = (how == 2)) (w : World) :
    Calls Tryd.prog 31 #[.slice none 0 0, .int .i64 (kd : Int), .int .i64 (fr : Int), .int .i64 tt, .bool wr] w fun e w' => ∃ va vc, e = .returned (.slice va (lstO (mxL zO (sevL kd fr n how)) 56).length vc) ∧ Rows w' 3 va vc ((lstO (mxL zO (sevL kd fr n how)) 56).map AcQ.cells) ∧ Below w.heap.size w w' := by
  have h := rseveral_any zO (fun j => .inl rfl) kd fr n tt hto hk hn how hh wr hw none 0 w (by rw [lst_zO]; exact rows_nilF _ _)
  rw [lst_zO] at h
  exact h
set_option maxHeartbeats 8000000 in
theorem rtouches_any (M : MPr) (f pc : Nat) (w : World) (hM : M.lies w) (F : MFn) (hFi : M.fns[f]? = some F) (hpc : pc < F.code.length) (hl64 : F.code.length ≤ 64) (hR0 : TchR F.fn (insAt F.code pc)) :
    Calls Tryd.prog 11 #[M.val, .int .i64 (f : Int), .int .i64 (pc : Int)] w fun e w' => ∃ va vc, e = .returned (.slice va (lstO (mxL zO (tchI F.fn (insAt F.code pc))) 56).length vc) ∧ Rows w' 3 va vc ((lstO (mxL zO (tchI F.fn (insAt F.code pc))) 56).map AcQ.cells) ∧ Below w.heap.size w w' := by
  have hb := boxed w (objP M)
  have bP := boxP_new w M
  have hFm := List.mem_of_getElem? hFi
  have hlF : Hid (F.lies (w.alloc (objP M))) := (hM.later hb).2.2.2.2.2.2 F hFm
  obtain ⟨fb, fo, hfix, hfb, fc0, fc1, fc2, fc3⟩ := fn_ix (hM.later hb).2.2.1 f F hFi
  obtain ⟨m1, m2⟩ := insAt_mem (code := F.code) (pc := (pc : Int)) (by omega) (by omega)
  rw [Int.toNat_natCast] at m1
  obtain ⟨ib, io, hix, hib, i0, i1, i2, i3, i4⟩ := ins_ix hlF.out.1 pc _ m1
  generalize insAt F.code pc = i at *
  have hb1 := boxed (w.alloc (objP M)) (objIn i)
  have hCn : ((w.alloc (objP M)).alloc (objIn i)).heap[(w.alloc (objP M)).heap.size]? = some (objIn i) := heap_alloc_new _ _
  have j0 := cell_ofF (k := 0) (v := .int .i64 i.op) hCn rfl
  have j1 := cell_ofF (k := 1) (v := .int .i64 i.a) hCn rfl
  have j2 := cell_ofF (k := 2) (v := .int .i64 i.b) hCn rfl
  have hW : Hid (Below w.heap.size w ((w.alloc (objP M)).alloc (objIn i))) := bthen hb hb1
  have hCH : Hid (((w.alloc (objP M)).alloc (objIn i)).heap[w.heap.size + 1]? = some (objIn i)) := by show _ = _; rw [← World.size_alloc w (objP M)]; exact hCn
  have hR : Hid (TchR F.fn i) := hR0
  have rng0 : ∀ j, zO j = 0 ∨ zO j = 1 ∨ zO j = 2 := fun j => .inl rfl
  have xG := fun O (hO : ∀ j, O j = 0 ∨ O j = 1 ∨ O j = 2) kd fr n tt hto hk hn how hh wr hw wx a ca h => rseveral_any O hO kd fr n tt hto hk hn how hh wr hw a ca wx h
  have hlF1 : Hid (F.lies ((w.alloc (objP M)).alloc (objIn i))) := hlF.out.later hb1
  have fcH : Hid (((w.alloc (objP M)).alloc (objIn i)).cell? ⟨fb, fo + 3, none⟩ = some (.slice F.sa F.sels.length F.scap)) := cell_later hb1 fc3
  have p3H : Hid (BoxP ((w.alloc (objP M)).alloc (objIn i)) w.heap.size M) := bP.later hb1
  have p3 := bP.2.2.2
  clear bP hb hb1 hCn m1 m2 hM hlF hFi hFm fc3 fc0 fc1 hfb hib hR0
  by_cases h50 : i.op = 50
  · have hop := h50
    have d50 : (i.op == 50) = true := by simpa using h50
    clear xG
    have hr := hR.out.b (by simp [hop])
    obtain ⟨k, hk⟩ : ∃ k : Nat, i.b = (k : Int) := ⟨(i.b).toNat, by omega⟩
    have hk8 : k < 8 := by omega
    have hpw : wrap64 (i.b + 1) = i.b + 1 := by unfold wrap64; omega
    have hT : Hid (tchI F.fn i = sevL 1 k 1 1) := by (show _ = _; unfold tchI obs sevL; simp [hop, hk])
    have xV : Calls Tryd.prog 31 #[.slice none 0 0, .int .i64 1, .int .i64 i.b, .int .i64 (i.b + 1), .bool false] ((w.alloc (objP M)).alloc (objIn i)) _ := (by rw [hk]; exact rseveral0 1 k 1 ((k : Int) + 1) rfl (by omega) (by omega) 1 (by omega) false rfl _)
    clear hr hk hR hop h50
    go_enter Tryd.func11, Tryd.ntmps11
    go_wp2_with (go_at_call 31; (with_reducible refine xV.mono ?_); rintro e w2 ⟨va, vc, rfl, hs2, hb2⟩)
    go_ret
    exact ⟨va, vc, by rw [hT.out]; rfl, by rw [hT.out]; exact hs2, bthen hW.out hb2⟩
  have d50 : (i.op == 50) = false := by simpa using h50
  by_cases h54 : i.op = 54
  · have hop := h54
    have d54 : (i.op == 54) = true := by simpa using h54
    clear xG
    have hr := hR.out.a (by simp [hop])
    obtain ⟨k, hk⟩ : ∃ k : Nat, i.a = (k : Int) := ⟨(i.a).toNat, by omega⟩
    have hk8 : k < 8 := by omega
    have hpw : wrap64 (i.a + 1) = i.a + 1 := by unfold wrap64; omega
    have hT : Hid (tchI F.fn i = sevL 1 k 1 1) := by (show _ = _; unfold tchI obs sevL; simp [hop, hk])
    have xV : Calls Tryd.prog 31 #[.slice none 0 0, .int .i64 1, .int .i64 i.a, .int .i64 (i.a + 1), .bool false] ((w.alloc (objP M)).alloc (objIn i)) _ := (by rw [hk]; exact rseveral0 1 k 1 ((k : Int) + 1) rfl (by omega) (by omega) 1 (by omega) false rfl _)
    clear hr hk hR hop h54
    go_enter Tryd.func11, Tryd.ntmps11
    go_wp2_with (go_at_call 31; (with_reducible refine xV.mono ?_); rintro e w2 ⟨va, vc, rfl, hs2, hb2⟩)
    go_ret
    exact ⟨va, vc, by rw [hT.out]; rfl, by rw [hT.out]; exact hs2, bthen hW.out hb2⟩
  have d54 : (i.op == 54) = false := by simpa using h54
  by_cases h51 : i.op = 51
  · have hop := h51
    have d51 : (i.op == 51) = true := by simpa using h51
    clear xG
    have hr := hR.out.a (by simp [hop])
    obtain ⟨k, hk⟩ : ∃ k : Nat, i.a = (k : Int) := ⟨(i.a).toNat, by omega⟩
    have hk8 : k < 8 := by omega
    have hpw : wrap64 (i.a + 1) = i.a + 1 := by unfold wrap64; omega
    have hT : Hid (tchI F.fn i = sevL 1 k 1 2) := by (show _ = _; unfold tchI obs sevL; simp [hop, hk])
    have xV : Calls Tryd.prog 31 #[.slice none 0 0, .int .i64 1, .int .i64 i.a, .int .i64 (i.a + 1), .bool true] ((w.alloc (objP M)).alloc (objIn i)) _ := (by rw [hk]; exact rseveral0 1 k 1 ((k : Int) + 1) rfl (by omega) (by omega) 2 (by omega) true rfl _)
    clear hr hk hR hop h51
    go_enter Tryd.func11, Tryd.ntmps11
    go_wp2_with (go_at_call 31; (with_reducible refine xV.mono ?_); rintro e w2 ⟨va, vc, rfl, hs2, hb2⟩)
    go_ret
    exact ⟨va, vc, by rw [hT.out]; rfl, by rw [hT.out]; exact hs2, bthen hW.out hb2⟩
  have d51 : (i.op == 51) = false := by simpa using h51
  by_cases h52 : i.op = 52
  · have hop := h52
    have d52 : (i.op == 52) = true := by simpa using h52
    clear xG
    have hr := hR.out.b (by simp [hop])
    obtain ⟨k, hk⟩ : ∃ k : Nat, i.b = (k : Int) := ⟨(i.b).toNat, by omega⟩
    have hk8 : k < 8 := by omega
    have hpw : wrap64 (i.b + 1) = i.b + 1 := by unfold wrap64; omega
    have hT : Hid (tchI F.fn i = sevL 1 k 1 2) := by (show _ = _; unfold tchI obs sevL; simp [hop, hk])
    have xV : Calls Tryd.prog 31 #[.slice none 0 0, .int .i64 1, .int .i64 i.b, .int .i64 (i.b + 1), .bool true] ((w.alloc (objP M)).alloc (objIn i)) _ := (by rw [hk]; exact rseveral0 1 k 1 ((k : Int) + 1) rfl (by omega) (by omega) 2 (by omega) true rfl _)
    clear hr hk hR hop h52
    go_enter Tryd.func11, Tryd.ntmps11
    go_wp2_with (go_at_call 31; (with_reducible refine xV.mono ?_); rintro e w2 ⟨va, vc, rfl, hs2, hb2⟩)
    go_ret
    exact ⟨va, vc, by rw [hT.out]; rfl, by rw [hT.out]; exact hs2, bthen hW.out hb2⟩
  have d52 : (i.op == 52) = false := by simpa using h52
  by_cases h53 : i.op = 53
  · have hop := h53
    have d53 : (i.op == 53) = true := by simpa using h53
    clear xG
    have hr := hR.out.b (by simp [hop])
    obtain ⟨k, hk⟩ : ∃ k : Nat, i.b = (k : Int) := ⟨(i.b).toNat, by omega⟩
    have hk8 : k < 8 := by omega
    have hpw : wrap64 (i.b + 1) = i.b + 1 := by unfold wrap64; omega
    have hT : Hid (tchI F.fn i = sevL 1 k 1 2) := by (show _ = _; unfold tchI obs sevL; simp [hop, hk])
    have xV : Calls Tryd.prog 31 #[.slice none 0 0, .int .i64 1, .int .i64 i.b, .int .i64 (i.b + 1), .bool true] ((w.alloc (objP M)).alloc (objIn i)) _ := (by rw [hk]; exact rseveral0 1 k 1 ((k : Int) + 1) rfl (by omega) (by omega) 2 (by omega) true rfl _)
    clear hr hk hR hop h53
    go_enter Tryd.func11, Tryd.ntmps11
    go_wp2_with (go_at_call 31; (with_reducible refine xV.mono ?_); rintro e w2 ⟨va, vc, rfl, hs2, hb2⟩)
    go_ret
    exact ⟨va, vc, by rw [hT.out]; rfl, by rw [hT.out]; exact hs2, bthen hW.out hb2⟩
  have d53 : (i.op == 53) = false := by simpa using h53
  by_cases h55 : i.op = 55
  · have hop := h55
    have d55 : (i.op == 55) = true := by simpa using h55
    clear xG
    have hr := hR.out.a (by simp [hop])
    obtain ⟨k, hk⟩ : ∃ k : Nat, i.a = (k : Int) := ⟨(i.a).toNat, by omega⟩
    have hk8 : k < 8 := by omega
    have hpw : wrap64 (i.a + 1) = i.a + 1 := by unfold wrap64; omega
    have hT : Hid (tchI F.fn i = sevL 2 k 1 2) := by (show _ = _; unfold tchI obs sevL; simp [hop, hk])
    have xV : Calls Tryd.prog 31 #[.slice none 0 0, .int .i64 2, .int .i64 i.a, .int .i64 (i.a + 1), .bool true] ((w.alloc (objP M)).alloc (objIn i)) _ := (by rw [hk]; exact rseveral0 2 k 1 ((k : Int) + 1) rfl (by omega) (by omega) 2 (by omega) true rfl _)
    clear hr hk hR hop h55
    go_enter Tryd.func11, Tryd.ntmps11
    go_wp2_with (go_at_call 31; (with_reducible refine xV.mono ?_); rintro e w2 ⟨va, vc, rfl, hs2, hb2⟩)
    go_ret
    exact ⟨va, vc, by rw [hT.out]; rfl, by rw [hT.out]; exact hs2, bthen hW.out hb2⟩
  have d55 : (i.op == 55) = false := by simpa using h55
  by_cases h56 : i.op = 56
  · have hop := h56
    have d56 : (i.op == 56) = true := by simpa using h56
    clear xG
    have hr := hR.out.a (by simp [hop])
    obtain ⟨k, hk⟩ : ∃ k : Nat, i.a = (k : Int) := ⟨(i.a).toNat, by omega⟩
    have hk8 : k < 8 := by omega
    have hpw : wrap64 (i.a + 1) = i.a + 1 := by unfold wrap64; omega
    have hT : Hid (tchI F.fn i = sevL 2 k 1 2) := by (show _ = _; unfold tchI obs sevL; simp [hop, hk])
    have xV : Calls Tryd.prog 31 #[.slice none 0 0, .int .i64 2, .int .i64 i.a, .int .i64 (i.a + 1), .bool true] ((w.alloc (objP M)).alloc (objIn i)) _ := (by rw [hk]; exact rseveral0 2 k 1 ((k : Int) + 1) rfl (by omega) (by omega) 2 (by omega) true rfl _)
    clear hr hk hR hop h56
    go_enter Tryd.func11, Tryd.ntmps11
    go_wp2_with (go_at_call 31; (with_reducible refine xV.mono ?_); rintro e w2 ⟨va, vc, rfl, hs2, hb2⟩)
    go_ret
    exact ⟨va, vc, by rw [hT.out]; rfl, by rw [hT.out]; exact hs2, bthen hW.out hb2⟩
  have d56 : (i.op == 56) = false := by simpa using h56
  by_cases h57 : i.op = 57
  · have hop := h57
    have d57 : (i.op == 57) = true := by simpa using h57
    clear xG
    have hr := hR.out.b (by simp [hop])
    obtain ⟨k, hk⟩ : ∃ k : Nat, i.b = (k : Int) := ⟨(i.b).toNat, by omega⟩
    have hk8 : k < 8 := by omega
    have hpw : wrap64 (i.b + 1) = i.b + 1 := by unfold wrap64; omega
    have hT : Hid (tchI F.fn i = sevL 2 k 1 2) := by (show _ = _; unfold tchI obs sevL; simp [hop, hk])
    have xV : Calls Tryd.prog 31 #[.slice none 0 0, .int .i64 2, .int .i64 i.b, .int .i64 (i.b + 1), .bool true] ((w.alloc (objP M)).alloc (objIn i)) _ := (by rw [hk]; exact rseveral0 2 k 1 ((k : Int) + 1) rfl (by omega) (by omega) 2 (by omega) true rfl _)
    clear hr hk hR hop h57
    go_enter Tryd.func11, Tryd.ntmps11
    go_wp2_with (go_at_call 31; (with_reducible refine xV.mono ?_); rintro e w2 ⟨va, vc, rfl, hs2, hb2⟩)
    go_ret
    exact ⟨va, vc, by rw [hT.out]; rfl, by rw [hT.out]; exact hs2, bthen hW.out hb2⟩
  have d57 : (i.op == 57) = false := by simpa using h57
  by_cases h58 : i.op = 58
  · have hop := h58
    have d58 : (i.op == 58) = true := by simpa using h58
    clear xG
    have hr := hR.out.a (by simp [hop])
    obtain ⟨k, hk⟩ : ∃ k : Nat, i.a = (k : Int) := ⟨(i.a).toNat, by omega⟩
    have hk8 : k < 8 := by omega
    have hpw : wrap64 (i.a + 1) = i.a + 1 := by unfold wrap64; omega
    have hT : Hid (tchI F.fn i = sevL 3 k 1 2) := by (show _ = _; unfold tchI obs sevL; simp [hop, hk])
    have xV : Calls Tryd.prog 31 #[.slice none 0 0, .int .i64 3, .int .i64 i.a, .int .i64 (i.a + 1), .bool true] ((w.alloc (objP M)).alloc (objIn i)) _ := (by rw [hk]; exact rseveral0 3 k 1 ((k : Int) + 1) rfl (by omega) (by omega) 2 (by omega) true rfl _)
    clear hr hk hR hop h58
    go_enter Tryd.func11, Tryd.ntmps11
    go_wp2_with (go_at_call 31; (with_reducible refine xV.mono ?_); rintro e w2 ⟨va, vc, rfl, hs2, hb2⟩)
    go_ret
    exact ⟨va, vc, by rw [hT.out]; rfl, by rw [hT.out]; exact hs2, bthen hW.out hb2⟩
  have d58 : (i.op == 58) = false := by simpa using h58
  by_cases h60 : i.op = 60
  · have hop := h60
    have d60 : (i.op == 60) = true := by simpa using h60
    clear xG
    have hr := hR.out.a (by simp [hop])
    obtain ⟨k, hk⟩ : ∃ k : Nat, i.a = (k : Int) := ⟨(i.a).toNat, by omega⟩
    have hk8 : k < 8 := by omega
    have hpw : wrap64 (i.a + 1) = i.a + 1 := by unfold wrap64; omega
    have hT : Hid (tchI F.fn i = sevL 3 k 1 2) := by (show _ = _; unfold tchI obs sevL; simp [hop, hk])
    have xV : Calls Tryd.prog 31 #[.slice none 0 0, .int .i64 3, .int .i64 i.a, .int .i64 (i.a + 1), .bool true] ((w.alloc (objP M)).alloc (objIn i)) _ := (by rw [hk]; exact rseveral0 3 k 1 ((k : Int) + 1) rfl (by omega) (by omega) 2 (by omega) true rfl _)
    clear hr hk hR hop h60
    go_enter Tryd.func11, Tryd.ntmps11
    go_wp2_with (go_at_call 31; (with_reducible refine xV.mono ?_); rintro e w2 ⟨va, vc, rfl, hs2, hb2⟩)
    go_ret
    exact ⟨va, vc, by rw [hT.out]; rfl, by rw [hT.out]; exact hs2, bthen hW.out hb2⟩
  have d60 : (i.op == 60) = false := by simpa using h60
  by_cases h59 : i.op = 59
  · have hop := h59
    have d59 : (i.op == 59) = true := by simpa using h59
    clear xG
    have hr := hR.out.b (by simp [hop])
    obtain ⟨k, hk⟩ : ∃ k : Nat, i.b = (k : Int) := ⟨(i.b).toNat, by omega⟩
    have hk8 : k < 8 := by omega
    have hpw : wrap64 (i.b + 1) = i.b + 1 := by unfold wrap64; omega
    have hT : Hid (tchI F.fn i = sevL 3 k 1 2) := by (show _ = _; unfold tchI obs sevL; simp [hop, hk])
    have xV : Calls Tryd.prog 31 #[.slice none 0 0, .int .i64 3, .int .i64 i.b, .int .i64 (i.b + 1), .bool true] ((w.alloc (objP M)).alloc (objIn i)) _ := (by rw [hk]; exact rseveral0 3 k 1 ((k : Int) + 1) rfl (by omega) (by omega) 2 (by omega) true rfl _)
    clear hr hk hR hop h59
    go_enter Tryd.func11, Tryd.ntmps11
    go_wp2_with (go_at_call 31; (with_reducible refine xV.mono ?_); rintro e w2 ⟨va, vc, rfl, hs2, hb2⟩)
    go_ret
    exact ⟨va, vc, by rw [hT.out]; rfl, by rw [hT.out]; exact hs2, bthen hW.out hb2⟩
  have d59 : (i.op == 59) = false := by simpa using h59
  by_cases h61 : i.op = 61
  · have hop := h61
    obtain ⟨hsr, hcr, hc4'⟩ := hR.out.s hop
    obtain ⟨s, hs, hsm⟩ := get_lt F.sels i.a.toNat (by have h1 := hsr.1; have h2 := hsr.2; have h3 : F.fn.sels.length = F.sels.length := (by show (F.sels.map MSel.sel).length = _; rw [List.length_map]); omega)
    have hse : selAt F.fn i.a = s.sel := by
      unfold selAt
      rw [List.getD_eq_getElem?_getD]
      show ((F.sels.map MSel.sel)[i.a.toNat]?).getD _ = _
      rw [List.getElem?_map, hs]
      rfl
    rw [hse] at hcr hc4'
    have hT : Hid (tchI F.fn i = s.cases.map fun c => (obs 3 c.ch, (2 : Int))) := by (show _ = _; unfold tchI; rw [if_neg h50, if_neg h54, if_neg h51, if_neg (fun q => q.elim h52 h53), if_neg (fun q => q.elim h55 h56), if_neg h57, if_neg (fun q => q.elim h58 h60), if_neg h59, if_pos h61, hse]; rfl)
    have hc4 : s.cases.length ≤ 4 := hc4'
    have hch : Hid (∀ c ∈ s.cases, 0 ≤ c.ch ∧ c.ch < 8) := hcr
    obtain ⟨sb, so, hsx, hsb, e0, e1⟩ := sel_ix hlF1.out.2.1 i.a.toNat s hs
    rw [show ((i.a.toNat : Nat) : Int) = i.a by have := hsr.1; omega] at hsx
    have hlS : Hid (s.lies ((w.alloc (objP M)).alloc (objIn i))) := hlF1.out.2.2.2.1 s hsm
    have d61 : (i.op == 61) = true := by simpa using h61
    have hcI : (s.cases.length : Int) ≤ 4 := by omega
    have q3 := p3H.out.2.2.2
    have q4 := fcH.out
    clear h61 hse hs hsm hR hop hsr hcr hc4'
    go_enter Tryd.func11, Tryd.ntmps11
    go_upto_region 24 with (fail)
    have hbz := boxed ((w.alloc (objP M)).alloc (objIn i)) (.cells #[.slice none 0 0, .int .i64 0] 76)
    have z3 := cell_later hbz q3
    have z4 := cell_later hbz q4
    have z0 := cell_later hbz e0
    have z1 := cell_later hbz e1
    have zj := cell_later hbz j1
    go_region
    have hV3 : Hid (Below w.heap.size w (((w.alloc (objP M)).alloc (objIn i)).alloc (objSl s)).drew) := (bthen (bthen hW.out (boxed _ (objSl s))) (bey_drew _))
    have hS3 : Hid ((((w.alloc (objP M)).alloc (objIn i)).alloc (objSl s)).drew.heap[w.heap.size + 1 + 1]? = some (objSl s)) := by
      have h := heap_alloc_new ((w.alloc (objP M)).alloc (objIn i)) (objSl s)
      rw [World.size_alloc, World.size_alloc] at h
      exact h
    have hl3 : Hid (s.lies (((w.alloc (objP M)).alloc (objIn i)).alloc (objSl s)).drew) := (hlS.out.later (boxed _ (objSl s))).later (bey_drew _)
    clear z0 z1 z3 z4 zj hbz q3 q4 e0 e1 hsx hsb hlS hW hlF1 fcH p3H hCH p3 j0 j1 j2 hfix hix i0 i1 i2 i3 i4 fc2
    generalize (((w.alloc (objP M)).alloc (objIn i)).alloc (objSl s)).drew = V at *
    have hszV : Hid (w.heap.size + 1 + 1 < V.heap.size) := (Array.getElem?_eq_some_iff.mp hS3.out).1
    go_wp2_with fail
    go_loopw [8, 10] (fun o u wr => ∃ (k : Nat) (va : Option Addr) (vc : Nat), k ≤ s.cases.length ∧ u = .int .i64 (k : Int) ∧ o = .slice va (lstO (mxL zO ((s.cases.take k).map fun c => (obs 3 c.ch, (2 : Int)))) 56).length vc ∧ Hid (Rows wr 3 va vc ((lstO (mxL zO ((s.cases.take k).map fun c => (obs 3 c.ch, (2 : Int)))) 56).map AcQ.cells) ∧ wr.heap[w.heap.size + 1 + 1]? = some (objSl s) ∧ Below V.heap.size V wr ∧ s.lies wr)) (fun _ u _ => s.cases.length - (intOf u).toNat)
    case atStart => exact ⟨0, none, 0, Nat.zero_le _, rfl, rfl, rows_nilF _ _, hS3.out, Below.refl _ _, hl3.out⟩
    case round =>
      clear hS3 hl3
      obtain ⟨k, va, vc, hk, rfl, rfl, hr⟩ := hrel
      have k0 := cell_ofF (k := 0) (v := .slice s.at_ s.cases.length s.cap) hr.out.2.1 rfl
      by_cases hlt : k < s.cases.length
      · obtain ⟨c, hc, hcm⟩ := get_lt s.cases k hlt
        obtain ⟨cb, co, hix, hcb, i0, i1, i2, i3⟩ := cas_ix hr.out.2.2.2.1 k c hc
        have hkI : (k : Int) < s.cases.length := by omega
        have hcc := hch.out c hcm
        have hmore : Hid (((s.cases.take (k + 1)).map fun c => (obs 3 c.ch, (2 : Int))) = ((s.cases.take k).map fun c => (obs 3 c.ch, (2 : Int))) ++ [(obs 3 c.ch, 2)]) := by (show _ = _; rw [take_oneQ s.cases k c hc, List.map_append]; rfl)
        obtain ⟨n, hn⟩ : ∃ n : Nat, c.ch = (n : Int) := ⟨c.ch.toNat, by omega⟩
        have hob : Hid ([(obs 3 c.ch, (2 : Int))] = sevL 3 n 1 2) := by (show _ = _; unfold obs sevL; simp [hn])
        rw [hn] at i1
        have hpw : wrap64 ((n : Int) + 1) = (n : Int) + 1 := by unfold wrap64; omega
        have xP : ∀ wx va ca, Rows wx 3 va ca ((lstO (mxL zO ((s.cases.take k).map fun c => (obs 3 c.ch, (2 : Int)))) 56).map AcQ.cells) → Calls Tryd.prog 31 #[.slice va (lstO (mxL zO ((s.cases.take k).map fun c => (obs 3 c.ch, (2 : Int)))) 56).length ca, .int .i64 3, .int .i64 (n : Int), .int .i64 ((n : Int) + 1), .bool true] wx _ := fun wx va ca h => rseveral_any (mxL zO ((s.cases.take k).map fun c => (obs 3 c.ch, (2 : Int)))) (mxL_range rng0 (fun x hx => by obtain ⟨c', _, rfl⟩ := List.mem_map.mp hx; exact .inr rfl)) 3 n 1 ((n : Int) + 1) rfl (by omega) (by omega) 2 (by omega) true rfl va ca wx h
        have hn8 : n < 8 := by omega
        clear hcc
        have hmo2 : Hid (mxL zO ((s.cases.take (k + 1)).map fun c => (obs 3 c.ch, (2 : Int))) = mxL (mxL zO ((s.cases.take k).map fun c => (obs 3 c.ch, (2 : Int)))) (sevL 3 n 1 2)) := by (show _ = _; rw [hmore.out, mxL_app, hob.out])
        clear hmore hob
        generalize mxL zO ((s.cases.take k).map fun c => (obs 3 c.ch, (2 : Int))) = O1 at *
        go_upto_region 28 with fail
        have hH : Below wr.heap.size wr wr.drew := bey_drew wr
        have xP := xP wr.drew va vc (hr.out.1.later hH)
        refine wp_region_held_drew (S := fun w' => Below wr.heap.size wr w') (by kernel_rfl) hH (fun _ => ?_)
        refine reg_move (i := 0) rfl (by kernel_rfl) (by kernel_rfl) (by kernel_rfl) (fun _ _ _ _ h => h) rfl (.slice va (lstO O1 56).length vc) (fun _ => by kernel_rfl) hH ?_
        simp only [Act.put, List.getElem_toArray, List.getElem_cons_succ, List.getElem_cons_zero, List.setIfInBounds_toArray, List.set_cons_zero, List.set_cons_succ]
        refine reg_move (i := 1) rfl (by kernel_rfl) (by kernel_rfl) (by kernel_rfl) (fun _ _ _ _ h => h) rfl (.pointer (some ⟨w.heap.size + 1 + 1, 0, none⟩)) (fun _ => by kernel_rfl) hH ?_
        simp only [Act.put, List.getElem_toArray, List.getElem_cons_succ, List.getElem_cons_zero, List.setIfInBounds_toArray, List.set_cons_zero, List.set_cons_succ]
        refine reg_load1 (i := 2) rfl (by kernel_rfl) (by kernel_rfl) (by kernel_rfl) (fun _ _ _ _ h => h) rfl 74 _ rfl ⟨w.heap.size + 1 + 1, 0, none⟩ rfl _ Tryd.underlying74 rfl (.slice s.at_ s.cases.length s.cap) (fun w' h' => cell_later h' k0) hH ?_
        simp only [Act.put, List.getElem_toArray, List.getElem_cons_succ, List.getElem_cons_zero, List.setIfInBounds_toArray, List.set_cons_zero, List.set_cons_succ]
        refine reg_move (i := 3) rfl (by kernel_rfl) (by kernel_rfl) (by kernel_rfl) (fun _ _ _ _ h => h) rfl (.int .i64 (k : Int)) (fun _ => by kernel_rfl) hH ?_
        simp only [Act.put, List.getElem_toArray, List.getElem_cons_succ, List.getElem_cons_zero, List.setIfInBounds_toArray, List.set_cons_zero, List.set_cons_succ]
        refine reg_move (i := 4) rfl (by kernel_rfl) (by kernel_rfl) (by kernel_rfl) (fun _ _ _ _ h => h) rfl (.pointer (some ⟨cb, co, none⟩)) (fun wx => by unfold execOp; exact run_valueF (hix wx)) hH ?_
        simp only [Act.put, List.getElem_toArray, List.getElem_cons_succ, List.getElem_cons_zero, List.setIfInBounds_toArray, List.set_cons_zero, List.set_cons_succ]
        refine reg_move (i := 5) rfl (by kernel_rfl) (by kernel_rfl) (by kernel_rfl) (fun _ _ _ _ h => h) rfl (.pointer (some ⟨cb, co + 1, none⟩)) (fun _ => by kernel_rfl) hH ?_
        simp only [Act.put, List.getElem_toArray, List.getElem_cons_succ, List.getElem_cons_zero, List.setIfInBounds_toArray, List.set_cons_zero, List.set_cons_succ]
        refine reg_load1 (i := 6) rfl (by kernel_rfl) (by kernel_rfl) (by kernel_rfl) (fun _ _ _ _ h => h) rfl 3 _ rfl ⟨cb, co + 1, none⟩ rfl _ Tryd.underlying3 rfl (.int .i64 (n : Int)) (fun w' h' => cell_later h' i1) hH ?_
        simp only [Act.put, List.getElem_toArray, List.getElem_cons_succ, List.getElem_cons_zero, List.setIfInBounds_toArray, List.set_cons_zero, List.set_cons_succ]
        refine reg_move (i := 7) rfl (by kernel_rfl) (by kernel_rfl) (by kernel_rfl) (fun _ _ _ _ h => h) rfl (.pointer (some ⟨w.heap.size + 1 + 1, 0, none⟩)) (fun _ => by kernel_rfl) hH ?_
        simp only [Act.put, List.getElem_toArray, List.getElem_cons_succ, List.getElem_cons_zero, List.setIfInBounds_toArray, List.set_cons_zero, List.set_cons_succ]
        refine reg_load1 (i := 8) rfl (by kernel_rfl) (by kernel_rfl) (by kernel_rfl) (fun _ _ _ _ h => h) rfl 74 _ rfl ⟨w.heap.size + 1 + 1, 0, none⟩ rfl _ Tryd.underlying74 rfl (.slice s.at_ s.cases.length s.cap) (fun w' h' => cell_later h' k0) hH ?_
        simp only [Act.put, List.getElem_toArray, List.getElem_cons_succ, List.getElem_cons_zero, List.setIfInBounds_toArray, List.set_cons_zero, List.set_cons_succ]
        refine reg_move (i := 9) rfl (by kernel_rfl) (by kernel_rfl) (by kernel_rfl) (fun _ _ _ _ h => h) rfl (.int .i64 (k : Int)) (fun _ => by kernel_rfl) hH ?_
        simp only [Act.put, List.getElem_toArray, List.getElem_cons_succ, List.getElem_cons_zero, List.setIfInBounds_toArray, List.set_cons_zero, List.set_cons_succ]
        refine reg_move (i := 10) rfl (by kernel_rfl) (by kernel_rfl) (by kernel_rfl) (fun _ _ _ _ h => h) rfl (.pointer (some ⟨cb, co, none⟩)) (fun wx => by unfold execOp; exact run_valueF (hix wx)) hH ?_
        simp only [Act.put, List.getElem_toArray, List.getElem_cons_succ, List.getElem_cons_zero, List.setIfInBounds_toArray, List.set_cons_zero, List.set_cons_succ]
        refine reg_move (i := 11) rfl (by kernel_rfl) (by kernel_rfl) (by kernel_rfl) (fun _ _ _ _ h => h) rfl (.pointer (some ⟨cb, co + 1, none⟩)) (fun _ => by kernel_rfl) hH ?_
        simp only [Act.put, List.getElem_toArray, List.getElem_cons_succ, List.getElem_cons_zero, List.setIfInBounds_toArray, List.set_cons_zero, List.set_cons_succ]
        refine reg_load1 (i := 12) rfl (by kernel_rfl) (by kernel_rfl) (by kernel_rfl) (fun _ _ _ _ h => h) rfl 3 _ rfl ⟨cb, co + 1, none⟩ rfl _ Tryd.underlying3 rfl (.int .i64 (n : Int)) (fun w' h' => cell_later h' i1) hH ?_
        simp only [Act.put, List.getElem_toArray, List.getElem_cons_succ, List.getElem_cons_zero, List.setIfInBounds_toArray, List.set_cons_zero, List.set_cons_succ]
        refine reg_move (i := 13) rfl (by kernel_rfl) (by kernel_rfl) (by kernel_rfl) (fun _ _ _ _ h => h) rfl (.int .i64 ((n : Int) + 1)) (fun wx => by unfold execOp; exact run_valueF (addI n hn8 wx)) hH ?_
        simp only [Act.put, List.getElem_toArray, List.getElem_cons_succ, List.getElem_cons_zero, List.setIfInBounds_toArray, List.set_cons_zero, List.set_cons_succ]
        refine reg_call5Q (i := 14) (by kernel_rfl) rfl rfl 31 #[.tmp 116, .const (.int .i64 3), .tmp 122, .tmp 129, .const (.bool true)] _ rfl #[.slice va (lstO O1 56).length vc, .int .i64 3, .int .i64 (n : Int), .int .i64 ((n : Int) + 1), .bool true] (by first | (simp only [List.map_toArray, List.map_cons, List.map_nil]; rfl) | (simp; done)) (cf_fn Tryd.func31 (by kernel_rfl) (by kernel_rfl) _ _) _ xP ?_
        rintro e w2 ⟨va2, vc2, rfl, hs2, hb2⟩
        have hH2 : Below wr.heap.size wr w2 := bthen hH hb2
        refine ⟨_, rfl, hH2, fun _ => ?_⟩
        simp only [Act.put, List.getElem_toArray, List.getElem_cons_succ, List.getElem_cons_zero, List.setIfInBounds_toArray, List.set_cons_zero, List.set_cons_succ]
        refine reg_move (i := 15) rfl (by kernel_rfl) (by kernel_rfl) (by kernel_rfl) (fun _ _ _ _ h => h) rfl (.slice va2 (lstO (mxL O1 (sevL 3 n 1 2)) 56).length vc2) (fun _ => rfl) hH2 ?_
        simp only [Act.put, List.getElem_toArray, List.getElem_cons_succ, List.getElem_cons_zero, List.setIfInBounds_toArray, List.set_cons_zero, List.set_cons_succ]
        refine wpAnyH_done (by kernel_rfl) ?_ _
        have hr2 : Hid (Rows w2 3 va2 vc2 ((lstO (mxL O1 (sevL 3 n 1 2)) 56).map AcQ.cells) ∧ w2.heap[w.heap.size + 1 + 1]? = some (objSl s) ∧ Below V.heap.size V w2 ∧ s.lies w2) := ⟨hs2, blk_onQ hr.out.2.1 hH2, bthen hr.out.2.2.1 hH2, hr.out.2.2.2.later hH2⟩
        clear hH hH2 hs2 hb2 xP hr
        go_wp2_with fail
        go_roundw
        case rel => exact ⟨k + 1, va2, vc2, by omega, by go_num, by rw [hmo2.out], by rw [hmo2.out]; exact hr2⟩
        case measure => simp [intOf]; omega
      · have hk2 : k = s.cases.length := by omega
        have hkI : ¬ ((k : Int) < s.cases.length) := by omega
        have hfin : Hid (tchI F.fn i = (s.cases.take k).map fun c => (obs 3 c.ch, (2 : Int))) := by (show _ = _; rw [hT.out, hk2, List.take_length])
        go_wp2_with fail
        go_ret
        have hrr : Hid (Rows wr 3 va vc ((lstO (mxL zO (s.cases.map fun c => (obs 3 c.ch, (2 : Int)))) 56).map AcQ.cells)) := (by (have h := hr.out.1; rw [hk2, List.take_length] at h; exact h))
        exact ⟨va, vc, by rw [hT.out]; rfl, by rw [hT.out]; exact hrr.out, hV3.out.trans (hr.out.2.2.1.mono hV3.out.size)⟩
  have d61 : (i.op == 61) = false := by simpa using h61
  by_cases h62 : i.op = 62
  · have hop := h62
    have d62 : (i.op == 62) = true := by simpa using h62
    have hT : Hid (tchI F.fn i = sevL 4 0 1 2 ++ sevL 5 1 5 2) := by (show _ = _; unfold tchI; simp only [hop]; rfl)
    have xV : Calls Tryd.prog 31 #[.slice none 0 0, .int .i64 4, .int .i64 0, .int .i64 1, .bool true] ((w.alloc (objP M)).alloc (objIn i)) _ := rseveral0 4 0 1 1 rfl (by omega) (by omega) 2 (by omega) true rfl _
    have xW : ∀ wx va ca, Rows wx 3 va ca ((lstO (mxL zO (sevL 4 0 1 2)) 56).map AcQ.cells) → Calls Tryd.prog 31 #[.slice va (lstO (mxL zO (sevL 4 0 1 2)) 56).length ca, .int .i64 5, .int .i64 1, .int .i64 6, .bool true] wx _ := fun wx va ca h => rseveral_any (mxL zO (sevL 4 0 1 2)) (mxL_range rng0 (sevL_pos (by omega))) 5 1 5 6 rfl (by omega) (by omega) 2 (by omega) true rfl va ca wx h
    clear hR xG hop h62
    go_enter Tryd.func11, Tryd.ntmps11
    go_wp2_with (go_at_call 31; first
      | ((with_reducible refine xV.mono ?_); rintro e w2 ⟨va, vc, rfl, hs2, hb2⟩; clear xV; (have xU := xW w2 va vc hs2))
      | ((with_reducible refine xU.mono ?_); rintro e w3 ⟨va3, vc3, rfl, hs3, hb3⟩))
    go_ret
    exact ⟨va3, vc3, by rw [hT.out, mxL_app]; rfl, by rw [hT.out, mxL_app]; exact hs3, bthen (bthen hW.out hb2) hb3⟩
  have d62 : (i.op == 62) = false := by simpa using h62
  by_cases h63 : i.op = 63
  · have hop := h63
    have d63 : (i.op == 63) = true := by simpa using h63
    have hT : Hid (tchI F.fn i = sevL 4 0 1 1 ++ sevL 5 0 6 1) := by (show _ = _; unfold tchI; simp only [hop]; rfl)
    have xV : Calls Tryd.prog 31 #[.slice none 0 0, .int .i64 4, .int .i64 0, .int .i64 1, .bool false] ((w.alloc (objP M)).alloc (objIn i)) _ := rseveral0 4 0 1 1 rfl (by omega) (by omega) 1 (by omega) false rfl _
    have xW : ∀ wx va ca, Rows wx 3 va ca ((lstO (mxL zO (sevL 4 0 1 1)) 56).map AcQ.cells) → Calls Tryd.prog 31 #[.slice va (lstO (mxL zO (sevL 4 0 1 1)) 56).length ca, .int .i64 5, .int .i64 0, .int .i64 6, .bool false] wx _ := fun wx va ca h => rseveral_any (mxL zO (sevL 4 0 1 1)) (mxL_range rng0 (sevL_pos (by omega))) 5 0 6 6 rfl (by omega) (by omega) 1 (by omega) false rfl va ca wx h
    clear hR xG hop h63
    go_enter Tryd.func11, Tryd.ntmps11
    go_wp2_with (go_at_call 31; first
      | ((with_reducible refine xV.mono ?_); rintro e w2 ⟨va, vc, rfl, hs2, hb2⟩; clear xV; (have xU := xW w2 va vc hs2))
      | ((with_reducible refine xU.mono ?_); rintro e w3 ⟨va3, vc3, rfl, hs3, hb3⟩))
    go_ret
    exact ⟨va3, vc3, by rw [hT.out, mxL_app]; rfl, by rw [hT.out, mxL_app]; exact hs3, bthen (bthen hW.out hb2) hb3⟩
  have d63 : (i.op == 63) = false := by simpa using h63
  by_cases h65 : i.op = 65
  · have hop := h65
    have d65 : (i.op == 65) = true := by simpa using h65
    have hT : Hid (tchI F.fn i = sevL 6 0 1 2) := by (show _ = _; unfold tchI; simp only [hop]; rfl)
    have xV : Calls Tryd.prog 31 #[.slice none 0 0, .int .i64 6, .int .i64 0, .int .i64 1, .bool true] ((w.alloc (objP M)).alloc (objIn i)) _ := rseveral0 6 0 1 1 rfl (by omega) (by omega) 2 (by omega) true rfl _
    clear hR xG hop h65
    go_enter Tryd.func11, Tryd.ntmps11
    go_wp2_with (go_at_call 31; (with_reducible refine xV.mono ?_); rintro e w2 ⟨va, vc, rfl, hs2, hb2⟩)
    go_ret
    exact ⟨va, vc, by rw [hT.out]; rfl, by rw [hT.out]; exact hs2, bthen hW.out hb2⟩
  have d65 : (i.op == 65) = false := by simpa using h65
  have hT : Hid (tchI F.fn i = []) := by
    show _ = _
    unfold tchI
    rw [if_neg h50, if_neg h54, if_neg h51, if_neg (fun q => q.elim h52 h53), if_neg (fun q => q.elim h55 h56), if_neg h57, if_neg (fun q => q.elim h58 h60), if_neg h59, if_neg h61, if_neg h62, if_neg h63, if_neg h65]
  clear hR xG
  go_enter Tryd.func11, Tryd.ntmps11
  go_wp2
  go_ret
  exact ⟨none, 0, by rw [hT.out]; rfl, by rw [hT.out]; exact rows_nilF _ _, hW.out⟩
end Go.Proofs.YtlcljdldhajkiaaDoor.pg
/- The document's May: plain; its Reach, new. -/
namespace Go.Proofs.YtlcljdldhajkiaaDoor.pg
open Go.ChangeShapes Go.WideShapes Go.ChangeAt Go.RowKit Go.Shelf
set_option linter.unusedVariables false
set_option linter.unusedSimpArgs false
set_option maxRecDepth 100000
def prs (Q : Nat → Int) (m : Nat) : List (Nat × Int) := (List.range m).flatMap fun j => if Q j = 0 then [] else [(j, Q j)]
def toA (x : Nat × Int) : AcQ := ⟨((x.1 / 8 : Nat) : Int), ((x.1 % 8 : Nat) : Int), x.2 == 2⟩
theorem lst_prs (Q : Nat → Int) (m : Nat) : lstO Q m = (prs Q m).map toA := by
  unfold lstO prs
  rw [List.map_flatMap]
  congr 1
  funext j
  unfold accO
  split <;> rfl
theorem prs_mem {Q : Nat → Int} {m : Nat} {x : Nat × Int} : x ∈ prs Q m ↔ x.1 < m ∧ Q x.1 ≠ 0 ∧ x.2 = Q x.1 := by
  unfold prs
  rw [List.mem_flatMap]
  constructor
  · rintro ⟨j, hj, h⟩
    split at h
    · simp at h
    · rename_i c
      rw [List.mem_singleton] at h
      subst h
      exact ⟨List.mem_range.mp hj, c, rfl⟩
  · rintro ⟨h1, h2, h3⟩
    refine ⟨x.1, List.mem_range.mpr h1, ?_⟩
    rw [if_neg h2, List.mem_singleton, ← h3]
def unS (P : Nat → Nat → Bool) (fn : Nat) (S : Nat → Bool) : Nat → Nat → Bool := fun g k => P g k || (decide (g = fn) && S k)
theorem unS_iff {P : Nat → Nat → Bool} {fn : Nat} {S : Nat → Bool} {g k : Nat} : unS P fn S g k = true ↔ P g k = true ∨ (g = fn ∧ S k = true) := by
  unfold unS
  simp
theorem hlt56 {f : Fn} {i : Ins} {x : Nat × Int} (hR : TchR f i) (h : x ∈ tchI f i) : x.1 < 56 := by
  have hob : ∀ k n (h : Int), 0 ≤ n → n < 8 → k < 7 → x ∈ [(obs k n, h)] → x.1 < 56 := fun k n h h0 h1 h2 q => by
    rw [List.mem_singleton] at q
    subst q
    show obs k n < 56
    unfold obs
    omega
  have hg : ∀ fr (h : Int), x ∈ gosL fr h → x.1 < 56 := fun fr h q => by
    unfold gosL at q
    rcases List.mem_cons.mp q with rfl | q
    · show (32 : Nat) < 56; omega
    · obtain ⟨k, hk, rfl⟩ := List.mem_map.mp q
      have := List.mem_range.mp (List.mem_of_mem_drop hk)
      show 40 + k < 56
      omega
  unfold tchI at h
  by_cases c1 : i.op = 50
  · rw [if_pos c1] at h; have := hR.b (by omega); exact hob _ _ _ this.1 this.2 (by omega) h
  rw [if_neg c1] at h
  by_cases c2 : i.op = 54
  · rw [if_pos c2] at h; have := hR.a (by omega); exact hob _ _ _ this.1 this.2 (by omega) h
  rw [if_neg c2] at h
  by_cases c3 : i.op = 51
  · rw [if_pos c3] at h; have := hR.a (by omega); exact hob _ _ _ this.1 this.2 (by omega) h
  rw [if_neg c3] at h
  by_cases c4 : i.op = 52 ∨ i.op = 53
  · rw [if_pos c4] at h; have := hR.b (by omega); exact hob _ _ _ this.1 this.2 (by omega) h
  rw [if_neg c4] at h
  by_cases c5 : i.op = 55 ∨ i.op = 56
  · rw [if_pos c5] at h; have := hR.a (by omega); exact hob _ _ _ this.1 this.2 (by omega) h
  rw [if_neg c5] at h
  by_cases c6 : i.op = 57
  · rw [if_pos c6] at h; have := hR.b (by omega); exact hob _ _ _ this.1 this.2 (by omega) h
  rw [if_neg c6] at h
  by_cases c7 : i.op = 58 ∨ i.op = 60
  · rw [if_pos c7] at h; have := hR.a (by omega); exact hob _ _ _ this.1 this.2 (by omega) h
  rw [if_neg c7] at h
  by_cases c8 : i.op = 59
  · rw [if_pos c8] at h; have := hR.b (by omega); exact hob _ _ _ this.1 this.2 (by omega) h
  rw [if_neg c8] at h
  by_cases c9 : i.op = 61
  · rw [if_pos c9] at h
    obtain ⟨c, hc, rfl⟩ := List.mem_map.mp h
    have := (hR.s c9).2.1 c hc
    show obs 3 c.ch < 56
    unfold obs
    omega
  rw [if_neg c9] at h
  by_cases c10 : i.op = 62
  · rw [if_pos c10] at h; exact hg _ _ h
  rw [if_neg c10] at h
  by_cases c11 : i.op = 63
  · rw [if_pos c11] at h; exact hg _ _ h
  rw [if_neg c11] at h
  by_cases c12 : i.op = 65
  · rw [if_pos c12, List.mem_singleton] at h
    subst h
    show (48 : Nat) < 56
    omega
  rw [if_neg c12] at h
  simp at h
/-- Inside the places of one function. -/
structure RmJ (fns : List Fn) (f0 p0 : Nat) (P : Nat → Nat → Bool) (fn : Nat) (F : Fn) (S : Nat → Bool) (O : Nat → Int) (td dn : Nat → Bool) (i : Nat) : Prop where
  hF : fns[fn]? = some F
  hS : closedF F alw S
  so : ∀ k, F.code.length ≤ k → S k = false
  pu : ∀ g F' k, fns[g]? = some F' → k < F'.code.length → P g k = true → ∀ x ∈ tchI F' (insAt F'.code k), x.2 ≤ O x.1
  su : ∀ k : Nat, (k : Int) ∈ (lst S F.code.length).take i → ∀ x ∈ tchI F (insAt F.code k), x.2 ≤ O x.1
  le : ∀ j, O j = 0 ∨ ∃ g F' k, fns[g]? = some F' ∧ k < F'.code.length ∧ unS P fn S g k = true ∧ (j, O j) ∈ tchI F' (insAt F'.code k)
  cl : ∀ g F', fns[g]? = some F' → closedF F' alw (P g)
  ps : ∀ g F' k, fns[g]? = some F' → k < F'.code.length → P g k = true → (insAt F'.code k).op = 62 → td (insAt F'.code k).b.toNat = true
  ss : ∀ k : Nat, (k : Int) ∈ (lst S F.code.length).take i → (insAt F.code k).op = 62 → td (insAt F.code k).b.toNat = true
  lo : ∀ R', R' f0 p0 = true → ClosedP fns R' → ∀ g k, unS P fn S g k = true → R' g k = true
  tl : ∀ R', R' f0 p0 = true → ClosedP fns R' → ∀ b, td b = true → R' b 0 = true
  tn : ∀ b, td b = true → b < fns.length
  dd : ∀ g, dn g = true → unS P fn S g 0 = true
  st : unS P fn S f0 p0 = true
/-- And behind them. -/
structure RmK (fns : List Fn) (f0 p0 : Nat) (P : Nat → Nat → Bool) (O : Nat → Int) (td dn : Nat → Bool) : Prop where
  up : ∀ g F' k, fns[g]? = some F' → k < F'.code.length → P g k = true → ∀ x ∈ tchI F' (insAt F'.code k), x.2 ≤ O x.1
  le : ∀ j, O j = 0 ∨ ∃ g F' k, fns[g]? = some F' ∧ k < F'.code.length ∧ P g k = true ∧ (j, O j) ∈ tchI F' (insAt F'.code k)
  cl : ∀ g F', fns[g]? = some F' → closedF F' alw (P g)
  sp : ∀ g F' k, fns[g]? = some F' → k < F'.code.length → P g k = true → (insAt F'.code k).op = 62 → td (insAt F'.code k).b.toNat = true
  lo : ∀ R', R' f0 p0 = true → ClosedP fns R' → ∀ g k, P g k = true → R' g k = true
  tl : ∀ R', R' f0 p0 = true → ClosedP fns R' → ∀ b, td b = true → R' b 0 = true
  tn : ∀ b, td b = true → b < fns.length
  dd : ∀ g, dn g = true → P g 0 = true
  st : P f0 p0 = true
theorem RmJ.first {fns : List Fn} {f0 p0 : Nat} {F : Fn} (hF : fns[f0]? = some F) {S : Nat → Bool} (hS : Least F alw (onePl p0) S) (so : ∀ k, F.code.length ≤ k → S k = false) : RmJ fns f0 p0 (fun _ _ => false) f0 F S zO (fun _ => false) (fun _ => false) 0 := by
  refine ⟨hF, hS.cl, so, fun _ _ _ _ _ q => (by cases q), fun k q => (by simp at q), fun j => .inl rfl, fun _ _ _ pc hp q => (by cases q), fun _ _ _ _ _ q => (by cases q), fun k q => (by simp at q), fun R' h1 h2 g k q => ?_, fun _ _ _ _ q => (by cases q), fun _ q => (by cases q), fun _ q => (by cases q), unS_iff.mpr (.inr ⟨rfl, hS.up p0 (by simp [onePl])⟩)⟩
  rcases unS_iff.mp q with q2 | ⟨rfl, q2⟩
  · cases q2
  · exact hS.le (R' g) (fun j hj => by
      have : j = p0 := by simpa [onePl] using hj
      rw [this]; exact h1) (h2.c g F hF) k q2
theorem RmJ.step {fns : List Fn} {f0 p0 : Nat} {P : Nat → Nat → Bool} {fn : Nat} {F : Fn} {S : Nat → Bool} {O : Nat → Int} {td dn td' : Nat → Bool} {i k : Nat} (h : RmJ fns f0 p0 P fn F S O td dn i) (hk : (lst S F.code.length)[i]? = some (k : Int)) (hO : ∀ j, O j = 0 ∨ O j = 1 ∨ O j = 2)
    (hk2 : k < F.code.length ∧ S k = true) (ht : td' = if (insAt F.code k).op = 62 then (fun b => if b = (insAt F.code k).b.toNat then true else td b) else td) (hb : (insAt F.code k).op = 62 → (insAt F.code k).b.toNat < fns.length) (hR : TchR F (insAt F.code k)) :
    RmJ fns f0 p0 P fn F S (mxL O (prs (mxL zO (tchI F (insAt F.code k))) 56)) td' dn (i + 1) := by
  have hu := mxL_up (prs (mxL zO (tchI F (insAt F.code k))) 56) O
  have htd : ∀ b, td b = true → td' b = true := fun b q => by
    rw [ht]
    split
    · show (if b = _ then true else td b) = true
      split
      · rfl
      · exact q
    · exact q
  have hmem : ∀ k' : Nat, (k' : Int) ∈ (lst S F.code.length).take (i + 1) → k' = k ∨ (k' : Int) ∈ (lst S F.code.length).take i := fun k' q => by
    rw [take_oneQ _ i _ hk, List.mem_append, List.mem_singleton] at q
    rcases q with q | q
    · exact .inr q
    · exact .inl (by omega)
  refine ⟨h.hF, h.hS, h.so, fun g F' k' a b c x hx => Int.le_trans (h.pu g F' k' a b c x hx) (hu _), fun k' q x hx => ?_, fun j => ?_, h.cl, fun g F' k' a b c d => htd _ (h.ps g F' k' a b c d), fun k' q d => ?_, h.lo, fun R' h1 h2 b q => ?_, fun b q => ?_, h.dd, h.st⟩
  · rcases hmem k' q with e | q
    · subst e
      have h0 : x.2 ≤ mxL zO (tchI F (insAt F.code k')) x.1 := mxL_own _ _ x hx
      have hp := tch_pos hx
      have hJ : x.1 < 56 ∨ 56 ≤ x.1 := by omega
      rcases hJ with hJ | hJ
      · exact Int.le_trans h0 (mxL_own (prs (mxL zO (tchI F (insAt F.code k'))) 56) O (x.1, mxL zO (tchI F (insAt F.code k')) x.1) (prs_mem.mpr ⟨hJ, show mxL zO (tchI F (insAt F.code k')) x.1 ≠ 0 by omega, rfl⟩))
      · exact absurd (hlt56 hR hx) (by omega)
    · exact Int.le_trans (h.su k' q x hx) (hu _)
  · rcases mxL_one (prs (mxL zO (tchI F (insAt F.code k))) 56) O j with e | e
    · rw [e]; exact h.le j
    · right
      obtain ⟨e1, e2, e3⟩ := prs_mem.mp e
      simp only at e1 e2 e3
      refine ⟨fn, F, k, h.hF, hk2.1, unS_iff.mpr (.inr ⟨rfl, hk2.2⟩), ?_⟩
      rw [e3]
      rcases mxL_one (tchI F (insAt F.code k)) zO j with q | q
      · exact absurd q e2
      · exact q
  · rcases hmem k' q with e | q
    · subst e
      rw [ht, if_pos d]
      simp
    · exact htd _ (h.ss k' q d)
  · rw [ht] at q
    split at q
    · rename_i d
      simp only at q
      split at q
      · rename_i e
        rw [e]
        exact h2.s fn F h.hF k hk2.1 (h.lo R' h1 h2 fn k (unS_iff.mpr (.inr ⟨rfl, hk2.2⟩))) d
      · exact h.tl R' h1 h2 b q
    · exact h.tl R' h1 h2 b q
  · rw [ht] at q
    split at q
    · rename_i d
      simp only at q
      split at q
      · rename_i e
        rw [e]
        exact hb d
      · exact h.tn b q
    · exact h.tn b q
theorem RmJ.done {fns : List Fn} {f0 p0 : Nat} {P : Nat → Nat → Bool} {fn : Nat} {F : Fn} {S : Nat → Bool} {O : Nat → Int} {td dn : Nat → Bool} (h : RmJ fns f0 p0 P fn F S O td dn (lst S F.code.length).length) : RmK fns f0 p0 (unS P fn S) O td dn := by
  have hin : ∀ k, k < F.code.length → S k = true → (k : Int) ∈ (lst S F.code.length).take (lst S F.code.length).length := fun k h1 h2 => by
    rw [List.take_length]
    exact (lst_mem _ _ _).mpr ⟨k, h1, h2, rfl⟩
  have hFe : ∀ F', fns[fn]? = some F' → F' = F := fun F' q => by rw [h.hF] at q; exact (Option.some.inj q).symm
  refine ⟨fun g F' k a b c x hx => ?_, h.le, fun g F' a pc hp hr hl x hx => ?_, fun g F' k a b c d => ?_, h.lo, h.tl, h.tn, h.dd, h.st⟩
  · rcases unS_iff.mp c with c2 | ⟨rfl, c2⟩
    · exact h.pu g F' k a b c2 x hx
    · have := hFe F' a
      subst this
      exact h.su k (hin k b c2) x hx
  · rcases unS_iff.mp hr with c2 | ⟨rfl, c2⟩
    · exact unS_iff.mpr (.inl (h.cl g F' a pc hp c2 hl x hx))
    · have := hFe F' a
      subst this
      exact unS_iff.mpr (.inr ⟨rfl, h.hS pc hp c2 hl x hx⟩)
  · rcases unS_iff.mp c with c2 | ⟨rfl, c2⟩
    · exact h.ps g F' k a b c2 d
    · have := hFe F' a
      subst this
      exact h.ss k (hin k b c2) d
theorem RmK.next {fns : List Fn} {f0 p0 : Nat} {P : Nat → Nat → Bool} {O : Nat → Int} {td dn : Nat → Bool} (h : RmK fns f0 p0 P O td dn) {fn : Nat} {F : Fn} (hF : fns[fn]? = some F) (ht : td fn = true) {S : Nat → Bool} (hS : Least F alw (onePl 0) S) (so : ∀ k, F.code.length ≤ k → S k = false) : RmJ fns f0 p0 P fn F S O td (fun b => if b = fn then true else dn b) 0 := by
  refine ⟨hF, hS.cl, so, h.up, fun k q => by simp at q, fun j => ?_, h.cl, h.sp, fun k q => by simp at q, fun R' h1 h2 g k q => ?_, h.tl, h.tn, fun g q => ?_, unS_iff.mpr (.inl h.st)⟩
  · rcases h.le j with e | ⟨g, F', k, a, b, c, d⟩
    · exact .inl e
    · exact .inr ⟨g, F', k, a, b, unS_iff.mpr (.inl c), d⟩
  · rcases unS_iff.mp q with q2 | ⟨rfl, q2⟩
    · exact h.lo R' h1 h2 g k q2
    · exact hS.le (R' g) (fun j hj => by
        have : j = 0 := by simpa [onePl] using hj
        rw [this]; exact h.tl R' h1 h2 g ht) (h2.c g F hF) k q2
  · split at q
    · rename_i e
      exact unS_iff.mpr (.inr ⟨e, hS.up 0 (by simp [onePl])⟩)
    · exact unS_iff.mpr (.inl (h.dd g q))
theorem RmK.fin {fns : List Fn} {f0 p0 : Nat} {P : Nat → Nat → Bool} {O : Nat → Int} {td dn : Nat → Bool} (h : RmK fns f0 p0 P O td dn) (he : ∀ b, b < fns.length → td b = true → dn b = true) : LeastP fns f0 p0 P ∧ MayO fns P O :=
  ⟨⟨h.st, ⟨h.cl, fun g F hF pc hp hr ho => h.dd _ (he _ (h.tn _ (h.sp g F pc hF hp hr ho)) (h.sp g F pc hF hp hr ho))⟩, h.lo⟩, ⟨h.up, h.le⟩⟩
theorem MayO.same {fns : List Fn} {f p : Nat} {R R' : Nat → Nat → Bool} {O O' : Nat → Int} (h : LeastP fns f p R) (h' : LeastP fns f p R') (m : MayO fns R O) (m' : MayO fns R' O') : O = O' := by
  funext j
  have h1 := m.mono m' (h'.sub h h'.up) j
  have h2 := m'.mono m (h.sub h' h.up) j
  omega
theorem sp_lt {P : Pr} (h : (chk insP P).1 = 0) {f : Fn} (hf : f ∈ P.fns) {i : Ins} (hi : i ∈ f.code) (h62 : i.op = 62) : 0 ≤ i.b ∧ i.b < P.fns.length := by
  obtain ⟨h1, h2, _⟩ := chk_parts h f hf
  have o1 := ins_opnds (h2 i hi) 1 (by omega)
  rw [h62] at o1
  have := opnd_f o1
  unfold inR at this
  exact this
set_option maxHeartbeats 1000000 in
theorem rreach_own (M : MPr) (f : Int) (pc : Nat) (w : World) (hM : M.lies w) (F : MFn) (hFi : M.fns[f.toNat]? = some F) (hfl : FlowF F.fn) (f0 : 0 ≤ f) (hpc : pc < F.code.length) :
    Calls Tryd.prog 32 #[M.val, .int .i64 f, .int .i64 (pc : Int)] w fun e w' => ∃ R va vc, e = .returned (.slice va (lst R F.code.length).length vc) ∧ Least F.fn alw (onePl pc) R ∧ (∀ k, F.code.length ≤ k → R k = false) ∧ Rows w' 1 va vc ((lst R F.code.length).map chCells) ∧ Below w.heap.size w w' ∧ ∀ b ∈ blk va, w.heap.size ≤ b ∧ b < w'.heap.size := by
  have hb := boxed w (objP M)
  have hMH : Hid (M.lies w) := hM
  have hbH : Hid (Below w.heap.size w (w.alloc (objP M))) := hb
  have bP := boxP_new w M
  have hl64 : F.code.length ≤ 64 := hfl.l64
  clear hM hb
  go_enter Tryd.func32, Tryd.ntmps32
  go_upto_region 1 with (fail)
  generalize w.alloc (objP M) = V at *
  have hH : Below V.heap.size V V.drew := bey_drew V
  have hrP : ∀ w', Below V.heap.size V w' → w'.rangeAt w.heap.size 0 [.slice M.va M.vars.length M.vcap, .int .i64 M.locks, .slice M.cha M.chans.length M.chcap, .slice M.fa M.fns.length M.fcap] := fun w' h' j v hj => by
    match j, hj with
    | 0, hj => cases hj; exact cell_later h' bP.1
    | 1, hj => cases hj; exact cell_later h' bP.2.1
    | 2, hj => cases hj; exact cell_later h' bP.2.2.1
    | 3, hj => cases hj; exact cell_later h' bP.2.2.2
  refine wp_region_held_drew (S := fun w' => Below V.heap.size V w') (by kernel_rfl) hH (fun _ => ?_)
  refine reg_load (i := 0) rfl (by kernel_rfl) (by kernel_rfl) (by kernel_rfl) (fun _ _ _ _ h => h) rfl 26 _ rfl w.heap.size 0 rfl [.slice M.va M.vars.length M.vcap, .int .i64 M.locks, .slice M.cha M.chans.length M.chcap, .slice M.fa M.fns.length M.fcap] _ hrP Tryd.underlying26 rfl (by kernel_rfl) hH ?_
  simp only [Act.put, List.getElem_toArray, List.getElem_cons_succ, List.getElem_cons_zero, List.setIfInBounds_toArray, List.set_cons_zero, List.set_cons_succ]
  refine reg_move (i := 1) rfl (by kernel_rfl) (by kernel_rfl) (by kernel_rfl) (fun _ _ _ _ h => h) rfl (.int .i64 f) (fun _ => by kernel_rfl) hH ?_
  simp only [Act.put, List.getElem_toArray, List.getElem_cons_succ, List.getElem_cons_zero, List.setIfInBounds_toArray, List.set_cons_zero, List.set_cons_succ]
  refine reg_load (i := 2) rfl (by kernel_rfl) (by kernel_rfl) (by kernel_rfl) (fun _ _ _ _ h => h) rfl 26 _ rfl w.heap.size 0 rfl [.slice M.va M.vars.length M.vcap, .int .i64 M.locks, .slice M.cha M.chans.length M.chcap, .slice M.fa M.fns.length M.fcap] _ hrP Tryd.underlying26 rfl (by kernel_rfl) hH ?_
  simp only [Act.put, List.getElem_toArray, List.getElem_cons_succ, List.getElem_cons_zero, List.setIfInBounds_toArray, List.set_cons_zero, List.set_cons_succ]
  refine reg_move (i := 3) rfl (by kernel_rfl) (by kernel_rfl) (by kernel_rfl) (fun _ _ _ _ h => h) rfl (.int .i64 f) (fun _ => by kernel_rfl) hH ?_
  simp only [Act.put, List.getElem_toArray, List.getElem_cons_succ, List.getElem_cons_zero, List.setIfInBounds_toArray, List.set_cons_zero, List.set_cons_succ]
  refine reg_move (i := 4) rfl (by kernel_rfl) (by kernel_rfl) (by kernel_rfl) (fun _ _ _ _ h => h) rfl (.int .i64 (pc : Int)) (fun _ => by kernel_rfl) hH ?_
  simp only [Act.put, List.getElem_toArray, List.getElem_cons_succ, List.getElem_cons_zero, List.setIfInBounds_toArray, List.set_cons_zero, List.set_cons_succ]
  refine reg_call3F (i := 5) (by kernel_rfl) rfl rfl 40 _ _ _ _ _ _ rfl M.val (.int .i64 f) (.int .i64 (pc : Int)) rfl rfl rfl (cf_fn Tryd.func40 (by kernel_rfl) (by kernel_rfl) _ _) _ (rfrom_any M f pc _ (hMH.out.later (bthen hbH.out hH)) F hFi hfl f0 hpc) ?_
  rintro e3 w3 ⟨B3, rfl, hBl3, hb3⟩
  have hH3 : Below V.heap.size V w3 := bthen hH hb3
  refine ⟨_, rfl, hH3, fun _ => ?_⟩
  simp only [Act.put, List.getElem_toArray, List.getElem_cons_succ, List.getElem_cons_zero, List.setIfInBounds_toArray, List.set_cons_zero, List.set_cons_succ]
  refine reg_call4F (i := 6) (by kernel_rfl) rfl rfl 39 _ _ _ _ _ _ _ _ rfl M.val (.int .i64 f) (.slice (some ⟨B3, 0, none⟩) F.code.length F.code.length) (.bool false) rfl rfl rfl rfl (cf_fn Tryd.func39 (by kernel_rfl) (by kernel_rfl) _ _) _ (rmarked_any M f w3 (hMH.out.later (bthen hbH.out hH3)) F hFi hfl f0 false (onePl pc) (onePl_out hpc) _ B3 F.code.length hBl3) ?_
  rintro e4 w4 ⟨B4, cap4, R, rfl, hBl4, hR, hRo, hb4⟩
  have hH4 : Below V.heap.size V w4 := bthen hH3 hb4
  refine ⟨_, rfl, hH4, fun _ => ?_⟩
  simp only [Act.put, List.getElem_toArray, List.getElem_cons_succ, List.getElem_cons_zero, List.setIfInBounds_toArray, List.set_cons_zero, List.set_cons_succ]
  refine reg_call1 (i := 7) (by kernel_rfl) rfl rfl 41 _ _ rfl (.slice (some ⟨B4, 0, none⟩) F.code.length cap4) rfl (cf_fn Tryd.func41 (by kernel_rfl) (by kernel_rfl) _ _) _ (rplaces_any F.code.length B4 cap4 _ R w4 hBl4 hl64) ?_
  rintro e5 w5 ⟨va, vc, rfl, hls⟩
  have hH5 : Below V.heap.size V w5 := bthen hH4 hls.be
  refine ⟨_, rfl, hH5, fun _ => ?_⟩
  simp only [Act.put, List.getElem_toArray, List.getElem_cons_succ, List.getElem_cons_zero, List.setIfInBounds_toArray, List.set_cons_zero, List.set_cons_succ]
  refine reg_move (i := 8) rfl (by kernel_rfl) (by kernel_rfl) (by kernel_rfl) (fun _ _ _ _ h => h) rfl (.slice va (lst R F.code.length).length vc) (fun _ => rfl) hH5 ?_
  simp only [Act.put, List.getElem_toArray, List.getElem_cons_succ, List.getElem_cons_zero, List.setIfInBounds_toArray, List.set_cons_zero, List.set_cons_succ]
  refine wpAnyH_done (by kernel_rfl) ?_ _
  have hrw : Hid (Rows w5 1 va vc ((lst R F.code.length).map chCells)) := hls.rows
  have hbE : Hid (Below w.heap.size w w5) := bthen hbH.out hH5
  have hbk : Hid (∀ b ∈ blk va, w.heap.size ≤ b ∧ b < w5.heap.size) := fun b hb => by have h1 := blk_lt hls.ow b hb; have h2 := (bthen hbH.out hH4).size; omega
  clear hls hrP bP
  generalize hLL : lst R F.code.length = L at *
  go_wp2
  go_ret
  have hal : LL false = alw := by funext op; simp [LL, alw]
  rw [hal] at hR
  exact ⟨R, va, vc, by rw [hLL]; rfl, hR, hRo, by rw [hLL]; exact hrw.out, hbE.out, hbk.out⟩
end Go.Proofs.YtlcljdldhajkiaaDoor.pg
