/- Tops of package clock. -/
import Derived.Test.YtodkmmmbomoheaaDoorCl1
import Derived.Deep.DeepCutAuto
namespace Go.Proofs.YtodkmmmbomoheaaDoor.pg
open Go.ChangeShapes Go.WideShapes Go.ChangeAt Go.RowKit
set_option linter.unusedVariables false
set_option linter.unusedSimpArgs false
set_option maxRecDepth 100000
attribute [local go_sem ↓] Go.wp_at_zero Go.wp_at_succ
/-- Whether the clock at place j is one that no other is above, and the first of its like. -/
def topB (l : List Ck) (j : Nat) (a : Ck) : Bool := !((l.take j).any (eqK a)) && !(l.any (belowK a))
def topsTo (l : List Ck) : Nat → List Int
  | 0 => []
  | j + 1 => topsTo l j ++ (match l[j]? with | some a => if topB l j a then [(j : Int)] else [] | none => [])
theorem tops_len (l : List Ck) (j : Nat) : (topsTo l j).length ≤ j := by
  induction j with
  | zero => exact Nat.le_refl _
  | succ j ih =>
    unfold topsTo
    rw [List.length_append]
    have : (match l[j]? with | some a => if topB l j a then [(j : Int)] else [] | none => []).length ≤ 1 := by
      split
      · split <;> simp
      · simp
    omega
theorem tops_yes {l : List Ck} {j : Nat} {x : Ck} (hx : l[j]? = some x) (h : topB l j x = true) : topsTo l (j + 1) = topsTo l j ++ [(j : Int)] := by
  conv => lhs; unfold topsTo
  rw [hx]; simp [h]
theorem tops_no {l : List Ck} {j : Nat} {x : Ck} (hx : l[j]? = some x) (h : topB l j x = false) : topsTo l (j + 1) = topsTo l j := by
  conv => lhs; unfold topsTo
  rw [hx]; simp [h]
theorem clos_any (a b : Ck) (B : Nat) (w : World) (hB : InB w B a) (R : Bool) (hR : Hid (R = belowK a b)) : Calls Tryd.prog 41 #[b.val, .pointer (some ⟨B, 0, none⟩)] w fun e w' => e = .returned (.bool R) ∧ Below w.heap.size w w' := by
  have c1 : ∀ wx, Calls Tryd.prog 31 #[a.val, b.val] wx _ := fun wx => below_any a b wx R hR
  have h1 := hB.later (boxed w (objK b))
  have h2 := inB_new w b
  clear hB hR
  go_enter Tryd.func41, Tryd.ntmps41
  go_wp2_with (first
    | (refine wpList_load_row rfl 23 _ rfl B rfl _ _ _ _ h1 Tryd.underlying23 rfl infoK ?_)
    | (refine wpList_load_row rfl 23 _ rfl w.heap.size rfl _ _ _ _ h2 Tryd.underlying23 rfl infoK ?_)
    | (go_at_call 31; (with_reducible refine (c1 _).mono ?_); rintro e w1 ⟨rfl, hb1⟩))
  go_ret
  exact ⟨rfl, bthen (boxed _ _) hb1⟩
set_option maxHeartbeats 1000000 in
theorem indexf_any (l : List Ck) (la : Option Addr) (lc : Nat) (a : Ck) (B : Nat) (w : World) (hl : Rows w 6 la lc (l.map Ck.cells)) (hB : InB w B a) : Calls Tryd.prog 56 #[.slice la l.length lc, .func (.func 41) #[] #[.pointer (some ⟨B, 0, none⟩)]] w fun e w' => ∃ r : Int, e = .returned (.int .i64 r) ∧ (0 ≤ r ↔ l.any (belowK a) = true) ∧ Below w.heap.size w w' := by
  have hlI := rows_len hl
  have hlH : Hid (Rows w 6 la lc (l.map Ck.cells)) := hl
  have hBH : Hid (InB w B a) := hB
  clear hl hB
  go_enter Tryd.func56, Tryd.ntmps56
  go_wp2
  go_loopw [8] (fun u wr => ∃ k : Nat, k ≤ l.length ∧ u = .int .i64 k ∧ Below w.heap.size w wr ∧ Hid (∀ x ∈ l.take k, belowK a x = false)) (fun u _ => l.length - (intOf u).toNat)
  case atStart => exact ⟨0, Nat.zero_le _, rfl, Below.refl _ _, fun x hx => by simp at hx⟩
  case round =>
    obtain ⟨k, hk, rfl, hb2, hno⟩ := hrel
    by_cases hlt : k < l.length
    · obtain ⟨x, hx, hxm⟩ := get_lt l k hlt
      obtain ⟨b0, o0, hix, hbl, k0, k1, k2, k3, k4, k5⟩ := cks_ix (hlH.out.later hb2) k x hx
      have hkI : (k : Int) < l.length := by omega
      by_cases e : belowK a x = true
      · have c1 : Calls Tryd.prog 41 #[x.val, .pointer (some ⟨B, 0, none⟩)] wr _ := clos_any a x B wr (hBH.out.later hb2) true e.symm
        have hany : Hid (l.any (belowK a) = true) := List.any_eq_true.mpr ⟨x, hxm, e⟩
        clear e hx hxm
        go_wp2_with (go_at_call 41; (with_reducible refine c1.mono ?_); rintro e w1 ⟨rfl, hb1⟩)
        go_ret
        exact ⟨_, rfl, ⟨fun _ => hany.out, fun _ => by omega⟩, bthen hb2 hb1⟩
      · have e2 : belowK a x = false := by simpa using e
        have c1 : Calls Tryd.prog 41 #[x.val, .pointer (some ⟨B, 0, none⟩)] wr _ := clos_any a x B wr (hBH.out.later hb2) false e2.symm
        have hno2 : Hid (∀ x ∈ l.take (k + 1), belowK a x = false) := take_more hx hno.out e2
        clear e e2 hx hxm
        go_wp2_with (go_at_call 41; (with_reducible refine c1.mono ?_); rintro e w1 ⟨rfl, hb1⟩)
        go_roundw
        case rel => exact ⟨k + 1, by omega, by go_num, bthen hb2 hb1, hno2⟩
        case measure => simp [intOf]; omega
    · have hk2 : k = l.length := by omega
      subst hk2
      rw [List.take_length] at hno
      have hany : Hid (¬ l.any (belowK a) = true) := fun q => by
        obtain ⟨x, hx, q⟩ := List.any_eq_true.mp q
        rw [hno.out x hx] at q; cases q
      go_wp2
      go_ret
      exact ⟨_, rfl, ⟨fun q => absurd q (by omega), fun q => absurd q hany.out⟩, hb2⟩
theorem contf_any (l : List Ck) (la : Option Addr) (lc : Nat) (a : Ck) (B : Nat) (w : World) (hl : Rows w 6 la lc (l.map Ck.cells)) (hB : InB w B a) (R : Bool) (hR : Hid (R = l.any (belowK a))) : Calls Tryd.prog 40 #[.slice la l.length lc, .func (.func 41) #[] #[.pointer (some ⟨B, 0, none⟩)]] w fun e w' => e = .returned (.bool R) ∧ Below w.heap.size w w' := by
  have c1 := indexf_any l la lc a B w hl hB
  clear hl hB
  go_enter Tryd.func40, Tryd.ntmps40
  go_wp2_with (go_at_call 56; (with_reducible refine c1.mono ?_); rintro e w1 ⟨r, rfl, hr, hb1⟩; (have hrH : Hid (0 ≤ r ↔ l.any (belowK a) = true) := hr); clear hr)
  go_ret
  exact ⟨ret_b (by rw [Bool.eq_iff_iff, decide_eq_true_iff, hR.out]; exact hrH.out), hb1⟩
/-- A look-up in the set. -/
theorem wpList_look_set {ops : Array Oper} {rest : List Oper} {o : Oper} {a : Act} {w : World} {Q : Exit → Act → World → Prop} (hg : o.guard = none) (m x : Operand) (hop : o.op = Op.lookup 67 m x true) (b n : Nat) (s : List Ck) (hm : a.eval m = .map (some b)) (c : Ck) (hx : a.eval x = c.val) (h : SetK w b n s) (hwf : c.wf) (r : Bool) (hr : r = true ↔ c ∈ s)
    (hK : wpList Tryd.prog ops Q rest (a.put o.dst (.tuple #[.agg #[], .bool r])) w) : wpList Tryd.prog ops Q (o :: rest) a w := by
  refine wpList_plain hg fun K' hK' => ?_
  unfold Oper.wp
  simp [execOp, hop, hm, hx, h.look c hwf r hr, Result.andThen]
  exact hK' _ _ hK
theorem wpList_put_set {ops : Array Oper} {rest : List Oper} {o : Oper} {a : Act} {w : World} {Q : Exit → Act → World → Prop} (hg : o.guard = none) (m x v : Operand) (hop : o.op = Op.mapUpdate 67 m x v) (b n : Nat) (s : List Ck) (hm : a.eval m = .map (some b)) (c : Ck) (hx : a.eval x = c.val) (hv : a.eval v = .agg #[]) (h : SetK w b n s) (hn : n < maxLen) (hwf : c.wf)
    (hK : ∀ w', SetK w' b (n + 1) (s ++ [c]) → w.grownBy w' (some b) → wpList Tryd.prog ops Q rest (a.put o.dst undef) w') : wpList Tryd.prog ops Q (o :: rest) a w := by
  refine wpList_plain hg fun K' hK' => ?_
  obtain ⟨w', hrun, h1, h2⟩ := h.put hn c hwf
  unfold Oper.wp
  simp [execOp, hop, hm, hx, hv, hrun, Result.andThen]
  exact hK' _ _ (hK w' h1 h2)
theorem infoN_c : (Tryd.prog.info? 3).map (fun i => (i.zero, i.size, i.bytes)) = some (some (.int .i64 0), 1, 8) := by kernel_rfl
theorem one1c (x : Int) : ∀ u ∈ chCells x, u.oneCell' = true := by intro u hu; simp [chCells] at hu; subst hu; rfl
theorem len1c (l : List Int) : ∀ row ∈ l.map chCells, row.length = 1 := by intro r hr; simp only [List.mem_map] at hr; obtain ⟨x, _, rfl⟩ := hr; rfl
/-- How far Tops has come. -/
structure TSt (w : World) (l : List Ck) (M j : Nat) (va : Option Addr) (vc : Nat) (wr : World) : Prop where
  be : Below w.heap.size w wr
  st : SetK wr M j (l.take j)
  ow : OwnL wr w.heap.size 3 1 va vc ((topsTo l j).map chCells)
theorem topB_iff (l : List Ck) (j : Nat) (x : Ck) : topB l j x = true ↔ x ∉ l.take j ∧ l.any (belowK x) = false := by
  unfold topB
  rw [Bool.and_eq_true, Bool.not_eq_true', Bool.not_eq_true']
  constructor
  · rintro ⟨h1, h2⟩
    refine ⟨fun q => ?_, h2⟩
    rw [Bool.eq_false_iff] at h1
    exact h1 (List.any_eq_true.mpr ⟨x, q, (eqK_iff x x).mpr rfl⟩)
  · rintro ⟨h1, h2⟩
    refine ⟨?_, h2⟩
    rw [Bool.eq_false_iff]
    intro q
    obtain ⟨y, hy, q⟩ := List.any_eq_true.mp q
    rw [eqK_iff] at q
    exact h1 (q ▸ hy)
theorem take_snoc {l : List Ck} {k : Nat} {x : Ck} (hx : l[k]? = some x) : l.take (k + 1) = l.take k ++ [x] := by rw [List.take_add_one, hx]; rfl
theorem map_ne_own {w : World} {M j : Nat} {s : List Ck} {lo e k : Nat} {va : Option Addr} {vc : Nat} {L : List (List Value)} (h : SetK w M j s) (ho : OwnL w lo e k va vc L) : M ∉ blk va := by
  obtain ⟨D, ⟨es, c, h1, h2⟩, h3⟩ := h
  intro q
  rcases ho.2 with ⟨h', _⟩ | ⟨g, cap', cur, h', hb, hg, hr⟩
  · simp only [Value.slice.injEq] at h'
    rw [h'.1] at q; simp [blk] at q
  · simp only [Value.slice.injEq] at h'
    rw [h'.1] at q
    simp [blk] at q
    subst q
    rw [h1] at hg
    simp at hg
end Go.Proofs.YtodkmmmbomoheaaDoor.pg
