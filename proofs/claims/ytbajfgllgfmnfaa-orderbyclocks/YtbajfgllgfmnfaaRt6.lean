/- Whether events are a trace, by the document's own; the events that touch an object. -/
import Derived.Test.YtbajfgllgfmnfaaRt5
import Derived.Test.YtbajfgllgfmnfaaMk
namespace Go.Proofs.Ytbajfgllgfmnfaa.pg
open Go.ChangeShapes Go.WideShapes Go.ChangeAt Go.RowKit
set_option linter.unusedVariables false
set_option linter.unusedSimpArgs false
set_option maxRecDepth 100000
attribute [local go_sem ↓] Go.wp_at_zero Go.wp_at_succ
set_option maxHeartbeats 1000000 in
theorem rcheck_any (l : List Ev) (la : Option Addr) (lc : Nat) (w : World) (hl : Rows w 26 la lc (l.map Ev.cells)) (c : Int) (hc : Hid (checkP l c)) : Calls Try.prog 13 #[.slice la l.length lc] w fun e w' => e = .returned (.int .i64 c) ∧ Below w.heap.size w w' := by
  have hlI := rows_len hl
  have hlH : Hid (Rows w 26 la lc (l.map Ev.cells)) := hl
  clear hl
  by_cases hlong : 256 < l.length
  · have hcc : c = 2 := by rcases hc.out with ⟨_, q⟩ | ⟨q, _⟩ | ⟨q, _⟩ <;> omega
    have hI : (256 : Int) < l.length := by omega
    subst hcc
    go_enter Try.func13, Try.ntmps13
    go_wp2
    go_ret
    exact ⟨rfl, Below.refl _ _⟩
  · have hI : ¬ (256 : Int) < l.length := by omega
    have huH : Hid (Try.prog.underlying 66 = _) := Try.underlying66
    have hiH : Hid ((Try.prog.info? 66).map (·.size) = some 26) := infoE26
    go_enter Try.func13, Try.ntmps13
    go_wp2
    go_loopw [3] (fun u wr => ∃ k : Nat, k ≤ l.length ∧ u = .int .i64 k ∧ Below w.heap.size w wr ∧ Hid (∀ x ∈ l.take k, rightP x)) (fun u _ => l.length - (intOf u).toNat)
    case atStart => exact ⟨0, Nat.zero_le _, rfl, Below.refl _ _, fun x hx => by simp at hx⟩
    case round =>
      obtain ⟨k, hk, rfl, hb2, hok⟩ := hrel
      by_cases hlt : k < l.length
      · obtain ⟨x, hx, hxm⟩ := get_lt l k hlt
        obtain ⟨b0, o0, hix, hbl, hrg⟩ := ev_row (hlH.out.later hb2) k x hx
        have hrH : Hid (wr.rangeAt b0 o0 x.cells) := hrg
        have hkI : (k : Int) < l.length := by omega
        clear hrg
        by_cases e : rightP x
        · have c1 : ∀ wx, Calls Try.prog 37 #[.agg x.cells.toArray] wx _ := fun wx => rright_any x wx true ⟨fun _ => e, fun _ => rfl⟩
          have hok2 : Hid (∀ x ∈ l.take (k + 1), rightP x) := fun z hz => by
            rw [take_one l k x hx, List.mem_append, List.mem_singleton] at hz
            rcases hz with hz | rfl
            · exact hok.out z hz
            · exact e
          clear e
          go_wp2_with (first
            | (refine wpList_load_mid rfl 66 _ rfl b0 o0 rfl x.cells _ hrH.out huH.out rfl hiH.out ?_)
            | (go_at_call 37; (with_reducible refine (c1 _).mono ?_); rintro e w1 ⟨rfl, hb1⟩))
          go_roundw
          case rel => exact ⟨k + 1, by omega, by go_num, bthen hb2 hb1, hok2⟩
          case measure => simp [intOf]; omega
        · have c1 : ∀ wx, Calls Try.prog 37 #[.agg x.cells.toArray] wx _ := fun wx => rright_any x wx false ⟨(fun q => by cases q), fun q => absurd q e⟩
          have hcc : Hid (c = 7) := by
            rcases hc.out with ⟨q, _⟩ | ⟨_, _, q⟩ | ⟨_, q, _⟩
            · omega
            · exact q
            · exact absurd (q x hxm) e
          clear e
          go_wp2_with (first
            | (refine wpList_load_mid rfl 66 _ rfl b0 o0 rfl x.cells _ hrH.out huH.out rfl hiH.out ?_)
            | (go_at_call 37; (with_reducible refine (c1 _).mono ?_); rintro e w1 ⟨rfl, hb1⟩))
          go_ret
          exact ⟨by rw [hcc.out]; rfl, bthen hb2 hb1⟩
      · have hk2 : k = l.length := by omega
        subst hk2
        rw [List.take_length] at hok
        have hcc : Hid (c = 0) := by
          rcases hc.out with ⟨q, _⟩ | ⟨_, ⟨x, hx, q⟩, _⟩ | ⟨_, _, q⟩
          · omega
          · exact absurd (hok.out x hx) q
          · exact q
        go_wp2
        go_ret
        exact ⟨by rw [hcc.out]; rfl, hb2⟩
/-- Whether an event touches an object. -/
def tch (x : Ev) (k n : Int) : Bool := x.of.any fun a => a.kind == k && a.num == n
/-- The places of the first j events that touch an object. -/
def usersTo (l : List Ev) (k n : Int) : Nat → List Int
  | 0 => []
  | j + 1 => usersTo l k n j ++ (match l[j]? with | some x => if tch x k n then [(j : Int)] else [] | none => [])
theorem users_len (l : List Ev) (k n : Int) (j : Nat) : (usersTo l k n j).length ≤ j := by
  induction j with
  | zero => exact Nat.le_refl _
  | succ j ih =>
    unfold usersTo
    rw [List.length_append]
    have : (match l[j]? with | some x => if tch x k n then [(j : Int)] else [] | none => []).length ≤ 1 := by
      split
      · split <;> simp
      · simp
    omega
theorem users_yes {l : List Ev} {k n : Int} {j : Nat} {x : Ev} (hx : l[j]? = some x) (h : tch x k n = true) : usersTo l k n (j + 1) = usersTo l k n j ++ [(j : Int)] := by
  conv => lhs; unfold usersTo
  rw [hx]; simp [h]
theorem users_no {l : List Ev} {k n : Int} {j : Nat} {x : Ev} (hx : l[j]? = some x) (h : tch x k n = false) : usersTo l k n (j + 1) = usersTo l k n j := by
  conv => lhs; unfold usersTo
  rw [hx]; simp [h]
theorem infoN_u : (Try.prog.info? 3).map (fun i => (i.zero, i.size, i.bytes)) = some (some (.int .i64 0), 1, 8) := by kernel_rfl
theorem one1u (x : Int) : ∀ u ∈ chCells x, u.oneCell' = true := by intro u hu; simp [chCells] at hu; subst hu; rfl
theorem len1u (l : List Int) : ∀ row ∈ l.map chCells, row.length = 1 := by intro r hr; simp only [List.mem_map] at hr; obtain ⟨x, _, rfl⟩ := hr; rfl
/-- How far Users has come. -/
structure USt (w : World) (l : List Ev) (kd nm : Int) (j : Nat) (va : Option Addr) (vc : Nat) (wr : World) : Prop where
  be : Below w.heap.size w wr
  ow : OwnL wr w.heap.size 3 1 va vc ((usersTo l kd nm j).map chCells)
theorem USt.later {w : World} {l : List Ev} {kd nm : Int} {j : Nat} {va : Option Addr} {vc : Nat} {wr w' : World} (h : USt w l kd nm j va vc wr) (hb : Below wr.heap.size wr w') : USt w l kd nm j va vc w' :=
  ⟨bthen h.be hb, own_keep h.ow fun b hb' => hb.block b (blk_lt h.ow b hb').2⟩
/-- One goes ahead of another one by the order of accesses, and so on. -/
theorem bef_trans {a b c : Acc} (h1 : bef a b = true) (h2 : bef b c = true) : bef a c = true := by
  simp only [bef, decide_eq_true_eq] at *
  omega
theorem bef_far {l : List Acc} {N : Nat} (h : ∀ i, i < N → okA l i) (hl : N ≤ l.length) : ∀ (d i : Nat) (a b : Acc), i + d + 1 < N → l[i]? = some a → l[i + d + 1]? = some b → bef a b = true
  | 0, i, a, b, hi, ha, hb => (h (i + 0 + 1) hi b hb).2 (by omega) a (by simpa using ha)
  | d + 1, i, a, b, hi, ha, hb => by
    obtain ⟨c, hc, _⟩ := get_lt l (i + d + 1) (by omega)
    have h1 := bef_far h hl d i a c (by omega) ha hc
    have h2 := (h (i + (d + 1) + 1) hi b hb).2 (by omega) c (by rw [show i + (d + 1) + 1 - 1 = i + d + 1 by omega]; exact hc)
    exact bef_trans h1 h2
theorem right_uniq {x : Ev} (hx : rightP x) {i j : Nat} {a b : Acc} (hij : i < j) (ha : x.of[i]? = some a) (hb : x.of[j]? = some b) (h1 : a.kind = b.kind) (h2 : a.num = b.num) : False := by
  have hj := (List.getElem?_eq_some_iff.mp hb).1
  rw [Ev.of_len] at hj
  have h6 := tN_le x.n
  rw [of_at (by omega)] at ha
  rw [of_at hj] at hb
  have := bef_far hx.2.1 (show tN x.n ≤ x.list.length from h6) (j - i - 1) i a b (by omega) ha (by rw [show i + (j - i - 1) + 1 = j by omega]; exact hb)
  simp only [bef, decide_eq_true_eq] at this
  omega
/-- How far the document's own has come within an event. -/
structure RUSt (w wr : World) (x : Ev) (ta : Option Addr) (tc : Nat) (l : List Ev) (kd nm : Int) (j m : Nat) (F : Bool) (va : Option Addr) (vc : Nat) (wq : World) : Prop where
  be : Below w.heap.size w wq
  ow : OwnL wq w.heap.size 3 1 va vc ((usersTo l kd nm j ++ if F then [(j : Int)] else []).map chCells)
  ot : OwnL wq wr.heap.size 63 3 ta tc (x.of.map Acc.cells)
  lt : F = false → ∀ b ∈ blk va, b < wr.heap.size
  fd : F = true ↔ ∃ a ∈ x.of.take m, (a.kind == kd && a.num == nm) = true
end Go.Proofs.Ytbajfgllgfmnfaa.pg
