/- Whether events are a trace, by package depend. -/
import Derived.Test.YtbajfgllgfmnfaaRt3
namespace Go.Proofs.Ytbajfgllgfmnfaa.pg
open Go.ChangeShapes Go.WideShapes Go.ChangeAt Go.RowKit
set_option linter.unusedVariables false
set_option linter.unusedSimpArgs false
set_option maxRecDepth 100000
attribute [local go_sem ↓] Go.wp_at_zero Go.wp_at_succ
/-- What is wrong with events, if they are no trace. -/
def checkP (l : List Ev) (c : Int) : Prop := (256 < l.length ∧ c = 2) ∨ (l.length ≤ 256 ∧ (∃ x ∈ l, ¬ rightP x) ∧ c = 7) ∨ (l.length ≤ 256 ∧ (∀ x ∈ l, rightP x) ∧ c = 0)
theorem check_ex (l : List Ev) : ∃ c, checkP l c := by
  by_cases h : 256 < l.length
  · exact ⟨2, .inl ⟨h, rfl⟩⟩
  · by_cases g : ∃ x ∈ l, ¬ rightP x
    · exact ⟨7, .inr (.inl ⟨by omega, g, rfl⟩)⟩
    · exact ⟨0, .inr (.inr ⟨by omega, fun x hx => Classical.byContradiction fun q => g ⟨x, hx, q⟩, rfl⟩)⟩
theorem ev_row {w : World} {a : Option Addr} {cap : Nat} {l : List Ev} (h : Rows w 26 a cap (l.map Ev.cells)) (i : Nat) (x : Ev) (hi : l[i]? = some x) :
    ∃ b o, (∀ wx, (Instr.indexAt 22 (.slice a l.length cap) (.int .i64 (i : Int))).run Try.prog wx = .ok (.pointer (some ⟨b, o, none⟩)) wx) ∧ b < w.heap.size ∧ w.rangeAt b o x.cells := by
  obtain ⟨b, o, hr, hlt, hc⟩ := h.ix 22 66 Try.underlying22 (by kernel_rfl) (fun wx => Try.sizeOf66 wx) i (row := x.cells) (by simp [hi])
  rw [List.length_map] at hr
  exact ⟨b, o, hr, hlt, hc⟩
theorem infoE26 : (Try.prog.info? 66).map (·.size) = some 26 := by kernel_rfl
set_option maxHeartbeats 1000000 in
theorem check_any (l : List Ev) (la : Option Addr) (lc : Nat) (w : World) (hl : Rows w 26 la lc (l.map Ev.cells)) (c : Int) (hc : Hid (checkP l c)) : Calls Try.prog 46 #[.slice la l.length lc] w fun e w' => e = .returned (.int .i64 c) ∧ Below w.heap.size w w' := by
  have hlI := rows_len hl
  have hlH : Hid (Rows w 26 la lc (l.map Ev.cells)) := hl
  clear hl
  by_cases hlong : 256 < l.length
  · have hcc : c = 2 := by rcases hc.out with ⟨_, q⟩ | ⟨q, _⟩ | ⟨q, _⟩ <;> omega
    have hI : (256 : Int) < l.length := by omega
    subst hcc
    go_enter Try.func46, Try.ntmps46
    go_wp2
    go_ret
    exact ⟨rfl, Below.refl _ _⟩
  · have hI : ¬ (256 : Int) < l.length := by omega
    have huH : Hid (Try.prog.underlying 66 = _) := Try.underlying66
    have hiH : Hid ((Try.prog.info? 66).map (·.size) = some 26) := infoE26
    go_enter Try.func46, Try.ntmps46
    go_wp2
    go_loopw [10] (fun u wr => ∃ k : Nat, k ≤ l.length ∧ u = .int .i64 k ∧ Below w.heap.size w wr ∧ Hid (∀ x ∈ l.take k, rightP x)) (fun u _ => l.length - (intOf u).toNat)
    case atStart => exact ⟨0, Nat.zero_le _, rfl, Below.refl _ _, fun x hx => by simp at hx⟩
    case round =>
      obtain ⟨k, hk, rfl, hb2, hok⟩ := hrel
      by_cases hlt : k < l.length
      · obtain ⟨x, hx, hxm⟩ := get_lt l k hlt
        obtain ⟨b0, o0, hix, hbl, hrg⟩ := ev_row (hlH.out.later hb2) k x hx
        have hrH : Hid (wr.rangeAt b0 o0 x.cells) := hrg
        have hkI : (k : Int) < l.length := by omega
        have hbx : Hid ((wr.alloc (objE x)).rangeAt wr.heap.size 0 x.cells) := (boxE_new wr x).range
        clear hrg
        by_cases e : rightP x
        · have c1 : ∀ wx, Calls Try.prog 55 #[.agg x.cells.toArray] wx _ := fun wx => right_any x wx true ⟨fun _ => e, fun _ => rfl⟩
          have hok2 : Hid (∀ x ∈ l.take (k + 1), rightP x) := fun z hz => by
            rw [take_one l k x hx, List.mem_append, List.mem_singleton] at hz
            rcases hz with hz | rfl
            · exact hok.out z hz
            · exact e
          clear e
          go_wp2_with (first
            | (refine wpList_load_mid rfl 66 _ rfl b0 o0 rfl x.cells _ hrH.out huH.out rfl hiH.out ?_)
            | (refine wpList_store_new rfl 66 _ _ rfl rfl _ x.cells.toArray rfl (by kernel_rfl) rfl (ev_one x) ?_)
            | (refine wpList_load_mid rfl 66 _ rfl wr.heap.size 0 rfl x.cells _ hbx.out huH.out rfl hiH.out ?_)
            | (go_at_call 55; (with_reducible refine (c1 _).mono ?_); rintro e w1 ⟨rfl, hb1⟩))
          go_roundw
          case rel => exact ⟨k + 1, by omega, by go_num, bthen hb2 (bthen (boxed _ (objE x)) hb1), hok2⟩
          case measure => simp [intOf]; omega
        · have c1 : ∀ wx, Calls Try.prog 55 #[.agg x.cells.toArray] wx _ := fun wx => right_any x wx false ⟨(fun q => by cases q), fun q => absurd q e⟩
          have hcc : Hid (c = 7) := by
            rcases hc.out with ⟨q, _⟩ | ⟨_, _, q⟩ | ⟨_, q, _⟩
            · omega
            · exact q
            · exact absurd (q x hxm) e
          clear e
          go_wp2_with (first
            | (refine wpList_load_mid rfl 66 _ rfl b0 o0 rfl x.cells _ hrH.out huH.out rfl hiH.out ?_)
            | (refine wpList_store_new rfl 66 _ _ rfl rfl _ x.cells.toArray rfl (by kernel_rfl) rfl (ev_one x) ?_)
            | (refine wpList_load_mid rfl 66 _ rfl wr.heap.size 0 rfl x.cells _ hbx.out huH.out rfl hiH.out ?_)
            | (go_at_call 55; (with_reducible refine (c1 _).mono ?_); rintro e w1 ⟨rfl, hb1⟩))
          go_ret
          exact ⟨by rw [hcc.out]; rfl, bthen hb2 (bthen (boxed _ (objE x)) hb1)⟩
      · have hk2 : k = l.length := by omega
        subst hk2
        rw [List.take_length] at hok
        have hcc : Hid (c = 0) := by
          rcases hc.out with ⟨q, _⟩ | ⟨_, ⟨x, hx, q⟩, _⟩ | ⟨_, _, q⟩
          · omega
          · exact absurd (hok.out x hx) q
          · exact q
        go_wp2
        go_ret
        exact ⟨by rw [hcc.out]; rfl, hb2⟩
end Go.Proofs.Ytbajfgllgfmnfaa.pg
