/- Equal lists of numbers; the document's own registers of every program and every place. -/
import Derived.Test.YtaghfahhfockkaaDoorTouch7
namespace Go.Proofs.YtaghfahhfockkaaDoor.pg
open Go.ChangeShapes Go.WideShapes Go.ChangeAt Go.RowKit
set_option linter.unusedVariables false
set_option linter.unusedSimpArgs false
set_option maxRecDepth 100000
set_option maxHeartbeats 4000000 in
theorem sameInts_t (l : List Int) (a b : Option Addr) (ca cb : Nat) (w : World) (ha : Rows w 1 a ca (l.map chCells)) (hb : Rows w 1 b cb (l.map chCells)) :
    Calls Tryd.prog 10 #[.slice a l.length ca, .slice b l.length cb] w fun e w' => e = .returned (.bool true) ∧ Below w.heap.size w w' := by
  have hlI : (l.length : Int) ≤ 9223372036854775807 := rows_len ha
  go_enter Tryd.func10, Tryd.ntmps10
  go_wp2_with fail
  go_loopw [13] (fun u wr => ∃ k : Nat, k ≤ l.length ∧ u = .int .i64 k ∧ Below w.heap.size w wr) (fun u _ => l.length - (intOf u).toNat)
  case atStart => exact ⟨0, Nat.zero_le _, rfl, Below.refl _ _⟩
  case round =>
    obtain ⟨k, hk, rfl, hbe⟩ := hrel
    by_cases hlt : k < l.length
    · obtain ⟨y, hy, hym⟩ := get_lt l k hlt
      obtain ⟨b1, o1, hix1, hbl1, c1⟩ := ch_ix (ha.later hbe) k y hy
      obtain ⟨b2, o2, hix2, hbl2, c2⟩ := ch_ix (hb.later hbe) k y hy
      have hkI : (k : Int) < l.length := by omega
      go_wp2_with fail
      go_quiet (fail)
      go_wp2
      go_roundw
      case rel => exact ⟨k + 1, by omega, by go_num, below_drewN hbe _⟩
      case measure => simp [intOf]; omega
    · have hk2 : k = l.length := by omega
      subst hk2
      go_wp2
      go_ret
      exact ⟨rfl, hbe⟩
section
variable (M : MPr) (f pc : Int) (w : World)
theorem upto_read {P : Pr} {f : Fn} {i : Ins} (h : known i.op) : upto (inl (touchTo P f i 4).1) 8 = upto (inl (rdL P f i)) 8 := inl_congr fun n _ => (touch_agree P f i h n).1
theorem upto_set {P : Pr} {f : Fn} {i : Ins} (h : known i.op) : upto (inl (touchTo P f i 4).2) 8 = upto (inl (stL f i)) 8 := inl_congr fun n _ => (touch_agree P f i h n).2
theorem right_known {n q : Nat} {F : MFn} {i : Ins} (hr : (chk insP M.pr).1 = 0) (hf : M.fns[n]? = some F) (hi : F.code[q]? = some i) : known i.op :=
  ins_known ((chk_parts hr F.fn (by simp only [MPr.pr, List.mem_map]; exact ⟨F, List.mem_of_getElem? hf, rfl⟩)).2.1 i (List.mem_of_getElem? hi))
theorem rreads_all (hl : M.lies w) {R S : List Int} {c : Int} (h : Asked M f pc R S c) :
    Calls Tryd.prog 7 #[M.val, .int .i64 f, .int .i64 pc] w fun e w' => ∃ va vc, e = .returned (.tuple #[.slice va (upto (inl R) 8).length vc, .int .i64 c]) ∧ Rows w' 1 va vc ((upto (inl R) 8).map chCells) ∧ Below w.heap.size w w' := by
  by_cases hc : c = 0
  · have h' := h
    rcases h' with ⟨hr, _, _, h0⟩ | ⟨hr, _, _, h0, _⟩ | ⟨hr, _, n, q, F, i, rfl, rfl, hf, hi, rfl, rfl⟩
    · omega
    · omega
    · subst hc
      rw [upto_read (right_known M hr hf hi)]
      exact rreads_right M w n q F i hl hr hf hi
  · have hR : R = [] := by
      rcases h with ⟨hr, h1, _, h0⟩ | ⟨hr, h1, _, h0, _⟩ | ⟨hr, h0, _⟩
      · exact h1
      · exact h1
      · exact absurd h0 hc
    refine (rreads_wrong M f pc w hl h hc).mono fun e w' ⟨he, hb⟩ => ⟨none, 0, ?_, ?_, hb⟩
    · rw [hR, upto_none]; exact he
    · rw [hR, upto_none]; exact rows_none _
theorem rsets_all (hl : M.lies w) {R S : List Int} {c : Int} (h : Asked M f pc R S c) :
    Calls Tryd.prog 9 #[M.val, .int .i64 f, .int .i64 pc] w fun e w' => ∃ va vc, e = .returned (.tuple #[.slice va (upto (inl S) 8).length vc, .int .i64 c]) ∧ Rows w' 1 va vc ((upto (inl S) 8).map chCells) ∧ Below w.heap.size w w' := by
  by_cases hc : c = 0
  · have h' := h
    rcases h' with ⟨hr, _, _, h0⟩ | ⟨hr, _, _, h0, _⟩ | ⟨hr, _, n, q, F, i, rfl, rfl, hf, hi, rfl, rfl⟩
    · omega
    · omega
    · subst hc
      rw [upto_set (right_known M hr hf hi)]
      exact rsets_right M w n q F i hl hr hf hi
  · have hS : S = [] := by
      rcases h with ⟨hr, _, h1, h0⟩ | ⟨hr, _, h1, h0, _⟩ | ⟨hr, h0, _⟩
      · exact h1
      · exact h1
      · exact absurd h0 hc
    refine (rsets_wrong M f pc w hl h hc).mono fun e w' ⟨he, hb⟩ => ⟨none, 0, ?_, ?_, hb⟩
    · rw [hS, upto_none]; exact he
    · rw [hS, upto_none]; exact rows_none _
end
end Go.Proofs.YtaghfahhfockkaaDoor.pg
