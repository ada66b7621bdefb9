/- A right program is read from its bytes as it was. -/
import Derived.Test.YtkhfimfjndmdlaaDoorM24
import Derived.Test.YtkhfimfjndmdlaaDoorM26
namespace Go.Proofs.YtkhfimfjndmdlaaDoor.pg
open Go.ChangeShapes Go.WideShapes Go.ChangeAt Go.RowKit
set_option linter.unusedVariables false
set_option linter.unusedSimpArgs false
set_option maxRecDepth 100000
section
variable {w : World}
set_option maxHeartbeats 2000000 in
theorem codeback_bad (M : MPr) (hl : M.lies w) (hF : prog.Forms w) (hr : ¬ (chk insP M.pr).1 = 0) : Calls Tryd.prog 3 #[M.val] w fun e w' => e = .returned (.bool true) ∧ Below w.heap.size w w' := by
  have hb := boxed w (objP M)
  have hbx : (w.alloc (objP M)).heap[w.heap.size]? = some (objP M) := heap_alloc_new _ _
  obtain ⟨a, b, c, hc⟩ : ∃ a b c, Hid (chk insP M.pr = (a, b, c)) := ⟨_, _, _, rfl⟩
  have ha : ¬ a = 0 := fun q => hr (by rw [hc.out]; exact q)
  have hrr : Hid (decide ((chk insR M.pr).1 = 0) = false) := by show decide _ = false; exact decide_eq_false (fun q => hr ((right_iff M.pr).mpr q))
  have c1 : Calls Tryd.prog 7 #[M.val] (w.alloc (objP M)) _ := encode_bad (hl.later hb) (hF.later hb) a b c hc.out ha
  have c2 : ∀ wx, Below w.heap.size w wx → Calls Tryd.prog 8 #[M.val] wx _ := fun wx h => rright_any M wx (hl.later h) false hrr
  have c3 : ∀ wx, Below w.heap.size w wx → Calls Tryd.prog 9 #[] wx _ := fun wx h => speaks_any (hF.later h)
  clear hr hrr hc hF hl
  go_enter Tryd.func3, Tryd.ntmps3
  go_wp2_with (first
    | (go_at_call 7; (with_reducible refine c1.mono ?_); rintro e w1 ⟨rfl, b1⟩; (have B1 := bthen hb b1); (have p := (b1.block w.heap.size (by rw [World.size_alloc]; omega)).trans hbx); (have q0 := whole_cell p 0 _ rfl); (have q1 := whole_cell p 1 _ rfl); (have q2 := whole_cell p 2 _ rfl); (have q3 := whole_cell p 3 _ rfl); (have ql := (Array.getElem?_eq_some_iff.mp p).1))
    | (go_at_call 8; (with_reducible refine (c2 _ B1).mono ?_); rintro e w2 ⟨rfl, b2⟩; (have B2 := bthen B1 b2))
    | (go_at_call 9; (with_reducible refine (c3 _ B2).mono ?_); rintro e w3 ⟨rfl, b3⟩; (have B3 := bthen B2 b3)))
  go_ret
  exact ⟨rfl, B3⟩
set_option maxHeartbeats 2000000 in
theorem codeback_ok (M : MPr) (hl : M.lies w) (hF : prog.Forms w) (hr : (chk insP M.pr).1 = 0) : Calls Tryd.prog 3 #[M.val] w fun e w' => e = .returned (.bool true) ∧ Below w.heap.size w w' := by
  have hb := boxed w (objP M)
  have hbx : (w.alloc (objP M)).heap[w.heap.size]? = some (objP M) := heap_alloc_new _ _
  obtain ⟨b, c, hc⟩ : ∃ b c, Hid (chk insP M.pr = (0, b, c)) := ⟨_, _, by show _ = _; rw [← hr]⟩
  have hok := right_mem hr hl
  have hrr : Hid (decide ((chk insR M.pr).1 = 0) = true) := by show decide _ = true; exact decide_eq_true ((right_iff M.pr).mp hr)
  obtain ⟨n, hn⟩ : ∃ n, Hid ((fullB M.pr).length = n) := ⟨_, rfl⟩
  obtain ⟨L, hL⟩ : ∃ L, Hid (fullB M.pr = L) := ⟨_, rfl⟩
  have c1 : Calls Tryd.prog 7 #[M.val] (w.alloc (objP M)) fun e w' => ∃ va vc, e = .returned (.tuple #[.slice va n vc, .int .i64 0]) ∧ Rows w' 1 va vc (L.map u8c) ∧ (∀ b ∈ blk va, b < w'.heap.size) ∧ Below (w.alloc (objP M)).heap.size (w.alloc (objP M)) w' := by
    rw [← hL.out]
    exact encode_full M (hl.later hb) (hF.later hb) M.pr rfl b c hc.out n hn.out
  have c2 : ∀ wx, Below w.heap.size w wx → Calls Tryd.prog 8 #[M.val] wx _ := fun wx h => rright_any M wx (hl.later h) true hrr
  have c3 : ∀ wx, Below w.heap.size w wx → Calls Tryd.prog 9 #[] wx _ := fun wx h => speaks_any (hF.later h)
  have c4 : ∀ wx va vc, Below w.heap.size w wx → Rows wx 1 va vc (L.map u8c) → (∀ b ∈ blk va, b < wx.heap.size) → Calls Tryd.prog 10 #[.slice va n vc] wx fun e w' => ∃ m : MPr, e = .returned (.tuple #[m.val, .int .i64 0, .int .i64 0]) ∧ m.pr = M.pr ∧ m.lies w' ∧ Below wx.heap.size wx w' := fun wx va vc hx h1 h2 => by
    have := decode_full M.pr hok b c hc.out va vc (by rw [hL.out]; exact h1) h2 (hF.later hx)
    rw [hn.out] at this
    exact this
  have c5 : ∀ wx (m : MPr), m.pr = M.pr → m.lies wx → Below w.heap.size w wx → Calls Tryd.prog 11 #[M.val, m.val] wx _ := fun wx m hm h1 h2 => rsame_any M m wx (hl.later h2) h1 true ⟨fun _ => hm.symm, fun _ => rfl⟩
  clear hr hrr hc hF hl hok hn hL
  go_enter Tryd.func3, Tryd.ntmps3
  go_wp2_with (first
    | (go_at_call 7; (with_reducible refine c1.mono ?_); rintro e w1 ⟨va, vc, rfl, hR, hbl, b1⟩; (have B1 := bthen hb b1); (have p := (b1.block w.heap.size (by rw [World.size_alloc]; omega)).trans hbx); (have q0 := whole_cell p 0 _ rfl); (have q1 := whole_cell p 1 _ rfl); (have q2 := whole_cell p 2 _ rfl); (have q3 := whole_cell p 3 _ rfl); (have ql := (Array.getElem?_eq_some_iff.mp p).1); (have hRH : Hid (Rows w1 1 va vc (L.map u8c)) := hR); (have hbH : Hid (∀ b ∈ blk va, b < w1.heap.size) := hbl); clear hR hbl)
    | (go_at_call 8; (with_reducible refine (c2 _ B1).mono ?_); rintro e w2 ⟨rfl, b2⟩; (have B2 := bthen B1 b2); (have p2 := (b2.block w.heap.size ql).trans p); (have hR2 : Hid (Rows w2 1 va vc (L.map u8c)) := hRH.out.later b2); (have hb2 : Hid (∀ b ∈ blk va, b < w2.heap.size) := fun b hb => Nat.lt_of_lt_of_le (hbH.out b hb) b2.size))
    | (go_at_call 10; (with_reducible refine (c4 _ _ _ B2 hR2.out hb2.out).mono ?_); rintro e w3 ⟨m, rfl, hm, hl3, b3⟩; (have hmH : Hid (m.pr = M.pr) := hm); clear hm q0 q1 q2 q3; (have b34 := bthen b3 (boxed w3 (objP m))); (have B4 : Hid (Below w.heap.size w (w3.alloc (objP m))) := bthen B2 b34); (have p4 := (b34.block w.heap.size (Array.getElem?_eq_some_iff.mp p2).1).trans p2); (have s0 := whole_cell p4 0 _ rfl); (have s1 := whole_cell p4 1 _ rfl); (have s2 := whole_cell p4 2 _ rfl); (have s3 := whole_cell p4 3 _ rfl); (have hl4 : Hid (m.lies (w3.alloc (objP m))) := hl3.later (boxed _ _)); (have r4 : (w3.alloc (objP m)).heap[w3.heap.size]? = some (objP m) := heap_alloc_new _ _); (have r0 := whole_cell r4 0 _ rfl); (have r1 := whole_cell r4 1 _ rfl); (have r2 := whole_cell r4 2 _ rfl); (have r3 := whole_cell r4 3 _ rfl))
    | (go_at_call 11; (with_reducible refine (c5 _ m hmH.out hl4.out B4.out).mono ?_); rintro e w5 ⟨rfl, b5⟩; (have B5 := bthen B4.out b5))
    | (go_at_call 9; (with_reducible refine (c3 _ B5).mono ?_); rintro e w6 ⟨rfl, b6⟩; (have B6 := bthen B5 b6)))
  go_ret
  exact ⟨rfl, B6⟩
end
end Go.Proofs.YtkhfimfjndmdlaaDoor.pg

