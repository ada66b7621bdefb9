/- Every Write of a witness. -/
import Derived.Test.YtikkgfmhnmoalaaM22
namespace Go.Proofs.Ytikkgfmhnmoalaa.pg
open Go.ChangeShapes Go.WideShapes Go.ChangeAt Go.RowKit
set_option linter.unusedVariables false
set_option linter.unusedSimpArgs false
set_option maxRecDepth 100000
theorem WitIn.later {w w' : World} {M : Wi} {pa : Option Addr} {pc : Nat} (h : WitIn w M pa pc) (hb : Below w.heap.size w w') : WitIn w' M pa pc :=
  ⟨h.r.later hb, h.b.imp_left fun k b q => Nat.lt_of_lt_of_le (k b q) hb.size, h.s0, h.s1, h.v⟩
section
variable {w : World}
set_option maxHeartbeats 4000000 in
theorem writes_walk (M : Wi) (pa : Option Addr) (pc : Nat) (L : List Nat) (E : Int) (hE0 : Hid (E = 0 ∨ E = 1)) (cW : ∀ wx, Below w.heap.size w wx → Calls Try.prog 7 #[.agg (M.cells pa pc).toArray] wx fun e w' => ∃ va vc, e = .returned (.tuple #[.slice va L.length vc, .int .i64 E]) ∧ BytesL w' va vc L ∧ Below wx.heap.size wx w')
    (cV : ∀ wx, Below w.heap.size w wx → Calls Try.prog 8 #[.agg (M.cells pa pc).toArray] wx fun e w' => ∃ va vc, e = .returned (.tuple #[.slice va L.length vc, .int .i64 E]) ∧ BytesL w' va vc L ∧ Below wx.heap.size wx w') : Calls Try.prog 3 #[.agg (M.cells pa pc).toArray] w fun e w' => e = .returned (.bool true) ∧ Below w.heap.size w w' := by
  have hb := boxed w (objWi M pa pc)
  have hz : Hid ((w.alloc (objWi M pa pc)).heap[w.heap.size]? = some (objWi M pa pc)) := heap_alloc_new _ _
  have huW : Hid (Try.prog.underlying 31 = _) := Try.underlying31
  have hiC : Hid ((Try.prog.info? 31).map (·.size) = some (M.cells pa pc).toArray.size) := infoW12
  have cS : ∀ wx, Calls Try.prog 10 #[] wx _ := fun wx => smallW_any wx
  have hEE : (E == E) = true := by simp
  go_enter Try.func3, Try.ntmps3
  go_wp2_with (first
    | (refine wpList_load_row rfl 31 _ rfl w.heap.size rfl _ _ _ _ hz.out huW.out rfl hiC.out ?_)
    | (refine wpList_load_row rfl 31 _ rfl w.heap.size rfl _ _ _ _ hz1.out huW.out rfl hiC.out ?_)
    | (go_at_call 7; (with_reducible refine (cW _ hb).mono ?_); rintro e w1 ⟨va, vc, rfl, ho1, hb1⟩; (have B1 := bthen hb hb1); (have hz1 : Hid (w1.heap[w.heap.size]? = some (objWi M pa pc)) := (hb1.block _ (by rw [World.size_alloc]; omega)).trans hz.out))
    | (go_at_call 8; (with_reducible refine (cV _ B1).mono ?_); rintro e w2 ⟨ua, uc, rfl, ho2, hb2⟩; (have B2 := bthen B1 hb2); (have cZ := same_bytes L va ua vc uc w2 (ho1.later hb2) ho2))
    | (go_at_call 9; (with_reducible refine cZ.mono ?_); rintro e w3 ⟨rfl, h3⟩; rw [h3])
    | (go_at_call 10; (with_reducible refine (cS _).mono ?_); rintro e w4 ⟨rfl, hb4⟩))
  go_ret
  exact ⟨rfl, bthen B2 hb4⟩
end
theorem bytesL_nil (w : World) : BytesL w none 0 [] := ⟨⟨Nat.le_refl _, by decide, fun _ => ⟨rfl, rfl⟩, .inl rfl⟩, fun b hb => by simp at hb⟩
theorem writes_row (M : Wi) (pa : Option Addr) (pc : Nat) (w : World) (hin : WitIn w M pa pc) : Calls Try.prog 3 #[.agg (M.cells pa pc).toArray] w fun e w' => e = .returned (.bool true) ∧ Below w.heap.size w w' := by
  rcases Bool.eq_false_or_eq_true M.ok with hok | hok
  · refine writes_walk M pa pc M.bytes 0 (.inl rfl) (fun wx h => ?_) (fun wx h => ?_)
    · refine (write_ok M pa pc wx (hin.later h).r (hin.later h).b hin.s0 hin.s1 hok).mono ?_
      rintro e w' ⟨va, vc, rfl, ho, hb⟩
      exact ⟨va, vc, rfl, own_bytes ho (bt_bytes M hin.s0 hin.s1), hb⟩
    · refine (rwrite_ok M pa pc (hin.later h) hok).mono ?_
      rintro e w' ⟨va, vc, rfl, ho, hb⟩
      exact ⟨va, vc, rfl, own_bytes ho (bt_bytes M hin.s0 hin.s1), hb⟩
  · refine writes_walk M pa pc [] 1 (.inr rfl) (fun wx h => ?_) (fun wx h => ?_)
    · refine (write_bad M pa pc wx (hin.later h).r (hin.later h).b hok).mono ?_
      rintro e w' ⟨rfl, hb⟩
      exact ⟨none, 0, rfl, bytesL_nil _, hb⟩
    · refine (rwrite_bad M pa pc (hin.later h) hok).mono ?_
      rintro e w' ⟨rfl, hb⟩
      exact ⟨none, 0, rfl, bytesL_nil _, hb⟩
end Go.Proofs.Ytikkgfmhnmoalaa.pg

