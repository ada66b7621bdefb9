/- ProgSames, walked. -/
import Derived.Test.YtpcobaoiglhkkaaCp6
import Derived.Test.YtpcobaoiglhkkaaRSame2
import Derived.Test.YtpcobaoiglhkkaaPSame2
import Derived.Deep.RegionHeld3
namespace Go.Proofs.Ytpcobaoiglhkkaa.pg
open Go.ChangeShapes Go.WideShapes Go.ChangeAt Go.RowKit
set_option linter.unusedVariables false
set_option linter.unusedSimpArgs false
set_option maxRecDepth 100000
attribute [local go_sem ↓] Go.wp_at_zero Go.wp_at_succ
theorem keep8 {A0 A1 A2 A3 A4 A5 A6 A7 Q : Prop} (h : A0 ∧ A1 ∧ A2 ∧ A3 ∧ A4 ∧ A5 ∧ A6 ∧ A7 ∧ Q) : Q := h.2.2.2.2.2.2.2.2
set_option maxHeartbeats 8000000 in
theorem sames_any (A B : MPr) (w : World) (hA : A.lies w) (zA : A.sz) (hB : B.lies w) :
    Calls Try.prog 3 #[A.val, B.val] w fun e w' => e = .returned (.bool true) ∧ Below w.heap.size w w' := by
  obtain ⟨r, hr, hr2⟩ : ∃ r : Bool, Hid (r = true ↔ A.pr = B.pr) ∧ Hid (r = true ↔ B.pr = A.pr) := by
    by_cases hh : A.pr = B.pr
    · exact ⟨true, by simp [Hid, hh], by simp [Hid, hh]⟩
    · exact ⟨false, by simp [Hid, hh], (⟨fun q => absurd q (by decide), fun q => absurd (Eq.symm q) hh⟩ : (false = true ↔ B.pr = A.pr))⟩
  have hb := boxed2 w (objP A) (objP B)
  have bA := (boxP_new w A).later (boxed (w.alloc (objP A)) (objP B))
  have bB := boxP_new (w.alloc (objP A)) B
  rw [World.size_alloc] at bB
  have c1 : ∀ wx, Below w.heap.size w wx → Calls Try.prog 5 #[A.val, B.val] wx _ := fun wx h => same_any A B wx (hA.later h) (hB.later h) r hr
  have c2 : ∀ wx, Below w.heap.size w wx → Calls Try.prog 5 #[B.val, A.val] wx _ := fun wx h => same_any B A wx (hB.later h) (hA.later h) r hr2
  have c3 : ∀ wx, Below w.heap.size w wx → Calls Try.prog 6 #[A.val, B.val] wx _ := fun wx h => rsame_any A B wx (hA.later h) (hB.later h) r hr
  have c4 : ∀ wx, Below w.heap.size w wx → Calls Try.prog 7 #[A.val] wx _ := fun wx h => copy_any A wx (hA.later h) zA
  have c5 : ∀ (N : MPr) wx, Below w.heap.size w wx → N.lies wx → A.pr = N.pr → Calls Try.prog 5 #[A.val, N.val] wx _ := fun N wx h hN hp => same_any A N wx (hA.later h) hN true (by simp [Hid, hp])
  clear hr hr2
  cases r
  all_goals
    go_enter Try.func3, Try.ntmps3
    go_wp2_with fail
    generalize (w.alloc (objP A)).alloc (objP B) = W at *
    have K : ∀ w', Below W.heap.size W w' → (w'.cell? ⟨w.heap.size, 0, none⟩ = some (.slice A.va A.vars.length A.vcap) ∧ w'.cell? ⟨w.heap.size, 1, none⟩ = some (.int .i64 A.locks) ∧ w'.cell? ⟨w.heap.size, 2, none⟩ = some (.slice A.cha A.chans.length A.chcap) ∧ w'.cell? ⟨w.heap.size, 3, none⟩ = some (.slice A.fa A.fns.length A.fcap) ∧ w'.cell? ⟨w.heap.size + 1, 0, none⟩ = some (.slice B.va B.vars.length B.vcap) ∧ w'.cell? ⟨w.heap.size + 1, 1, none⟩ = some (.int .i64 B.locks) ∧ w'.cell? ⟨w.heap.size + 1, 2, none⟩ = some (.slice B.cha B.chans.length B.chcap) ∧ w'.cell? ⟨w.heap.size + 1, 3, none⟩ = some (.slice B.fa B.fns.length B.fcap) ∧ Below W.heap.size W w') := fun w' h' => ⟨cell_later h' bA.1, cell_later h' bA.2.1, cell_later h' bA.2.2.1, cell_later h' bA.2.2.2, cell_later h' bB.1, cell_later h' bB.2.1, cell_later h' bB.2.2.1, cell_later h' bB.2.2.2, h'⟩
    have KH : Hid (∀ w', Below W.heap.size W w' → _) := K
    clear K bA bB
    go_region_held3 (fun w' => w'.cell? ⟨w.heap.size, 0, none⟩ = some (.slice A.va A.vars.length A.vcap) ∧ w'.cell? ⟨w.heap.size, 1, none⟩ = some (.int .i64 A.locks) ∧ w'.cell? ⟨w.heap.size, 2, none⟩ = some (.slice A.cha A.chans.length A.chcap) ∧ w'.cell? ⟨w.heap.size, 3, none⟩ = some (.slice A.fa A.fns.length A.fcap) ∧ w'.cell? ⟨w.heap.size + 1, 0, none⟩ = some (.slice B.va B.vars.length B.vcap) ∧ w'.cell? ⟨w.heap.size + 1, 1, none⟩ = some (.int .i64 B.locks) ∧ w'.cell? ⟨w.heap.size + 1, 2, none⟩ = some (.slice B.cha B.chans.length B.chcap) ∧ w'.cell? ⟨w.heap.size + 1, 3, none⟩ = some (.slice B.fa B.fns.length B.fcap) ∧ Below W.heap.size W w') ((refine KH.out _ ?_; repeat (first | assumption | exact keep8 (by assumption) | exact Below.refl _ _ | refine Below.drew ?_)))
      (first
        | (go_at_call 5; (with_reducible refine (c1 _ (bthen hb (by repeat (first | assumption | exact keep8 (by assumption) | exact Below.refl _ _ | refine Below.drew ?_)))).mono ?_); rintro e w' ⟨rfl, hb2⟩; have hBW : Below W.heap.size W w' := bthen (by repeat (first | assumption | exact keep8 (by assumption) | exact Below.refl _ _ | refine Below.drew ?_)) hb2)
        | (go_at_call 5; (with_reducible refine (c2 _ (bthen hb (by repeat (first | assumption | exact keep8 (by assumption) | exact Below.refl _ _ | refine Below.drew ?_)))).mono ?_); rintro e w' ⟨rfl, hb2⟩; have hBW : Below W.heap.size W w' := bthen (by repeat (first | assumption | exact keep8 (by assumption) | exact Below.refl _ _ | refine Below.drew ?_)) hb2)
        | (go_at_call 6; (with_reducible refine (c3 _ (bthen hb (by repeat (first | assumption | exact keep8 (by assumption) | exact Below.refl _ _ | refine Below.drew ?_)))).mono ?_); rintro e w' ⟨rfl, hb2⟩; have hBW : Below W.heap.size W w' := bthen (by repeat (first | assumption | exact keep8 (by assumption) | exact Below.refl _ _ | refine Below.drew ?_)) hb2)
        | (go_at_call 7; (with_reducible refine (c4 _ (bthen hb (by repeat (first | assumption | exact keep8 (by assumption) | exact Below.refl _ _ | refine Below.drew ?_)))).mono ?_); rintro e w' ⟨N, rfl, hcp, hb2⟩; have hBW : Below W.heap.size W w' := bthen (by repeat (first | assumption | exact keep8 (by assumption) | exact Below.refl _ _ | refine Below.drew ?_)) hb2; have hNl := hcp.lies hA; have hNp := hcp.pr)
        | (go_at_call 5; (with_reducible refine (c5 _ _ (bthen hb (by repeat (first | assumption | exact keep8 (by assumption) | exact Below.refl _ _ | refine Below.drew ?_))) (by first | exact hNl | exact hNl.later (Below.drew (Below.refl _ _))) hNp).mono ?_); rintro e w' ⟨rfl, hb2⟩; have hBW : Below W.heap.size W w' := bthen (by repeat (first | assumption | exact keep8 (by assumption) | exact Below.refl _ _ | refine Below.drew ?_)) hb2))
    all_goals go_wp2
    all_goals go_ret
    all_goals exact ⟨rfl, bthen hb (by assumption)⟩
end Go.Proofs.Ytpcobaoiglhkkaa.pg
