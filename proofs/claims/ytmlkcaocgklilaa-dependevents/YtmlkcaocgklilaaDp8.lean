/- DependEvents, walked. -/
import Derived.Test.YtmlkcaocgklilaaDp7
import Derived.Deep.DeepCutAuto
namespace Go.Proofs.Ytmlkcaocgklilaa.pg
open Go.ChangeShapes Go.WideShapes Go.ChangeAt Go.RowKit
set_option linter.unusedVariables false
set_option linter.unusedSimpArgs false
set_option maxRecDepth 100000
attribute [local go_sem ↓] Go.wp_at_zero Go.wp_at_succ
/-- An event of which nothing is left but what it touches. -/
abbrev Ev.bare (x : Ev) : Ev := ⟨0, 0, 0, 0, 0, 0, 0, x.t0, x.t1, x.t2, x.t3, x.t4, x.t5, x.n⟩
theorem Ev.bare_of (x : Ev) : x.bare.of = x.of := rfl
abbrev Ev.touch (x : Ev) : List Value := [.int .i64 x.t0.kind, .int .i64 x.t0.num, .bool x.t0.wr, .int .i64 x.t1.kind, .int .i64 x.t1.num, .bool x.t1.wr, .int .i64 x.t2.kind, .int .i64 x.t2.num, .bool x.t2.wr, .int .i64 x.t3.kind, .int .i64 x.t3.num, .bool x.t3.wr, .int .i64 x.t4.kind, .int .i64 x.t4.num, .bool x.t4.wr, .int .i64 x.t5.kind, .int .i64 x.t5.num, .bool x.t5.wr]
theorem BoxE.range7 {w : World} {B : Nat} {x : Ev} (h : BoxE w B x) : w.rangeAt B 7 x.touch := fun j v hv => by
  refine h.at (7 + j) v ?_
  have hj : j < 18 := by have := (List.getElem?_eq_some_iff.mp hv).1; simpa using this
  have : x.cells[7 + j]? = (x.touch ++ [.int .i64 x.n])[j]? := by rw [Nat.add_comm]; rfl
  rw [this, List.getElem?_append_left (by simpa using hj)]
  exact hv
set_option maxHeartbeats 1000000 in
theorem events_any (a b : Ev) (w : World) (_ : a.wf) (_ : b.wf) : Calls Try.prog 5 #[a.val, b.val] w fun e w' => e = .returned (.bool true) ∧ Below w.heap.size w w' := by
  obtain ⟨R, hR⟩ : ∃ R, Hid (R = clash a.of b.of) := ⟨_, rfl⟩
  have hR2 : Hid (R = clash b.of a.of) := hR.out.trans (clash_comm _ _)
  have hb := boxed2 w (objE a) (objE b)
  have bA := (boxE_new w a).later (boxed (w.alloc (objE a)) (objE b))
  have bB := boxE_new (w.alloc (objE a)) b
  rw [World.size_alloc] at bB
  have c1 : ∀ wx, Calls Try.prog 12 #[.agg a.cells.toArray, .agg b.cells.toArray] wx _ := fun wx => dependent_any a b wx R hR
  have c2 : ∀ wx, Calls Try.prog 13 #[.agg a.cells.toArray, .agg b.cells.toArray] wx _ := fun wx => rdependent_any a b wx R hR
  have c3 : ∀ wx, Calls Try.prog 12 #[.agg b.cells.toArray, .agg a.cells.toArray] wx _ := fun wx => dependent_any b a wx R hR2
  have c4 : ∀ wx, Calls Try.prog 12 #[.agg a.cells.toArray, .agg b.bare.cells.toArray] wx _ := fun wx => dependent_any a b.bare wx R hR
  have c5 : ∀ wx, Calls Try.prog 11 #[] wx _ := fun wx => speaks_any wx
  clear hR hR2
  have huH : Hid (Try.prog.underlying 47 = _) := Try.underlying47
  have huA : Hid (Try.prog.underlying 45 = _) := Try.underlying45
  have hiH : Hid ((Try.prog.info? 47).map (·.size) = some 26) := (by kernel_rfl : (Try.prog.info? 47).map (·.size) = some 26)
  have hi18 : Hid ((Try.prog.info? 45).map (·.size) = some 18) := (by kernel_rfl : (Try.prog.info? 45).map (·.size) = some 18)
  obtain ⟨W, hW⟩ : ∃ W, (w.alloc (objE a)).alloc (objE b) = W := ⟨_, rfl⟩
  rw [hW] at hb bA bB
  have hbH : Hid (Below w.heap.size w W) := hb
  have KA : Hid (∀ w', Below W.heap.size W w' → w'.rangeAt w.heap.size 0 a.cells) := fun w' h => (bA.later h).range
  have KB : Hid (∀ w', Below W.heap.size W w' → w'.rangeAt (w.heap.size + 1) 0 b.cells) := fun w' h => (bB.later h).range
  have KT : Hid (∀ w', Below W.heap.size W w' → w'.rangeAt (w.heap.size + 1) 7 b.touch) := fun w' h => (bB.later h).range7
  have KN : Hid (∀ w', Below W.heap.size W w' → w'.cell? ⟨w.heap.size + 1, 25, none⟩ = some (.int .i64 b.n)) := fun w' h => (bB.later h).at 25 _ rfl
  have KC : Hid (∀ (wx w' : World), Below (wx.alloc (objE b.bare)).heap.size (wx.alloc (objE b.bare)) w' → w'.rangeAt wx.heap.size 0 b.bare.cells) := fun wx w' h => ((boxE_new wx b.bare).later h).range
  clear hb bA bB
  have hR0 : Hid (Below W.heap.size W W) := Below.refl _ _
  cases R
  all_goals
    go_enter Try.func5, Try.ntmps5
    go_upto_region 1 with fail
    clear hW
    go_upto_region 2 with (first
      | (refine wpList_load_mid rfl 47 _ rfl w.heap.size 0 rfl a.cells _ (KA.out _ hR0.out) huH.out rfl hiH.out ?_)
      | (refine wpList_load_mid rfl 47 _ rfl (w.heap.size + 1) 0 rfl b.cells _ (KB.out _ hR0.out) huH.out rfl hiH.out ?_)
      | (go_at_call 12; (with_reducible refine (c1 _).mono ?_); rintro e w1 ⟨rfl, hb1⟩; (have hn1 := KN.out _ hb1)))
    go_upto_region 3 with (first
      | (refine wpList_load_mid rfl 45 _ rfl (w.heap.size + 1) 7 rfl b.touch _ (KT.out _ hb1) huA.out rfl hi18.out ?_)
      | (refine wpList_store_new rfl 47 _ _ rfl rfl _ b.bare.cells.toArray rfl (by kernel_rfl) rfl (ev_one b.bare) ?_))
    have hB2 : Hid (Below W.heap.size W (w1.alloc (objE b.bare))) := bthen hb1 (boxed _ _)
    have kC : Hid (BoxE (w1.alloc (objE b.bare)) w1.heap.size b.bare) := boxE_new w1 b.bare
    change Code.wp _ _ _ _ (w1.alloc (objE b.bare))
    generalize w1.alloc (objE b.bare) = W2 at *
    have hB2v : Below W.heap.size W W2 := hB2.out
    go_frame
    go_wp2_with (first
      | (refine wpList_load_g rfl 47 _ rfl w.heap.size 0 rfl a.cells _ (KA.out _ (by assumption)) huH.out rfl hiH.out ?_)
      | (refine wpList_load_g rfl 47 _ rfl (w.heap.size + 1) 0 rfl b.cells _ (KB.out _ (by assumption)) huH.out rfl hiH.out ?_)
      | (refine wpList_load_g rfl 47 _ rfl w1.heap.size 0 rfl b.bare.cells _ ((kC.out.later h4b.out).range) huH.out rfl hiH.out ?_)
      | (go_at_call 13; (with_reducible refine (c2 _).mono ?_); rintro e w3 ⟨rfl, hb3⟩; (have h3 : Below W.heap.size W w3 := bthen hB2.out hb3); (have h3b : Hid (Below W2.heap.size W2 w3) := hb3))
      | (go_at_call 12; (with_reducible refine (c3 _).mono ?_); rintro e w4 ⟨rfl, hb4⟩; (have h4 : Below W.heap.size W w4 := bthen h3 hb4); (have h4b : Hid (Below W2.heap.size W2 w4) := bthen h3b.out hb4))
      | (go_at_call 12; (with_reducible refine (c4 _).mono ?_); rintro e w5 ⟨rfl, hb5⟩; (have h5 : Below W.heap.size W w5 := bthen h4 hb5))
      | (go_at_call 11; (with_reducible refine (c5 _).mono ?_); rintro e w6 ⟨rfl, hb6⟩; (have h6 : Below W.heap.size W w6 := bthen h5 hb6)))
    go_ret
    exact ⟨rfl, bthen hbH.out h6⟩
end Go.Proofs.Ytmlkcaocgklilaa.pg
