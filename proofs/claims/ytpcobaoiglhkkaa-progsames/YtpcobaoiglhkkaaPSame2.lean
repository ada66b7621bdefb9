/- The contract of package prog's Same. -/
import Derived.Test.YtpcobaoiglhkkaaPSame
namespace Go.Proofs.Ytpcobaoiglhkkaa.pg
open Go.ChangeShapes Go.WideShapes Go.ChangeAt Go.RowKit
set_option linter.unusedVariables false
set_option linter.unusedSimpArgs false
set_option maxRecDepth 100000
theorem bool_of (p : Prop) : ∃ q : Bool, Hid (q = true ↔ p) := by
  by_cases h : p
  · exact ⟨true, by simp [Hid, h]⟩
  · exact ⟨false, by simp [Hid, h]⟩
theorem not_of {p : Prop} (h : Hid (false = true ↔ p)) : ¬ p := fun q => absurd (h.out.mpr q) (by decide)
set_option maxHeartbeats 2000000 in
theorem sameFunc_any (f g : MFn) (w : World) (hf : f.lies w) (hg : g.lies w) (r : Bool) (hr : Hid (r = true ↔ f.fn = g.fn)) :
    Calls Try.prog 13 #[f.val, g.val] w fun e w' => e = .returned (.bool r) ∧ Below w.heap.size w w' := by
  have hbb := boxed2 w (objF f) (objF g)
  have bF := (boxF_new w f).later (boxed (w.alloc (objF f)) (objF g))
  have bG := boxF_new (w.alloc (objF f)) g
  simp only [World.size_alloc] at bG
  obtain ⟨qi, hqi⟩ := bool_of (f.code = g.code)
  obtain ⟨qs, hqs⟩ := bool_of (f.sels.map MSel.sel = g.sels.map MSel.sel)
  have ci := equalFuncI_any f.ca g.ca f.ccap g.ccap f.code g.code _ (hf.1.later hbb) (hg.1.later hbb) qi hqi
  have cs : ∀ wx, Below ((w.alloc (objF f)).alloc (objF g)).heap.size ((w.alloc (objF f)).alloc (objF g)) wx → Calls Try.prog 23 #[.slice f.sa f.sels.length f.scap, .slice g.sa g.sels.length g.scap, .func (.func 24) #[] #[]] wx _ := fun wx hx =>
    equalFuncS_any f.sa g.sa f.scap g.scap f.sels g.sels wx ((hf.2.1.later hbb).later hx) ((hg.2.1.later hbb).later hx) (fun s hs => ((hf.2.2.2.1 s hs).later hbb).later hx) (fun s hs => ((hg.2.2.2.1 s hs).later hbb).later hx) qs hqs
  clear hf hg
  by_cases h1 : f.params = g.params
  · by_cases h2 : f.regs = g.regs
    · have h1b : (f.params == g.params) = true := by simp [h1]
      have h2b : (f.regs == g.regs) = true := by simp [h2]
      have H1 : Hid (f.params = g.params) := h1
      have H2 : Hid (f.regs = g.regs) := h2
      clear h1 h2
      cases qi with
      | true =>
        have hcode := hqi.out.mp rfl
        cases qs with
        | true =>
          have hv := is_same hr (fn_eq H1.out H2.out hcode (hqs.out.mp rfl))
          clear hcode hqi hqs
          go_enter Try.func13, Try.ntmps13
          go_wp2_with (first | (go_at_call 21; (with_reducible refine ci.mono ?_); rintro e w2 ⟨rfl, hb2⟩; obtain ⟨f0, f1, f2, f3⟩ := bF.later hb2; obtain ⟨g0, g1, g2, g3⟩ := bG.later hb2; (have cs2 := cs _ hb2)) | (go_at_call 23; (with_reducible refine cs2.mono ?_); rintro e w3 ⟨rfl, hb3⟩))
          go_ret
          exact ⟨ret_b hv.out.symm, bthen (bthen hbb hb2) hb3⟩
        | false =>
          have hv := not_same hr (fun q => not_of hqs (congrArg Fn.sels q))
          clear hcode hqi hqs
          go_enter Try.func13, Try.ntmps13
          go_wp2_with (first | (go_at_call 21; (with_reducible refine ci.mono ?_); rintro e w2 ⟨rfl, hb2⟩; obtain ⟨f0, f1, f2, f3⟩ := bF.later hb2; obtain ⟨g0, g1, g2, g3⟩ := bG.later hb2; (have cs2 := cs _ hb2)) | (go_at_call 23; (with_reducible refine cs2.mono ?_); rintro e w3 ⟨rfl, hb3⟩))
          go_ret
          exact ⟨ret_b hv.out.symm, bthen (bthen hbb hb2) hb3⟩
      | false =>
        have hv := not_same hr (fun q => not_of hqi (congrArg Fn.code q))
        clear hqi hqs cs
        go_enter Try.func13, Try.ntmps13
        go_wp2_with (go_at_call 21; (with_reducible refine ci.mono ?_); rintro e w2 ⟨rfl, hb2⟩)
        go_ret
        exact ⟨ret_b hv.out.symm, bthen hbb hb2⟩
    · have hv := not_same hr (fun q => h2 (congrArg Fn.regs q))
      have h1b : (f.params == g.params) = true := by simp [h1]
      have h2b : (f.regs == g.regs) = false := by simp [h2]
      clear h1 ci cs hqi hqs
      go_enter Try.func13, Try.ntmps13
      go_wp2
      go_ret
      exact ⟨ret_b hv.out.symm, hbb⟩
  · have hv := not_same hr (fun q => h1 (congrArg Fn.params q))
    have h1b : (f.params == g.params) = false := by simp [h1]
    clear ci cs hqi hqs
    go_enter Try.func13, Try.ntmps13
    go_wp2
    go_ret
    exact ⟨ret_b hv.out.symm, hbb⟩
set_option maxHeartbeats 2000000 in
theorem equalFuncF_any (a b : Option Addr) (ca cb : Nat) (l m : List MFn) (w : World) (hl : Rows w 4 a ca (l.map MFn.cells)) (hm : Rows w 4 b cb (m.map MFn.cells)) (hls : ∀ s ∈ l, s.lies w) (hms : ∀ s ∈ m, s.lies w) (r : Bool) (hr : Hid (r = true ↔ l.map MFn.fn = m.map MFn.fn)) :
    Calls Try.prog 12 #[.slice a l.length ca, .slice b m.length cb, .func (.func 13) #[] #[]] w fun e w' => e = .returned (.bool r) ∧ Below w.heap.size w w' := by
  by_cases h1 : l.length = m.length
  · have hln := rows_len hm
    rw [h1]
    have H1 : Hid (l.length = m.length) := h1
    have hlH : Hid (Rows w 4 a ca (l.map MFn.cells)) := hl
    have hmH : Hid (Rows w 4 b cb (m.map MFn.cells)) := hm
    clear h1 hl hm
    go_enter Try.func12, Try.ntmps12
    go_wp2
    go_loopw [17] (fun u wr => ∃ k : Nat, k ≤ m.length ∧ u = .int .i64 k ∧ (∀ j x y, j < k → l[j]? = some x → m[j]? = some y → x.fn = y.fn) ∧ Below w.heap.size w wr) (fun u _ => m.length - (intOf u).toNat)
    case atStart => exact ⟨0, Nat.zero_le _, rfl, fun j x y hj => by omega, Below.refl _ _⟩
    case round =>
      obtain ⟨k, hk, rfl, hall, hbr⟩ := hrel
      by_cases hlt : k < m.length
      · obtain ⟨x, hx, hxm⟩ := get_lt l k (by have := H1.out; omega)
        obtain ⟨y, hy, hym⟩ := get_lt m k hlt
        obtain ⟨bx, ox, hix, hbx, c0, c1, c2, c3⟩ := fn_ix (hlH.out.later hbr) k x hx
        obtain ⟨bz, oy, hiy, hbz, e0, e1, e2, e3⟩ := fn_ix (hmH.out.later hbr) k y hy
        rw [H1.out] at hix
        have hz1 : bz < wr.heap.size + 1 := by omega
        obtain ⟨q, hq⟩ : ∃ q : Bool, Hid (q = true ↔ x.fn = y.fn) := by
          by_cases hh : x.fn = y.fn
          · exact ⟨true, by simp [Hid, hh]⟩
          · exact ⟨false, by simp [Hid, hh]⟩
        have hcall : Calls Try.prog 13 #[x.val, y.val] ((wr.alloc (objF x)).alloc (objF y)) _ := sameFunc_any x y _ ((hls x hxm).later (bthen hbr (boxed2 _ _ _))) ((hms y hym).later (bthen hbr (boxed2 _ _ _))) q hq
        have hbb : Below w.heap.size w ((wr.alloc (objF x)).alloc (objF y)) := bthen hbr (boxed2 _ _ _)
        cases q with
        | true =>
          have hxy : Hid (x.fn = y.fn) := hq.out.mp rfl
          clear hq
          go_wp2_with (go_at_call 13; (with_reducible refine hcall.mono ?_); rintro e w2 ⟨rfl, hb2⟩)
          go_roundw
          case rel => exact ⟨k + 1, by omega, by go_num, (fun j x' y' hj hx' hy' => by
            by_cases hjk : j = k
            · subst hjk; rw [hx] at hx'; rw [hy] at hy'; cases hx'; cases hy'; exact hxy.out
            · exact hall j x' y' (by omega) hx' hy'), bthen hbb hb2⟩
          case measure => simp [intOf]; omega
        | false =>
          have hv := not_same hr (fun t => by
            have t2 := congrArg (fun l => l[k]?) t
            simp only [List.getElem?_map, hx, hy, Option.map_some, Option.some.injEq] at t2
            exact absurd (hq.out.mpr t2) (by decide))
          clear hq
          go_wp2_with (go_at_call 13; (with_reducible refine hcall.mono ?_); rintro e w2 ⟨rfl, hb2⟩)
          go_ret
          exact ⟨ret_b hv.out.symm, bthen hbb hb2⟩
      · have hv := is_same hr (list_eq (by simp only [List.length_map]; exact H1.out) (fun i x y hx hy => by
          simp only [List.getElem?_map, Option.map_eq_some_iff] at hx hy
          obtain ⟨x', hx', rfl⟩ := hx
          obtain ⟨y', hy', rfl⟩ := hy
          exact hall i x' y' (by have := (List.getElem?_eq_some_iff.mp hy').1; omega) hx' hy'))
        clear hall
        go_wp2
        go_ret
        exact ⟨ret_b hv.out.symm, hbr⟩
  · have hv := not_same hr (fun q => h1 (by have := congrArg List.length q; simpa using this))
    have hI : ¬ (l.length : Int) = m.length := by omega
    clear h1 hl hm
    go_enter Try.func12, Try.ntmps12
    go_wp2
    go_ret
    exact ⟨ret_b hv.out.symm, Below.refl _ _⟩
set_option maxHeartbeats 2000000 in
theorem same_any (A B : MPr) (w : World) (hA : A.lies w) (hB : B.lies w) (r : Bool) (hr : Hid (r = true ↔ A.pr = B.pr)) :
    Calls Try.prog 5 #[A.val, B.val] w fun e w' => e = .returned (.bool r) ∧ Below w.heap.size w w' := by
  have hbb := boxed2 w (objP A) (objP B)
  have bA := (boxP_new w A).later (boxed (w.alloc (objP A)) (objP B))
  have bB := boxP_new (w.alloc (objP A)) B
  simp only [World.size_alloc] at bB
  obtain ⟨qv, hqv⟩ := bool_of (A.vars = B.vars)
  obtain ⟨qc, hqc⟩ := bool_of (A.chans = B.chans)
  obtain ⟨qf, hqf⟩ := bool_of (A.fns.map MFn.fn = B.fns.map MFn.fn)
  have cv := equalV_any A.va B.va A.vcap B.vcap A.vars B.vars _ (hA.1.later hbb) (hB.1.later hbb) qv hqv
  have cc : ∀ wx, Below ((w.alloc (objP A)).alloc (objP B)).heap.size ((w.alloc (objP A)).alloc (objP B)) wx → Calls Try.prog 11 #[.slice A.cha A.chans.length A.chcap, .slice B.cha B.chans.length B.chcap] wx _ := fun wx hx => equalN_any A.cha B.cha A.chcap B.chcap A.chans B.chans wx ((hA.2.1.later hbb).later hx) ((hB.2.1.later hbb).later hx) qc hqc
  have cf : ∀ wx, Below ((w.alloc (objP A)).alloc (objP B)).heap.size ((w.alloc (objP A)).alloc (objP B)) wx → Calls Try.prog 12 #[.slice A.fa A.fns.length A.fcap, .slice B.fa B.fns.length B.fcap, .func (.func 13) #[] #[]] wx _ := fun wx hx =>
    equalFuncF_any A.fa B.fa A.fcap B.fcap A.fns B.fns wx ((hA.2.2.1.later hbb).later hx) ((hB.2.2.1.later hbb).later hx) (fun s hs => ((hA.2.2.2.2.2.2 s hs).later hbb).later hx) (fun s hs => ((hB.2.2.2.2.2.2 s hs).later hbb).later hx) qf hqf
  clear hA hB
  cases qv with
  | true =>
    have hvars : Hid (A.vars = B.vars) := hqv.out.mp rfl
    by_cases h2 : A.locks = B.locks
    · have h2b : (A.locks == B.locks) = true := by simp [h2]
      have H2 : Hid (A.locks = B.locks) := h2
      clear h2 hqv
      cases qc with
      | true =>
        have hch : Hid (A.chans = B.chans) := hqc.out.mp rfl
        cases qf
        all_goals
          first | (have hv := is_same hr (pr_eq hvars.out H2.out hch.out (hqf.out.mp rfl))) | (have hv := not_same hr (fun q => not_of hqf (congrArg Pr.fns q)))
          clear hqc hqf
          go_enter Try.func5, Try.ntmps5
          go_wp2_with (first | (go_at_call 10; (with_reducible refine cv.mono ?_); rintro e w2 ⟨rfl, hb2⟩; obtain ⟨f0, f1, f2, f3⟩ := bA.later hb2; obtain ⟨g0, g1, g2, g3⟩ := bB.later hb2; (have cc2 := cc _ hb2)) | (go_at_call 11; (with_reducible refine cc2.mono ?_); rintro e w3 ⟨rfl, hb3⟩; (have hb23 := bthen hb2 hb3); clear f0 f1 f2 f3 g0 g1 g2 g3; obtain ⟨f0, f1, f2, f3⟩ := bA.later hb23; obtain ⟨g0, g1, g2, g3⟩ := bB.later hb23; (have cf2 := cf _ hb23)) | (go_at_call 12; (with_reducible refine cf2.mono ?_); rintro e w4 ⟨rfl, hb4⟩))
          go_ret
          exact ⟨ret_b hv.out.symm, bthen (bthen hbb hb23) hb4⟩
      | false =>
        have hv := not_same hr (fun q => not_of hqc (congrArg Pr.chans q))
        clear hqc hqf cf
        go_enter Try.func5, Try.ntmps5
        go_wp2_with (first | (go_at_call 10; (with_reducible refine cv.mono ?_); rintro e w2 ⟨rfl, hb2⟩; obtain ⟨f0, f1, f2, f3⟩ := bA.later hb2; obtain ⟨g0, g1, g2, g3⟩ := bB.later hb2; (have cc2 := cc _ hb2)) | (go_at_call 11; (with_reducible refine cc2.mono ?_); rintro e w3 ⟨rfl, hb3⟩))
        go_ret
        exact ⟨ret_b hv.out.symm, bthen (bthen hbb hb2) hb3⟩
    · have hv := not_same hr (fun q => h2 (congrArg Pr.locks q))
      have h2b : (A.locks == B.locks) = false := by simp [h2]
      clear hqv hqc hqf cc cf
      go_enter Try.func5, Try.ntmps5
      go_wp2_with (go_at_call 10; (with_reducible refine cv.mono ?_); rintro e w2 ⟨rfl, hb2⟩; obtain ⟨f0, f1, f2, f3⟩ := bA.later hb2; obtain ⟨g0, g1, g2, g3⟩ := bB.later hb2)
      go_ret
      exact ⟨ret_b hv.out.symm, bthen hbb hb2⟩
  | false =>
    have hv := not_same hr (fun q => not_of hqv (congrArg Pr.vars q))
    clear hqv hqc hqf cc cf
    go_enter Try.func5, Try.ntmps5
    go_wp2_with (go_at_call 10; (with_reducible refine cv.mono ?_); rintro e w2 ⟨rfl, hb2⟩)
    go_ret
    exact ⟨ret_b hv.out.symm, bthen hbb hb2⟩
end Go.Proofs.Ytpcobaoiglhkkaa.pg
