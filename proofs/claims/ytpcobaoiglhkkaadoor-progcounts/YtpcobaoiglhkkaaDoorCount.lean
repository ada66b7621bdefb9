/- The contracts of Count, package prog's and the document's own. -/
import Derived.Test.YtpcobaoiglhkkaaDoorRef6
import Derived.Test.YtpcobaoiglhkkaaDoorAgree
namespace Go.Proofs.YtpcobaoiglhkkaaDoor.pg
open Go.ChangeShapes Go.WideShapes Go.ChangeAt Go.RowKit
set_option linter.unusedVariables false
set_option linter.unusedSimpArgs false
set_option maxRecDepth 100000
def aN (l : List MFn) : Nat := (l.map fun f => f.code.length).sum
def vC (c : List Ins) : Nat := (c.filter fun i => prog.vis i.op).length
def vN (l : List MFn) : Nat := (l.map fun f => vC f.code).sum
theorem take_snoc {α : Type} (l : List α) (k : Nat) (x : α) (h : l[k]? = some x) : l.take (k + 1) = l.take k ++ [x] := by
  obtain ⟨hk, rfl⟩ := List.getElem?_eq_some_iff.mp h
  exact List.take_succ_eq_append_getElem hk
theorem aN_snoc (l : List MFn) (k : Nat) (x : MFn) (h : l[k]? = some x) : aN (l.take (k + 1)) = aN (l.take k) + x.code.length := by
  rw [take_snoc l k x h]; simp [aN]
theorem vN_snoc (l : List MFn) (k : Nat) (x : MFn) (h : l[k]? = some x) : vN (l.take (k + 1)) = vN (l.take k) + vC x.code := by
  rw [take_snoc l k x h]; simp [vN]
theorem vC_snoc (l : List Ins) (k : Nat) (x : Ins) (h : l[k]? = some x) : vC (l.take (k + 1)) = vC (l.take k) + if prog.vis x.op = true then 1 else 0 := by
  rw [take_snoc l k x h]
  unfold vC
  rw [List.filter_append]
  by_cases hv : prog.vis x.op = true <;> simp [List.filter_cons, hv]
theorem vC_le (l : List Ins) : vC l ≤ l.length := List.length_filter_le _ _
theorem aN_le (l : List MFn) (k : Nat) (h : ∀ f ∈ l, f.code.length ≤ 64) : aN (l.take k) ≤ 64 * k := by
  induction l generalizing k with
  | nil => simp [aN]
  | cons x t ih =>
    cases k with
    | zero => simp [aN]
    | succ k =>
      have h1 := ih k fun f hf => h f (by simp [hf])
      have h2 := h x (by simp)
      have : aN ((x :: t).take (k + 1)) = x.code.length + aN (t.take k) := by simp [aN]
      omega
theorem vN_le (l : List MFn) (k : Nat) (h : ∀ f ∈ l, f.code.length ≤ 64) : vN (l.take k) ≤ 64 * k := by
  induction l generalizing k with
  | nil => simp [vN]
  | cons x t ih =>
    cases k with
    | zero => simp [vN]
    | succ k =>
      have h1 := ih k fun f hf => h f (by simp [hf])
      have h2 := h x (by simp)
      have h3 := vC_le x.code
      have : vN ((x :: t).take (k + 1)) = vC x.code + vN (t.take k) := by simp [vN]
      omega
theorem code_le {M : MPr} {ins : Pr → Fn → Ins → Int} (h : (chk ins M.pr).1 = 0) (f : MFn) (hf : f ∈ M.fns) : f.code.length ≤ 64 :=
  (chk_shaped h f.fn (by simp only [MPr.pr, List.mem_map]; exact ⟨f, hf, rfl⟩)).2.2.1.2
theorem fns_le {M : MPr} {ins : Pr → Fn → Ins → Int} (h : (chk ins M.pr).1 = 0) : M.fns.length ≤ 8 := by
  have := (sizes_ok (chk_sizes0 h)).2.2.2.2
  simpa [MPr.pr] using this
theorem ret_3 {a b c a' b' c' : Int} (h : (a, b, c) = (a', b', c')) : Ending.returned (.tuple #[.int .i64 a, .int .i64 b, .int .i64 c]) = .returned (.tuple #[.int .i64 a', .int .i64 b', .int .i64 c']) := by cases h; rfl
set_option maxHeartbeats 4000000 in
theorem count_any (M : MPr) (w : World) (hl : M.lies w) (hF : prog.Forms w) (hr : (chk insP M.pr).1 = 0) :
    Calls Tryd.prog 18 #[M.val] w fun e w' => e = .returned (.tuple #[.int .i64 (aN M.fns), .int .i64 (vN M.fns), .int .i64 0]) ∧ Below w.heap.size w w' := by
  obtain ⟨b, c, hc⟩ : ∃ b c, Hid (chk insP M.pr = (0, b, c)) := ⟨(chk insP M.pr).2.1, (chk insP M.pr).2.2, by show _ = _; rw [← hr]⟩
  have hb := boxed w (objP M)
  have hcall := check_any M _ (hl.later hb) (hF.later hb) 0 b c hc
  have hcl := code_le hr
  have hfl := fns_le hr
  have bP := boxP_new w M
  have hAt : M.fns.take M.fns.length = M.fns := List.take_length
  clear hr hc
  go_enter Tryd.func18, Tryd.ntmps18
  go_wp2_with (go_at_call 20; (with_reducible refine hcall.mono ?_); rintro e w2 ⟨rfl, hb2⟩; obtain ⟨p0, p1, p2, p3⟩ := bP.later hb2; (have hz2 : w.heap.size < w2.heap.size := (bP.later hb2).lt))
  have hb3 : Below w.heap.size w (w2.alloc (.cells #[.int .i64 b, .int .i64 c] 41)) := bthen (bthen hb hb2) (boxed _ _)
  clear p0 p1 p2 p3 hb2 bP hcall hb
  go_loopw [7, 8, 23] (fun a v i wr => ∃ k : Nat, k ≤ M.fns.length ∧ i = .int .i64 k ∧ a = .int .i64 (aN (M.fns.take k)) ∧ v = .int .i64 (vN (M.fns.take k)) ∧ Below w.heap.size w wr) (fun a v i _ => M.fns.length - (intOf i).toNat)
  case atStart => exact ⟨0, Nat.zero_le _, rfl, rfl, rfl, hb3⟩
  case round =>
    obtain ⟨k, hk, rfl, rfl, rfl, hbr⟩ := hrel
    have ha := aN_le M.fns k hcl
    have hv := vN_le M.fns k hcl
    by_cases hlt : k < M.fns.length
    · obtain ⟨x, hx, hm⟩ := get_lt M.fns k hlt
      have hLr := hl.later hbr
      obtain ⟨bb, o, hix, hbl, c0, c1, c2, c3⟩ := fn_ix hLr.2.2.1 k x hx
      have hxl := (hLr.2.2.2.2.2.2 x hm)
      have hxc := hcl x hm
      have hb4 : Below w.heap.size w (wr.alloc (objF x)) := bthen hbr (boxed _ _)
      have hsa := aN_snoc M.fns k x hx
      have hsv := vN_snoc M.fns k x hx
      generalize hA : aN (M.fns.take k) = A at *
      generalize hV : vN (M.fns.take k) = V at *
      clear hA hV
      have sA : Hid (aN (M.fns.take (k + 1)) = A + x.code.length) := hsa
      have sV : Hid (vN (M.fns.take (k + 1)) = V + vC x.code) := hsv
      have hAI : (A : Int) ≤ 512 := by omega
      have hVI : (V : Int) ≤ 512 := by omega
      have hcI : (x.code.length : Int) ≤ 64 := by omega
      clear hsa hsv ha hv
      go_wp2
      have hxl2 := (hLr.later (boxed wr (objF x))).2.2.2.2.2.2 x hm
      clear hLr hxl hix c0 c1 c2 c3 hbl
      generalize wr.alloc (objF x) = W1 at *
      go_loopw [8, 35] (fun v i wr => ∃ q : Nat, q ≤ x.code.length ∧ i = .int .i64 q ∧ v = .int .i64 ((V : Int) + (vC (x.code.take q) : Nat)) ∧ Below W1.heap.size W1 wr) (fun v i _ => x.code.length - (intOf i).toNat)
      case atStart => exact ⟨0, Nat.zero_le _, rfl, by simp [vC], Below.refl _ _⟩
      case round =>
        obtain ⟨q, hq, rfl, rfl, hbq⟩ := hrel
        have hb5 := bthen hb4 hbq
        by_cases hlq : q < x.code.length
        · obtain ⟨y, hy, hym⟩ := get_lt x.code q hlq
          have hxq := hxl2.later hbq
          obtain ⟨bb, o, hix, hbl, c0, c1, c2, c3, c4⟩ := ins_ix hxq.1 q y hy
          have hFq := (hF.later hb5).later (boxed wr (objI y))
          have hop := (hxq.2.2.1 y hym).1
          have hvq := vC_le (x.code.take q)
          have hvs : Hid (vC (x.code.take (q + 1)) = vC (x.code.take q) + if prog.vis y.op = true then 1 else 0) := vC_snoc x.code q y hy
          rw [List.length_take] at hvq
          generalize vC (x.code.take q) = N at *
          have hNI : (N : Int) ≤ 64 := by omega
          clear hxq
          obtain ⟨vb, hvb⟩ : ∃ vb, Hid (prog.vis y.op = vb) := ⟨_, rfl⟩
          have hcv := prog.visible_any y.op hop.1 hop.2 _ hFq vb hvb.out
          have hbx : Below W1.heap.size W1 (wr.alloc (objI y)) := bthen hbq (boxed _ _)
          cases vb with
          | true =>
            go_wp2_with (go_at_call 35; (with_reducible refine hcv.mono ?_); rintro e w' ⟨rfl, rfl⟩)
            go_roundw
            case rel => exact ⟨q + 1, by omega, by go_num, by rw [hvs.out, if_pos hvb.out]; go_num, hbx⟩
            case measure => simp [intOf]; omega
          | false =>
            go_wp2_with (go_at_call 35; (with_reducible refine hcv.mono ?_); rintro e w' ⟨rfl, rfl⟩)
            go_roundw
            case rel => exact ⟨q + 1, by omega, by go_num, by rw [hvs.out, if_neg (by rw [hvb.out]; decide)]; go_num, hbx⟩
            case measure => simp [intOf]; omega
        · have hq2 : q = x.code.length := by omega
          have hfull : vC (x.code.take q) = vC x.code := by rw [hq2, List.take_length]
          have hH : Hid (vC (x.code.take q) = vC x.code) := hfull
          clear hfull
          subst hq2
          go_wp2
          go_roundw
          case rel => exact ⟨k + 1, by omega, by go_num, by rw [sA.out]; go_num, by rw [sV.out, hH.out]; go_num, hb5⟩
          case measure => simp [intOf]; omega
    · have hk2 : k = M.fns.length := by omega
      subst hk2
      have e1 : Hid (aN (M.fns.take M.fns.length) = aN M.fns) := by show _ = _; rw [hAt]
      have e2 : Hid (vN (M.fns.take M.fns.length) = vN M.fns) := by show _ = _; rw [hAt]
      clear hAt
      go_wp2
      go_ret3
      exact ⟨ret_3 (by rw [e1.out, e2.out]), hbr⟩
end Go.Proofs.YtpcobaoiglhkkaaDoor.pg
