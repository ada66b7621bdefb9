/- The writer of package code: its bytes, and the contract of number. -/
import Derived.Test.YtonkcnaijcpfdaaGreatDoorM5
import Derived.Test.YtonkcnaijcpfdaaGreatDoorM7
import Derived.Test.YtonkcnaijcpfdaaGreatDoorM10
import Derived.Test.YtonkcnaijcpfdaaGreatDoorM4
namespace Go.Proofs.YtonkcnaijcpfdaaGreatDoor.pg
open Go.ChangeShapes Go.WideShapes Go.ChangeAt Go.RowKit
set_option linter.unusedVariables false
set_option linter.unusedSimpArgs false
set_option maxRecDepth 100000
abbrev u8c (b : Nat) : List Value := [.int .u8 ((b : Nat) : Int)]
/-- The bytes of a number. -/
def putB (x : Nat) : List Nat := (List.range (octet.szN x)).map (octet.gr x)
/-- The writer's block, and its bytes. -/
structure WSt (wr : World) (lo g : Nat) (oa : Option Addr) (oc : Nat) (out : List Nat) (s1 s2 s3 : Value) : Prop where
  bx : wr.heap[g]? = some (.cells #[.slice oa out.length oc, s1, s2, s3] 68 (0, 0))
  lg : lo ≤ g
  ow : OwnL wr lo 5 1 oa oc (out.map u8c)
theorem cf_any {P : Program} {f : FuncId} {fn : Func} (hf : P.funcs[f]? = some fn) (h1 : (fn.name == "runtime.NumGoroutine") = false) (h2 : fn.body.isSome = true) (args : Array Value) (w : World) : (callFunc f args).run P w = .ok (.enter f args) w := by
  have h3 : ¬ fn.name = "runtime.NumGoroutine" := by simpa using h1
  have h4 : ¬ fn.body = none := fun q => by rw [q] at h2; simp at h2
  simp [callFunc, go_sem, hf, h3, h4]
theorem cf_put (args : Array Value) (w : World) : (callFunc 83 args).run Tryz.prog w = .ok (.enter 83 args) w := cf_any Tryz.func83 (by kernel_rfl) (by kernel_rfl) args w
theorem infoB : (Tryz.prog.info? 5).map (fun i => (i.zero, i.size, i.bytes)) = some (some (.int .u8 0), 1, 1) := by kernel_rfl
theorem row_none (w : World) : octet.Row w none 0 (fun _ => 0) := ⟨by decide, fun _ => by show 0 < 256; decide, .inl rfl⟩
theorem putB_len (x : Nat) : (putB x).length = octet.szN x := by simp [putB]
theorem putB_flat (x : Nat) : ((putB x).map u8c).flatten = octet.bl (octet.cat (fun _ => 0) 0 (octet.gr x)) (octet.szN x) := by
  unfold putB octet.bl
  rw [List.map_map]
  induction (List.range (octet.szN x)) with
  | nil => rfl
  | cons a t ih => simp only [List.map_cons, List.flatten_cons, ih]; simp [octet.cat]
theorem owns_cell {w : World} {base e n g cap : Nat} {xs : List Value} (h : w.ownsRow base e 1 (.slice (some ⟨g, 0, none⟩) n cap) n xs) (j : Nat) (u : Value) (hj : xs[j]? = some u) : w.cell? ((⟨g, 0, none⟩ : Addr).add j) = some u := by
  rw [add_none, Nat.zero_add]
  rcases h.2 with ⟨q, _⟩ | ⟨g', cap', cur, q, hb, hg, h1, h2, h3, h4⟩
  · simp at q
  · simp only [Value.slice.injEq, Option.some.injEq, Addr.mk.injEq] at q
    obtain ⟨⟨rfl, _⟩, _, rfl⟩ := q
    refine whole_cell hg j u ?_
    rw [← h4, List.getElem?_take] at hj
    split at hj
    · simpa using hj
    · simp at hj
theorem u8_flat (l : List Nat) : (l.map u8c).flatten = l.map fun b : Nat => Value.int .u8 ((b : Nat) : Int) := by
  induction l with
  | nil => rfl
  | cons a t ih => simp only [List.map_cons, List.flatten_cons, ih]; rfl
theorem wst_box {w : World} {lo g : Nat} {oa : Option Addr} {oc : Nat} {out : List Nat} {s1 s2 s3 : Value} (st : WSt w lo g oa oc out s1 s2 s3) : g ∉ blk oa := fun hg => by
  rcases st.ow.2 with ⟨q, _⟩ | ⟨g', cap', cur, q, hb, hg', _⟩
  · simp only [Value.slice.injEq] at q; rw [q.1] at hg; simp [blk] at hg
  · simp only [Value.slice.injEq] at q
    rw [q.1] at hg
    simp only [blk, List.mem_singleton] at hg
    subst hg
    rw [st.bx] at hg'
    simp at hg'
/-- What is no bytes and no writer stays. -/
def Oth (w w' : World) : Prop := ∀ (b : Nat) (cs : Array Value) (t : TypeId) (fr : Nat × Nat), w.heap[b]? = some (Obj.cells cs t fr) → t ≠ 5 → t ≠ 68 → w'.heap[b]? = some (Obj.cells cs t fr)
theorem Oth.trans {a b c : World} (h : Oth a b) (k : Oth b c) : Oth a c := fun x cs t fr h1 h2 h3 => k x cs t fr (h x cs t fr h1 h2 h3) h2 h3
theorem Oth.of {w w' : World} (hb : Below w.heap.size w w') : Oth w w' := fun b cs t fr h _ _ => (hb.block b (Array.getElem?_eq_some_iff.mp h).1).trans h
/-- The bytes have grown, and the writer's block knows it. -/
theorem wst_grow {w w1 w2 : World} {lo g : Nat} {oa : Option Addr} {oc : Nat} {out ys : List Nat} {s1 s2 s3 v : Value} (st : WSt w lo g oa oc out s1 s2 s3) (hb1 : Below w.heap.size w w1) (hlo : lo ≤ w.heap.size)
    (ho : w2.ownsRow lo 5 1 v (out.length + ys.length) ((out.map u8c).flatten ++ (ys.map u8c).flatten)) (hgr : w1.grownBy w2 (Value.slice oa out.length oc).ownBlock) :
    ∃ oa' oc', v = .slice oa' (out.length + ys.length) oc' ∧ w2.heap[g]? = w.heap[g]? ∧ WSt (w2.setCell ⟨g, 0, none⟩ v) lo g oa' oc' (out ++ ys) s1 s2 s3 ∧ (Below lo w (w2.setCell ⟨g, 0, none⟩ v) ∧ Oth w (w2.setCell ⟨g, 0, none⟩ v)) := by
  have hgs : g < w.heap.size := (Array.getElem?_eq_some_iff.mp st.bx).1
  have hk1 : ∀ b, b < w1.heap.size → b ∉ blk oa → w2.heap[b]? = w1.heap[b]? := fun b hb hm => hgr.block b hb (fun q => hm ((ownBlock_blk oa out.length oc b).mp q.symm))
  have hg2 : w2.heap[g]? = w.heap[g]? := (hk1 g (by have := hb1.size; omega) (wst_box st)).trans (hb1.block g hgs)
  have hform : ∃ oa' oc', v = .slice oa' (out.length + ys.length) oc' := by
    rcases ho.2 with ⟨q, q2⟩ | ⟨g', cap', cur, q, _⟩
    · exact ⟨none, 0, by rw [q, q2]⟩
    · exact ⟨_, _, q⟩
  obtain ⟨oa', oc', rfl⟩ := hform
  have hO : OwnL w2 lo 5 1 oa' oc' ((out ++ ys).map u8c) := by
    show w2.ownsRow lo _ 1 (.slice oa' ((out ++ ys).map u8c).length oc') ((out ++ ys).map u8c).length ((out ++ ys).map u8c).flatten
    rw [List.length_map, List.length_append, List.map_append, List.flatten_append]
    exact ho
  have hbx2 := hg2.trans st.bx
  have hgn : g ∉ blk oa' := fun hg => by
    rcases hO.2 with ⟨q, _⟩ | ⟨g', cap', cur, q, hb, hg', _⟩
    · simp only [Value.slice.injEq] at q; rw [q.1] at hg; simp [blk] at hg
    · simp only [Value.slice.injEq] at q
      rw [q.1] at hg
      simp only [blk, List.mem_singleton] at hg
      subst hg
      rw [hbx2] at hg'
      simp at hg'
  have hlow : ∀ b, b < lo → b ∉ blk oa := fun b hb hm => by have := (blk_lt st.ow b hm).1; omega
  have hB2 : Below lo w w2 := ⟨hgr.os.trans hb1.os, hgr.tape.trans hb1.tape, hgr.output.trans hb1.output, Nat.le_trans hb1.size hgr.size, fun b hb => (hk1 b (by have := hb1.size; omega) (hlow b hb)).trans (hb1.block b (by omega))⟩
  refine ⟨oa', oc', rfl, hg2, ⟨?_, st.lg, own_keep hO fun b hb => heap_setCell_other _ _ _ _ (fun q => hgn (by rw [← show b = g from q]; exact hb))⟩, hB2.setCell st.lg _, fun b cs t fr h h5 hw => ?_⟩
  · rw [heap_setCell_same w2 g 0 _ _ _ hbx2, List.length_append]
    simp
  · have hbg : b ≠ g := fun q => by rw [q, st.bx] at h; simp only [Option.some.injEq, Obj.cells.injEq] at h; exact hw h.2.1.symm
    have hbo : b ∉ blk oa := fun hm => by
      rcases st.ow.2 with ⟨q, _⟩ | ⟨g', cap', cur, q, _, hg', _⟩
      · simp only [Value.slice.injEq] at q; rw [q.1] at hm; simp [blk] at hm
      · simp only [Value.slice.injEq] at q
        rw [q.1] at hm
        simp only [blk, List.mem_singleton] at hm
        subst hm
        rw [h] at hg'
        simp only [Option.some.injEq, Obj.cells.injEq] at hg'
        exact h5 hg'.2.1
    have hlt := (Array.getElem?_eq_some_iff.mp h).1
    exact (heap_setCell_other _ _ _ _ hbg).trans ((hk1 b (by have := hb1.size; omega) hbo).trans ((hb1.block b hlt).trans h))
theorem below_undrew {n : Nat} {w w' : World} (h : Below n w.drew w') : Below n w w' := ⟨h.os, h.tape, h.output, h.size, h.block⟩
set_option maxHeartbeats 4000000 in
theorem number_any (w : World) (lo g : Nat) (oa : Option Addr) (oc : Nat) (out : List Nat) (s1 s2 s3 : Value) (x : Nat) (st : WSt w lo g oa oc out s1 s2 s3) (hlo : lo ≤ w.heap.size) (hx : (x : Int) ≤ 9223372036854775807) (hn : out.length ≤ 1000000000) :
    Calls Tryz.prog 52 #[.pointer (some ⟨g, 0, none⟩), .int .i64 (x : Int)] w fun e w' => e = .returned (.tuple #[]) ∧ ∃ oa' oc', WSt w' lo g oa' oc' (out ++ putB x) s1 s2 s3 ∧ Below lo w w' ∧ Oth w w' := by
  have c0 := whole_cell st.bx 0 _ rfl
  have hgs : g < w.heap.size := (Array.getElem?_eq_some_iff.mp st.bx).1
  have fz := fun o => whole_frozen st.bx o
  have hxw : IntKind.u64.wrap (x : Int) = (x : Int) := by
    have : IntKind.u64.wrap (x : Int) = (x : Int) % 18446744073709551616 := by simp [IntKind.wrap, IntKind.signed, IntKind.bits]
    rw [this]; omega
  obtain ⟨i5, hi5, hz5, hs5, hb5⟩ := info_of infoB
  have hsb := octet.szN_bd x (by omega)
  have stH : Hid (WSt w lo g oa oc out s1 s2 s3) := st
  have howH : Hid (w.ownsRow lo 5 1 (.slice oa out.length oc) out.length (out.map u8c).flatten) := by have := st.ow; rw [show OwnL w lo 5 1 oa oc (out.map u8c) = w.ownsRow lo 5 1 (.slice oa (out.map u8c).length oc) (out.map u8c).length (out.map u8c).flatten from rfl, List.length_map] at this; exact this
  have hkeepo : ∀ w1, Below w.heap.size w w1 → w1.ownsRow lo 5 1 (.slice oa out.length oc) out.length (out.map u8c).flatten := fun w1 hb => by
    have := own_keep st.ow fun b hbb => hb.block b (blk_lt st.ow b hbb).2
    rw [show OwnL w1 lo 5 1 oa oc (out.map u8c) = w1.ownsRow lo 5 1 (.slice oa (out.map u8c).length oc) (out.map u8c).length (out.map u8c).flatten from rfl, List.length_map] at this; exact this
  have hkH : Hid (∀ w1, Below w.heap.size w w1 → w1.ownsRow lo 5 1 (.slice oa out.length oc) out.length (out.map u8c).flatten) := hkeepo
  clear st hkeepo howH
  go_enter Tryz.func52, Tryz.ntmps52
  go_wp2_with fail
  go_region_law (first
    | (refine step_call rfl 83 _ _ _ _ rfl (.slice none 0 0) (.int .u64 (x : Int)) rfl rfl (cf_put _ _) _ (octet.put_any none 0 0 (fun _ => 0) x (x : Int) _ (row_none _) (by omega) (by omega) rfl) ?_; (rintro e w1 ⟨rfl, ho1, hb1⟩); refine ⟨_, rfl, ?_⟩; (have hB1 : Below w.heap.size w w1 := below_undrew hb1); (have d0 := cell_later hB1 c0); (have dz : g < w1.heap.size := Nat.lt_of_lt_of_le hgs hB1.size))
    | (refine step_app rfl (.tmp 8) (.tmp 11) 28 rfl lo 5 i5 _ 1 1 Tryz.underlying28 hi5 hz5 hs5 hb5 rfl (by decide) (.slice oa out.length oc) out.length (out.map u8c).flatten rfl (hkH.out _ hB1) ⟨w.heap.size, 0, none⟩ (octet.szN x) (octet.szN x) ((putB x).map u8c).flatten rfl (by rw [putB_flat, octet.bl_length]; omega) (by rw [putB_flat]; simp only [Nat.zero_add] at ho1; exact owns_cell ho1) (by rw [u8_flat]; intro u hu; obtain ⟨b, _, rfl⟩ := List.mem_map.mp hu; rfl) (by unfold maxLen; omega) (by omega) (by have := hB1.size; omega) ?_; (intro v' w2 h2 h3 h5); (obtain ⟨oa', oc', rfl, hg2, st2, hb2⟩ := wst_grow (ys := putB x) stH.out hB1 hlo (by rw [putB_len]; simpa using h2) h3); (have f0 := whole_cell (hg2.trans stH.out.bx) 0 _ rfl); (have fzz := fun o => whole_frozen (hg2.trans stH.out.bx) o); (have f1 : g < w2.heap.size := (Array.getElem?_eq_some_iff.mp (hg2.trans stH.out.bx)).1)))
  all_goals go_wp2
  all_goals go_end0
  all_goals exact ⟨rfl, oa', oc', st2, hb2⟩
/-- The bytes of a number with a sign. -/
def sgnB (y : Int) : List Nat := putB (octet.zg y).toNat
theorem cf_putint (args : Array Value) (w : World) : (callFunc 111 args).run Tryz.prog w = .ok (.enter 111 args) w := cf_any Tryz.func111 (by kernel_rfl) (by kernel_rfl) args w
set_option maxHeartbeats 4000000 in
theorem signed_any (w : World) (lo g : Nat) (oa : Option Addr) (oc : Nat) (out : List Nat) (s1 s2 s3 : Value) (y : Int) (st : WSt w lo g oa oc out s1 s2 s3) (hlo : lo ≤ w.heap.size) (hy : I64 y) (hn : out.length ≤ 1000000000) :
    Calls Tryz.prog 82 #[.pointer (some ⟨g, 0, none⟩), .int .i64 y] w fun e w' => e = .returned (.tuple #[]) ∧ ∃ oa' oc', WSt w' lo g oa' oc' (out ++ sgnB y) s1 s2 s3 ∧ Below lo w w' ∧ Oth w w' := by
  have c0 := whole_cell st.bx 0 _ rfl
  have hgs : g < w.heap.size := (Array.getElem?_eq_some_iff.mp st.bx).1
  have fz := fun o => whole_frozen st.bx o
  obtain ⟨x, hx⟩ : ∃ x, Hid (x = (octet.zg y).toNat) := ⟨_, rfl⟩
  have hzb := octet.zg_bd y hy.1 hy.2
  have hxb : x < 18446744073709551616 := by rw [hx.out]; omega
  have hsgn : Hid (sgnB y = putB x) := by show _ = _; unfold sgnB; rw [hx.out]
  obtain ⟨i5, hi5, hz5, hs5, hb5⟩ := info_of infoB
  have hsb := octet.szN_bd x hxb
  have stH : Hid (WSt w lo g oa oc out s1 s2 s3) := st
  have howH : Hid (w.ownsRow lo 5 1 (.slice oa out.length oc) out.length (out.map u8c).flatten) := by have := st.ow; rw [show OwnL w lo 5 1 oa oc (out.map u8c) = w.ownsRow lo 5 1 (.slice oa (out.map u8c).length oc) (out.map u8c).length (out.map u8c).flatten from rfl, List.length_map] at this; exact this
  have hkeepo : ∀ w1, Below w.heap.size w w1 → w1.ownsRow lo 5 1 (.slice oa out.length oc) out.length (out.map u8c).flatten := fun w1 hb => by
    have := own_keep st.ow fun b hbb => hb.block b (blk_lt st.ow b hbb).2
    rw [show OwnL w1 lo 5 1 oa oc (out.map u8c) = w1.ownsRow lo 5 1 (.slice oa (out.map u8c).length oc) (out.map u8c).length (out.map u8c).flatten from rfl, List.length_map] at this; exact this
  have hkH : Hid (∀ w1, Below w.heap.size w w1 → w1.ownsRow lo 5 1 (.slice oa out.length oc) out.length (out.map u8c).flatten) := hkeepo
  clear st hkeepo howH
  go_enter Tryz.func82, Tryz.ntmps82
  go_wp2_with fail
  go_region_law (first
    | (refine step_call rfl 111 _ _ _ _ rfl (.slice none 0 0) (.int .i64 y) rfl rfl (cf_putint _ _) _ (octet.putint_any none 0 0 (fun _ => 0) y x _ (row_none _) (by omega) hy.1 hy.2 hx.out) ?_; (rintro e w1 ⟨rfl, ho1, hb1⟩); refine ⟨_, rfl, ?_⟩; (have hB1 : Below w.heap.size w w1 := below_undrew hb1); (have d0 := cell_later hB1 c0); (have dz : g < w1.heap.size := Nat.lt_of_lt_of_le hgs hB1.size))
    | (refine step_app rfl (.tmp 8) (.tmp 10) 28 rfl lo 5 i5 _ 1 1 Tryz.underlying28 hi5 hz5 hs5 hb5 rfl (by decide) (.slice oa out.length oc) out.length (out.map u8c).flatten rfl (hkH.out _ hB1) ⟨w.heap.size, 0, none⟩ (octet.szN x) (octet.szN x) ((putB x).map u8c).flatten rfl (by rw [putB_flat, octet.bl_length]; omega) (by rw [putB_flat]; simp only [Nat.zero_add] at ho1; exact owns_cell ho1) (by rw [u8_flat]; intro u hu; obtain ⟨b, _, rfl⟩ := List.mem_map.mp hu; rfl) (by unfold maxLen; omega) (by omega) (by have := hB1.size; omega) ?_; (intro v' w2 h2 h3 h5); (obtain ⟨oa', oc', rfl, hg2, st2, hb2⟩ := wst_grow (ys := putB x) stH.out hB1 hlo (by rw [putB_len]; simpa using h2) h3); (have f0 := whole_cell (hg2.trans stH.out.bx) 0 _ rfl); (have fzz := fun o => whole_frozen (hg2.trans stH.out.bx) o); (have f1 : g < w2.heap.size := (Array.getElem?_eq_some_iff.mp (hg2.trans stH.out.bx)).1)))
  all_goals go_wp2
  all_goals go_end0
  all_goals exact ⟨rfl, oa', oc', by rw [hsgn.out]; exact st2, hb2⟩
/-- A writer that has written so much. -/
def WOut (w : World) (lo g : Nat) (out : List Nat) (s1 s2 s3 : Value) : Prop := lo ≤ w.heap.size ∧ ∃ oa oc, WSt w lo g oa oc out s1 s2 s3
theorem WOut.later {w w' : World} {lo g : Nat} {out : List Nat} {s1 s2 s3 : Value} (h : WOut w lo g out s1 s2 s3) (hb : Below w.heap.size w w') : WOut w' lo g out s1 s2 s3 := by
  obtain ⟨hl, oa, oc, st⟩ := h
  exact ⟨Nat.le_trans hl hb.size, oa, oc, (hb.block g (Array.getElem?_eq_some_iff.mp st.bx).1).trans st.bx, st.lg, own_keep st.ow fun b hbb => hb.block b (blk_lt st.ow b hbb).2⟩
/-- A call that writes so much more. -/
def Wr (lo g : Nat) (s1 s2 s3 : Value) (f : FuncId) (args : Array Value) (w : World) (bs out : List Nat) : Prop :=
  Calls Tryz.prog f args w fun e w' => e = .returned (.tuple #[]) ∧ WOut w' lo g (out ++ bs) s1 s2 s3 ∧ Below lo w w' ∧ Oth w w'
theorem number_w {w : World} {lo g : Nat} {out : List Nat} {s1 s2 s3 : Value} (h : WOut w lo g out s1 s2 s3) (x : Nat) (hx : (x : Int) ≤ 9223372036854775807) (hn : out.length ≤ 1000000000) : Wr lo g s1 s2 s3 52 #[.pointer (some ⟨g, 0, none⟩), .int .i64 (x : Int)] w (putB x) out := by
  obtain ⟨hl, oa, oc, st⟩ := h
  exact (number_any w lo g oa oc out s1 s2 s3 x st hl hx hn).mono fun e w' ⟨he, oa', oc', st', hb⟩ => ⟨he, ⟨Nat.le_trans hl hb.1.size, oa', oc', st'⟩, hb⟩
theorem signed_w {w : World} {lo g : Nat} {out : List Nat} {s1 s2 s3 : Value} (h : WOut w lo g out s1 s2 s3) (y : Int) (hy : I64 y) (hn : out.length ≤ 1000000000) : Wr lo g s1 s2 s3 82 #[.pointer (some ⟨g, 0, none⟩), .int .i64 y] w (sgnB y) out := by
  obtain ⟨hl, oa, oc, st⟩ := h
  exact (signed_any w lo g oa oc out s1 s2 s3 y st hl hy hn).mono fun e w' ⟨he, oa', oc', st', hb⟩ => ⟨he, ⟨Nat.le_trans hl hb.1.size, oa', oc', st'⟩, hb⟩
def flagB (b : Bool) : List Nat := putB (if b then 1 else 0)
theorem flag_w {w : World} {lo g : Nat} {out : List Nat} {s1 s2 s3 : Value} (h : WOut w lo g out s1 s2 s3) (b : Bool) (hn : out.length ≤ 1000000000) : Wr lo g s1 s2 s3 81 #[.pointer (some ⟨g, 0, none⟩), .bool b] w (flagB b) out := by
  cases b with
  | true =>
    have c1 : Calls Tryz.prog 52 #[.pointer (some ⟨g, 0, none⟩), .int .i64 1] w _ := number_w h 1 (by decide) hn
    unfold Wr
    go_enter Tryz.func81, Tryz.ntmps81
    go_wp2_with (go_at_call 52; (with_reducible refine c1.mono ?_); rintro e w' ⟨rfl, h1, hb1⟩)
    go_end0
    exact ⟨rfl, h1, hb1⟩
  | false =>
    have c1 : Calls Tryz.prog 52 #[.pointer (some ⟨g, 0, none⟩), .int .i64 0] w _ := number_w h 0 (by decide) hn
    unfold Wr
    go_enter Tryz.func81, Tryz.ntmps81
    go_wp2_with (go_at_call 52; (with_reducible refine c1.mono ?_); rintro e w' ⟨rfl, h1, hb1⟩)
    go_end0
    exact ⟨rfl, h1, hb1⟩
end Go.Proofs.YtonkcnaijcpfdaaGreatDoor.pg
/- Where package prog's order and the document's own agree on what is right. -/
namespace Go.Proofs.YtonkcnaijcpfdaaGreatDoor.pg
set_option linter.unusedVariables false
theorem par_nonneg (P : Pr) (h : ∀ f ∈ P.fns, 0 ≤ f.params) (b : Int) : 0 ≤ P.par b := by
  unfold Pr.par
  split
  · rename_i f hf
    exact h f (List.mem_of_getElem? hf)
  · exact Int.le_refl 0
theorem room_iff (k c regs : Int) (h : 0 ≤ k) : roomP k c regs ↔ roomR k c regs := by
  unfold roomP roomR
  by_cases h0 : k = 0
  · subst h0
    simp
  · rw [if_neg h0]
    by_cases hc : c < 0
    · rw [if_pos hc]; constructor
      · exact fun q => q.elim
      · intro q; exact q (.inr ⟨by omega, .inl hc⟩)
    · rw [if_neg hc]; constructor
      · intro q; rintro (q' | q') <;> omega
      · intro q
        apply Classical.byContradiction
        intro q'
        exact q (.inr ⟨by omega, .inr (by omega)⟩)
theorem opndE_congr {r r' : Prop} [Decidable r] [Decidable r'] (h : r ↔ r') (P : Pr) (f : Fn) (l x : Int) : opndE r P f l x = opndE r' P f l x := by
  unfold opndE
  by_cases q : r
  · rw [if_pos q, if_pos (h.mp q)]
  · rw [if_neg q, if_neg (fun t => q (h.mpr t))]
theorem insE_congr {r r' : Prop} [Decidable r] [Decidable r'] (h : r ↔ r') (P : Pr) (f : Fn) (i : Ins) : insE r P f i = insE r' P f i := by
  unfold insE
  rw [opndE_congr h, opndE_congr h, opndE_congr h, opndE_congr h]
theorem ins_eq (P : Pr) (h : ∀ f ∈ P.fns, 0 ≤ f.params) (f : Fn) (i : Ins) : insP P f i = insR P f i := insE_congr (room_iff _ _ _ (par_nonneg P h i.b)) P f i
theorem fnE_congr {ins ins' : Pr → Fn → Ins → Int} {P : Pr} (h : ∀ f i, ins P f i = ins' P f i) (n : Nat) (f : Fn) : fnE ins P n f = fnE ins' P n f := by
  have : ins P f = ins' P f := funext fun i => h f i
  unfold fnE; rw [this]
theorem fnsE_congr {ins ins' : Pr → Fn → Ins → Int} {P : Pr} (h : ∀ f i, ins P f i = ins' P f i) (l : List Fn) (n : Nat) : fnsE ins P l n = fnsE ins' P l n := by
  induction l generalizing n with
  | nil => rfl
  | cons x t ih => simp only [fnsE]; rw [fnE_congr h, ih]
/-- Both tell the same of a program none of whose functions has fewer than no parameters. -/
theorem chk_eq (P : Pr) (h : ∀ f ∈ P.fns, 0 ≤ f.params) : chk insP P = chk insR P := by
  unfold chk; rw [fnsE_congr (ins_eq P h)]
theorem fnE_shaped {ins : Pr → Fn → Ins → Int} {P : Pr} {n : Nat} {f : Fn} (h : (fnE ins P n f).1 = 0) : shaped f ∧ (n = 0 → f.params = 0) := by
  apply Classical.byContradiction
  intro q
  unfold fnE at h
  rw [if_neg q] at h
  simp at h
theorem fnsE_each {ins : Pr → Fn → Ins → Int} {P : Pr} (l : List Fn) (j : Nat) (h : (fnsE ins P l j).1 = 0) : ∀ i f, l[i]? = some f → (fnE ins P (j + i) f).1 = 0 := by
  induction l generalizing j with
  | nil => intro i f hf; simp at hf
  | cons x t ih =>
    simp only [fnsE] at h
    by_cases hx : (fnE ins P j x).1 = 0
    · rw [if_pos hx] at h
      intro i f hf
      cases i with
      | zero => simp at hf; subst hf; rw [Nat.add_zero]; exact hx
      | succ i => simp at hf; have := ih (j + 1) h i f hf; rwa [show j + 1 + i = j + (i + 1) by omega] at this
    · rw [if_neg hx] at h; exact absurd h hx
theorem chk_sizes0 {ins : Pr → Fn → Ins → Int} {P : Pr} (h : (chk ins P).1 = 0) : sizesE P = 0 := by
  apply Classical.byContradiction
  intro q
  unfold chk at h
  rw [if_neg q] at h
  exact q h
theorem chk_each {ins : Pr → Fn → Ins → Int} {P : Pr} (h : (chk ins P).1 = 0) (i : Nat) (f : Fn) (hf : P.fns[i]? = some f) : (fnE ins P i f).1 = 0 := by
  have h0 := chk_sizes0 h
  unfold chk at h
  rw [if_pos h0] at h
  have := fnsE_each P.fns 0 h i f hf
  rwa [Nat.zero_add] at this
theorem chk_shaped {ins : Pr → Fn → Ins → Int} {P : Pr} (h : (chk ins P).1 = 0) (f : Fn) (hf : f ∈ P.fns) : shaped f := by
  obtain ⟨i, hi, rfl⟩ := List.getElem_of_mem hf
  exact (fnE_shaped (chk_each h i _ (List.getElem?_eq_getElem hi))).1
/-- A program is right. -/
def right (P : Pr) : Prop := (chk insP P).1 = 0
theorem right_iff (P : Pr) : (chk insP P).1 = 0 ↔ (chk insR P).1 = 0 := by
  constructor
  · intro h; rw [← chk_eq P (fun f hf => (chk_shaped h f hf).2.1.1)]; exact h
  · intro h; rw [chk_eq P (fun f hf => (chk_shaped h f hf).2.1.1)]; exact h
theorem sizes_ok {P : Pr} (h : sizesE P = 0) : P.vars.length ≤ 8 ∧ (0 ≤ P.locks ∧ P.locks ≤ 4) ∧ P.chans.length ≤ 4 ∧ (1 ≤ P.fns.length ∧ P.fns.length ≤ 8) := by
  apply Classical.byContradiction
  intro q
  unfold sizesE at h
  rw [if_neg q] at h
  simp at h
end Go.Proofs.YtonkcnaijcpfdaaGreatDoor.pg
/- Which registers an instruction reads and sets, as plain mathematics: by the letters of its form, and by the document's own table. -/
namespace Go.Proofs.YtonkcnaijcpfdaaGreatDoor.pg
set_option linter.unusedVariables false
set_option linter.unusedSimpArgs false
/-- The registers that are marked, rising, among the first k. -/
def upto (m : Nat → Bool) (k : Nat) : List Int := ((List.range k).filter m).map fun n : Nat => (n : Int)
theorem upto_yes {m : Nat → Bool} {k : Nat} (h : m k = true) : upto m (k + 1) = upto m k ++ [(k : Int)] := by simp [upto, List.range_succ, List.filter_append, h]
theorem upto_no {m : Nat → Bool} {k : Nat} (h : m k = false) : upto m (k + 1) = upto m k := by simp [upto, List.range_succ, List.filter_append, h]
theorem upto_len (m : Nat → Bool) (k : Nat) : (upto m k).length ≤ k := by
  unfold upto
  rw [List.length_map]
  exact Nat.le_trans (List.length_filter_le _ _) (by simp)
theorem upto_congr {m m' : Nat → Bool} {k : Nat} (h : ∀ n, n < k → m n = m' n) : upto m k = upto m' k := by
  unfold upto
  rw [List.filter_congr fun n hn => h n (List.mem_range.mp hn)]
theorem upto_mem {m : Nat → Bool} {k : Nat} {z : Int} (h : z ∈ upto m k) : ∃ n : Nat, z = n ∧ n < k ∧ m n = true := by
  unfold upto at h
  obtain ⟨n, hn, rfl⟩ := List.mem_map.mp h
  obtain ⟨h1, h2⟩ := List.mem_filter.mp hn
  exact ⟨n, rfl, List.mem_range.mp h1, h2⟩
theorem mem_upto {m : Nat → Bool} {k n : Nat} (h : n < k) (hm : m n = true) : (n : Int) ∈ upto m k :=
  List.mem_map.mpr ⟨n, List.mem_filter.mpr ⟨List.mem_range.mpr h, hm⟩, rfl⟩
theorem take_one {α : Type} (l : List α) (k : Nat) (x : α) (h : l[k]? = some x) : l.take (k + 1) = l.take k ++ [x] := by
  obtain ⟨hk, rfl⟩ := List.getElem?_eq_some_iff.mp h
  exact List.take_succ_eq_append_getElem hk
/-- Marked: what a list has. -/
def inl (l : List Int) : Nat → Bool := fun n => decide ((n : Int) ∈ l)
theorem inl_nil (n : Nat) : inl [] n = false := by simp [inl]
theorem inl_snoc (l : List Int) (x : Int) (n : Nat) : inl (l ++ [x]) n = (inl l n || decide ((n : Int) = x)) := by
  simp [inl]
theorem inl_congr {l l' : List Int} {k : Nat} (h : ∀ n : Nat, n < k → ((n : Int) ∈ l ↔ (n : Int) ∈ l')) : upto (inl l) k = upto (inl l') k :=
  upto_congr fun n hn => by unfold inl; exact decide_eq_decide.mpr (h n hn)
abbrev firstSet (op : Int) : Prop := ¬ (op = 43 ∨ op = 44 ∨ op = 63 ∨ op = 65)
def Fn.sends (f : Fn) (x : Int) : List Int := match f.sels[x.toNat]? with | some s => (s.cases.filter fun c => c.send).map Cas.reg | none => []
def Fn.takes (f : Fn) (x : Int) : List Int := match f.sels[x.toNat]? with | some s => (s.cases.filter fun c => !c.send && decide (c.reg ≠ -1)).map Cas.reg | none => []
def Fn.takesR (f : Fn) (x : Int) : List Int := match f.sels[x.toNat]? with | some s => (s.cases.filter fun c => !c.send).map Cas.reg | none => []
def from_ (c : Int) (k : Nat) : List Int := (List.range k).map fun n : Nat => c + (n : Int)
theorem from_snoc (c : Int) (j : Nat) : from_ c (j + 1) = from_ c j ++ [c + (j : Int)] := by simp [from_, List.range_succ]
/-- What one operand's letter adds. -/
def tstep (P : Pr) (f : Fn) (i : Ins) (k : Nat) (q : List Int × List Int) : List Int × List Int :=
  if lt i.op k = 114 then (if k = 0 ∧ firstSet i.op then (q.1, q.2 ++ [i.x k]) else (q.1 ++ [i.x k], q.2)) else
  if lt i.op k = 119 then (q.1 ++ [i.x k], q.2) else
  if lt i.op k = 111 then (if i.x k = -1 then q else (q.1, q.2 ++ [i.x k])) else
  if lt i.op k = 112 then (q.1 ++ from_ i.c (P.par i.b).toNat, q.2) else
  if lt i.op k = 115 then (f.sends (i.x k), f.takes (i.x k)) else q
def touchTo (P : Pr) (f : Fn) (i : Ins) : Nat → List Int × List Int
  | 0 => ([], [])
  | k + 1 => tstep P f i k (touchTo P f i k)
/-- The document's own lists. -/
def rdL (P : Pr) (f : Fn) (i : Ins) : List Int :=
  if i.op ≤ 15 ∨ i.op = 41 then [i.b] else if i.op ≤ 36 then [i.b, i.c] else if i.op = 43 ∨ i.op = 44 ∨ i.op = 63 ∨ i.op = 65 then [i.a] else
  if i.op = 51 ∨ i.op = 54 ∨ i.op = 58 then [i.b] else if i.op = 52 then [i.c] else if i.op = 53 then [i.c, i.n] else if i.op = 61 then f.sends i.a else if i.op = 62 then from_ i.c (P.par i.b).toNat else []
def stL (f : Fn) (i : Ins) : List Int :=
  if i.op ≤ 41 ∨ i.op = 50 ∨ i.op = 52 ∨ i.op = 53 ∨ i.op = 57 ∨ i.op = 62 then [i.a] else if i.op = 59 then [i.a, i.c] else if i.op = 61 then f.takesR i.a else []
/-- The operations. -/
theorem ops_of {op : Int} (h : known op) : (1 ≤ op ∧ op ≤ 15) ∨ (16 ≤ op ∧ op ≤ 36) ∨ op = 40 ∨ op = 41 ∨ op = 42 ∨ op = 43 ∨ op = 44 ∨ op = 45 ∨ op = 50 ∨ op = 51 ∨ op = 52 ∨ op = 53 ∨ op = 54 ∨ op = 55 ∨ op = 56 ∨ op = 57 ∨ op = 58 ∨ op = 59 ∨ op = 60 ∨ op = 61 ∨ op = 62 ∨ op = 63 ∨ op = 64 ∨ op = 65 := by
  apply Classical.byContradiction
  intro q
  apply h
  unfold formOf
  repeat rw [if_neg (by omega)]
theorem lt_one {op : Int} (h : 1 ≤ op ∧ op ≤ 15) : lt op 0 = 114 ∧ lt op 1 = 114 ∧ lt op 2 = 45 ∧ lt op 3 = 45 := by simp [lt, formOf, h]
theorem lt_two {op : Int} (h : 16 ≤ op ∧ op ≤ 36) : lt op 0 = 114 ∧ lt op 1 = 114 ∧ lt op 2 = 114 ∧ lt op 3 = 45 := by
  have : ¬ op ≤ 15 := by omega
  simp [lt, formOf, h, this]
theorem takes_mem (f : Fn) (x : Int) (n : Nat) : (n : Int) ∈ f.takes x ↔ (n : Int) ∈ f.takesR x := by
  unfold Fn.takes Fn.takesR
  split
  · simp only [List.mem_map, List.mem_filter]
    constructor
    · rintro ⟨c, ⟨h1, h2⟩, h3⟩
      exact ⟨c, ⟨h1, by simp at h2; simp [h2.1]⟩, h3⟩
    · rintro ⟨c, ⟨h1, h2⟩, h3⟩
      refine ⟨c, ⟨h1, ?_⟩, h3⟩
      have : c.reg ≠ -1 := by omega
      simp at h2
      simp [h2, this]
  · exact Iff.rfl
set_option maxHeartbeats 2000000 in
/-- By the letters and by the document's own table: the same registers. -/
theorem touch_agree (P : Pr) (f : Fn) (i : Ins) (h : known i.op) : ∀ n : Nat, ((n : Int) ∈ (touchTo P f i 4).1 ↔ (n : Int) ∈ rdL P f i) ∧ ((n : Int) ∈ (touchTo P f i 4).2 ↔ (n : Int) ∈ stL f i) := by
  intro n
  have hn : ∀ z : Int, z = -1 → ¬ (n : Int) = z := by intro z hz; omega
  rcases ops_of h with h | h | h | h | h | h | h | h | h | h | h | h | h | h | h | h | h | h | h | h | h | h | h | h
  · obtain ⟨l0, l1, l2, l3⟩ := lt_one h
    have e : firstSet i.op := by unfold firstSet; omega
    simp only [touchTo, tstep, l0, l1, l2, l3, if_pos (And.intro rfl e), rdL, stL, Ins.x, show i.op ≤ 15 from h.2, show i.op ≤ 41 by omega]
    simp [show ¬ i.op = 43 by omega, show ¬ i.op = 44 by omega, show ¬ i.op = 63 by omega, show ¬ i.op = 65 by omega]
  · obtain ⟨l0, l1, l2, l3⟩ := lt_two h
    have e : firstSet i.op := by unfold firstSet; omega
    simp only [touchTo, tstep, l0, l1, l2, l3, if_pos (And.intro rfl e), rdL, stL, Ins.x, show ¬ i.op ≤ 15 by omega, show ¬ i.op = 41 by omega, show i.op ≤ 36 from h.2, show i.op ≤ 41 by omega]
    simp [show ¬ i.op = 43 by omega, show ¬ i.op = 44 by omega, show ¬ i.op = 63 by omega, show ¬ i.op = 65 by omega]
  all_goals (simp [touchTo, tstep, lt, formOf, h, firstSet, rdL, stL, Ins.x])
  · by_cases ha : i.a = -1 <;> simp [ha, hn]
  · by_cases ha : i.a = -1 <;> by_cases hc : i.c = -1 <;> simp [ha, hc, hn]
  · exact takes_mem f i.a n
  · by_cases ha : i.a = -1 <;> simp [ha, hn]
theorem upto_count (m : Nat → Bool) (k : Nat) : (upto m k).length = (List.range k).countP m := by
  unfold upto; rw [List.length_map, List.countP_eq_length_filter]
theorem count_at (x : Int) (k : Nat) : (List.range k).countP (fun n : Nat => decide ((n : Int) = x)) = if 0 ≤ x ∧ x < k then 1 else 0 := by
  induction k with
  | zero => simp
  | succ k ih =>
    rw [List.range_succ, List.countP_append, ih]
    by_cases h : (k : Int) = x
    · rw [if_neg (by omega), if_pos (by omega)]; simp [h]
    · by_cases h2 : 0 ≤ x ∧ x < k
      · rw [if_pos h2, if_pos (by omega)]; simp [h]
      · rw [if_neg h2, if_neg (by omega)]; simp [h]
theorem count_or (p q : Nat → Bool) (l : List Nat) : l.countP (fun n => p n || q n) ≤ l.countP p + l.countP q := by
  induction l with
  | nil => simp
  | cons x t ih =>
    rw [List.countP_cons, List.countP_cons, List.countP_cons]
    cases p x <;> cases q x <;> simp <;> omega
theorem inl_cons (x : Int) (l : List Int) (n : Nat) : inl (x :: l) n = (decide ((n : Int) = x) || inl l n) := by
  simp [inl]
theorem upto_inl_len (l : List Int) (k : Nat) : (upto (inl l) k).length ≤ l.length := by
  rw [upto_count]
  induction l with
  | nil => simp [inl]
  | cons x t ih =>
    have h1 : inl (x :: t) = fun n : Nat => decide ((n : Int) = x) || inl t n := funext fun n => inl_cons x t n
    rw [h1]
    have h2 : (List.range k).countP (fun n : Nat => decide ((n : Int) = x) || inl t n) ≤ _ := count_or (fun n : Nat => decide ((n : Int) = x)) (inl t) (List.range k)
    rw [count_at] at h2
    rw [List.length_cons]
    split at h2 <;> omega
theorem upto_pos {l : List Int} {k : Nat} {x : Int} (h : x ∈ l) (h0 : 0 ≤ x) (hk : x < k) : 0 < (upto (inl l) k).length := by
  have : ((x.toNat : Nat) : Int) ∈ upto (inl l) k := mem_upto (by omega) (by unfold inl; rw [decide_eq_true_iff]; rw [Int.toNat_of_nonneg h0]; exact h)
  exact List.length_pos_of_mem this
/-- Rising. -/
theorem upto_rise (m : Nat → Bool) (k : Nat) : (upto m k).Pairwise (· < ·) := by
  unfold upto
  refine List.Pairwise.map _ (fun a b h => ?_) ((List.Pairwise.filter _ List.pairwise_lt_range))
  exact Int.ofNat_lt.mpr h
/-- How many operands are registers. -/
def isR (op : Int) (k : Nat) : Nat := if lt op k = 114 ∨ lt op k = 119 then 1 else 0
def regsN (op : Int) : Nat → Nat
  | 0 => 0
  | k + 1 => regsN op k + isR op k
set_option maxHeartbeats 2000000 in
theorem touch_few (P : Pr) (f : Fn) (i : Ins) (h : known i.op) (h1 : i.op ≠ 61) (h2 : i.op ≠ 62) : (touchTo P f i 4).1.length + (touchTo P f i 4).2.length ≤ regsN i.op 4 + 2 := by
  rcases ops_of h with h | h | h | h | h | h | h | h | h | h | h | h | h | h | h | h | h | h | h | h | h | h | h | h
  · obtain ⟨l0, l1, l2, l3⟩ := lt_one h
    simp only [touchTo, tstep, l0, l1, l2, l3, regsN, isR, Ins.x]
    simp [show ¬ i.op = 43 by omega, show ¬ i.op = 44 by omega, show ¬ i.op = 63 by omega, show ¬ i.op = 65 by omega]
  · obtain ⟨l0, l1, l2, l3⟩ := lt_two h
    simp only [touchTo, tstep, l0, l1, l2, l3, regsN, isR, Ins.x]
    simp [show ¬ i.op = 43 by omega, show ¬ i.op = 44 by omega, show ¬ i.op = 63 by omega, show ¬ i.op = 65 by omega]
  all_goals (simp [touchTo, tstep, lt, formOf, h, firstSet, regsN, isR, Ins.x] at *)
  all_goals (by_cases ha : i.a = -1 <;> by_cases hc : i.c = -1 <;> simp [ha, hc])
/-- The operands' letters of a right instruction. -/
theorem ins_known {r : Prop} [Decidable r] {P : Pr} {f : Fn} {i : Ins} (h : insE r P f i = 0) : known i.op := by
  apply Classical.byContradiction
  intro q
  unfold insE at h
  rw [if_neg q] at h
  simp at h
theorem fst4_zero {a b c d : Int} (h : fst4 a b c d = 0) : a = 0 ∧ b = 0 ∧ c = 0 ∧ d = 0 := by
  unfold fst4 at h
  split at h
  · rename_i h1
    split at h
    · rename_i h2
      split at h
      · rename_i h3; exact ⟨h1, h2, h3, h⟩
      · rename_i h3; exact absurd h h3
    · rename_i h2; exact absurd h h2
  · rename_i h1; exact absurd h h1
theorem ins_opnds {r : Prop} [Decidable r] {P : Pr} {f : Fn} {i : Ins} (h : insE r P f i = 0) : ∀ k, k < 4 → opndE r P f (lt i.op k) (i.x k) = 0 := by
  have hk := ins_known h
  unfold insE at h
  rw [if_pos hk] at h
  by_cases hu : unused i
  · rw [if_pos hu] at h; simp at h
  · rw [if_neg hu] at h
    obtain ⟨h0, h1, h2, h3⟩ := fst4_zero h
    intro k hk4
    have : k = 0 ∨ k = 1 ∨ k = 2 ∨ k = 3 := by omega
    rcases this with rfl | rfl | rfl | rfl
    · exact h0
    · exact h1
    · exact h2
    · exact h3
theorem opnd_r {r : Prop} [Decidable r] {P : Pr} {f : Fn} {l x : Int} (h : opndE r P f l x = 0) (hl : l = 114 ∨ l = 119) : inR x f.regs := by
  apply Classical.byContradiction
  intro q
  unfold opndE at h
  rw [if_neg (by omega), if_pos (by omega), if_neg q] at h
  simp at h
theorem opnd_o {r : Prop} [Decidable r] {P : Pr} {f : Fn} {x : Int} (h : opndE r P f 111 x = 0) : x = -1 ∨ inR x f.regs := by
  by_cases hx : x = -1
  · exact .inl hx
  · refine .inr (Classical.byContradiction fun q => ?_)
    unfold opndE at h
    rw [if_neg (by omega), if_pos (by omega), if_neg q] at h
    simp at h
theorem opnd_p {r : Prop} [Decidable r] {P : Pr} {f : Fn} {x : Int} (h : opndE r P f 112 x = 0) : r := by
  apply Classical.byContradiction
  intro q
  unfold opndE at h
  rw [if_neg (by omega), if_neg (by omega), if_pos rfl, if_neg q] at h
  simp at h
theorem opnd_s {r : Prop} [Decidable r] {P : Pr} {f : Fn} {x : Int} (h : opndE r P f 115 x = 0) : inR x f.sels.length := by
  apply Classical.byContradiction
  intro q
  unfold opndE at h
  simp [q] at h
theorem opnd_f {r : Prop} [Decidable r] {P : Pr} {f : Fn} {x : Int} (h : opndE r P f 102 x = 0) : inR x P.fns.length := by
  apply Classical.byContradiction
  intro q
  unfold opndE at h
  simp [q] at h
theorem opnd_t {r : Prop} [Decidable r] {P : Pr} {f : Fn} {x : Int} (h : opndE r P f 116 x = 0) : inR x f.code.length := by
  apply Classical.byContradiction
  intro q
  unfold opndE at h
  simp [q] at h
theorem room_from {k c regs : Int} (h : roomP k c regs) (hk : 0 ≤ k) : (k = 0 ∧ c = 0) ∨ 0 ≤ c ∧ c + k ≤ regs := by
  unfold roomP at h
  by_cases h0 : k = 0
  · rw [if_pos h0] at h; exact .inl ⟨h0, h⟩
  · rw [if_neg h0] at h
    by_cases hc : c < 0
    · rw [if_pos hc] at h; exact h.elim
    · rw [if_neg hc] at h; exact .inr ⟨by omega, h⟩
theorem cas_reg {P : Pr} {f : Fn} {c : Cas} (h : casE P f c = 0) : inR c.reg f.regs ∨ c.reg = -1 ∧ c.send = false := by
  apply Classical.byContradiction
  intro q
  unfold casE at h
  by_cases h1 : inR c.ch P.chans.length
  · rw [if_pos h1, if_neg q] at h; simp at h
  · rw [if_neg h1] at h; simp at h
theorem cas_to {P : Pr} {f : Fn} {c : Cas} (h : casE P f c = 0) : inR c.to f.code.length ∧ inR c.ch P.chans.length := by
  unfold casE at h
  by_cases h1 : inR c.ch P.chans.length
  · rw [if_pos h1] at h
    by_cases h2 : inR c.reg f.regs ∨ c.reg = -1 ∧ c.send = false
    · rw [if_pos h2] at h
      by_cases h3 : c.send = true ∧ P.room c.ch = 0
      · rw [if_pos h3] at h; simp at h
      · rw [if_neg h3] at h
        by_cases h4 : inR c.to f.code.length
        · exact ⟨h4, h1⟩
        · rw [if_neg h4] at h; simp at h
    · rw [if_neg h2] at h; simp at h
  · rw [if_neg h1] at h; simp at h
theorem sel_els {P : Pr} {f : Fn} {s : Sel} (h : selE P f s = 0) : (∀ c ∈ s.cases, casE P f c = 0) ∧ (s.els = -1 ∨ inR s.els f.code.length) := by
  unfold selE at h
  by_cases h1 : firstE (casE P f) s.cases = 0
  · rw [if_pos h1] at h
    refine ⟨(firstE_iff _ _).mp h1, ?_⟩
    apply Classical.byContradiction
    intro q
    rw [if_neg q] at h
    simp at h
  · rw [if_neg h1] at h; exact absurd h h1
/-- A right function's parts. -/
theorem fn_parts {ins : Pr → Fn → Ins → Int} {P : Pr} {n : Nat} {f : Fn} (h : (fnE ins P n f).1 = 0) : (∀ s ∈ f.sels, selE P f s = 0) ∧ (∀ i ∈ f.code, ins P f i = 0) ∧ ends (lastOp f) := by
  have hs := fnE_shaped h
  unfold fnE at h
  rw [if_pos hs] at h
  by_cases h1 : firstE (selE P f) f.sels = 0
  · rw [if_pos h1] at h
    by_cases h2 : firstE (ins P f) f.code = 0
    · rw [if_pos h2] at h
      refine ⟨(firstE_iff _ _).mp h1, (firstE_iff _ _).mp h2, ?_⟩
      apply Classical.byContradiction
      intro q
      rw [if_neg q] at h
      simp at h
    · rw [if_neg h2] at h
      simp only [firstAt_fst] at h
      exact absurd h h2
  · rw [if_neg h1] at h; exact absurd h h1
theorem chk_parts {ins : Pr → Fn → Ins → Int} {P : Pr} (h : (chk ins P).1 = 0) (f : Fn) (hf : f ∈ P.fns) : (∀ s ∈ f.sels, selE P f s = 0) ∧ (∀ i ∈ f.code, ins P f i = 0) ∧ ends (lastOp f) := by
  obtain ⟨i, hi, rfl⟩ := List.getElem_of_mem hf
  exact fn_parts (chk_each h i _ (List.getElem?_eq_getElem hi))
end Go.Proofs.YtonkcnaijcpfdaaGreatDoor.pg
