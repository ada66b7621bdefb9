/- The writer of package code: an instruction. -/
import Derived.Test.YtonkcnaijcpfdaaGreatDoorM12
namespace Go.Proofs.YtonkcnaijcpfdaaGreatDoor.pg
open Go.ChangeShapes Go.WideShapes Go.ChangeAt Go.RowKit
set_option linter.unusedVariables false
set_option linter.unusedSimpArgs false
set_option maxRecDepth 100000
/-- Where an instruction stands. -/
structure Spn where
  f : Int
  pc : Int
  fr : Int
  bh : Int
def Spn.cells (s : Spn) : List Value := [.int .i64 s.f, .int .i64 s.pc, .int .i64 s.fr, .int .i64 s.bh]
def Sp (w : World) (lo : Nat) (s1 : Value) (sp : List Spn) : Prop := ∃ sa sc, s1 = .slice sa sp.length sc ∧ OwnL w lo 73 4 sa sc (sp.map Spn.cells)
theorem Sp.keep {w w' : World} {lo : Nat} {s1 : Value} {sp : List Spn} (h : Sp w lo s1 sp) (ho : Oth w w') : Sp w' lo s1 sp := by
  obtain ⟨sa, sc, he, hO⟩ := h
  refine ⟨sa, sc, he, own_keep hO fun b hb => ?_⟩
  rcases hO.2 with ⟨q, _⟩ | ⟨g', cap', cur, q, _, hg', _⟩
  · simp only [Value.slice.injEq] at q; rw [q.1] at hb; simp [blk] at hb
  · simp only [Value.slice.injEq] at q
    rw [q.1] at hb
    simp only [blk, List.mem_singleton] at hb
    subst hb
    rw [hg']
    exact ho b cur _ _ hg' (by decide) (by decide)
/-- The bytes of an operand, of an instruction. -/
def opB (op : Int) (k : Nat) (x : Int) : List Nat := if lt op k = 45 then [] else if lt op k = 111 then putB (x + 1).toNat else if lt op k = 110 then sgnB x else putB x.toNat
def insTo (i : Ins) : Nat → List Nat
  | 0 => putB i.op.toNat
  | k + 1 => insTo i k ++ opB i.op k (i.x k)
def insB (i : Ins) : List Nat := insTo i 4
abbrev opOk (i : Ins) (k : Nat) : Prop := lt i.op k = 45 ∨ (lt i.op k = 111 ∧ -1 ≤ i.x k ∧ i.x k ≤ 1000) ∨ (lt i.op k = 110 ∧ I64 (i.x k)) ∨ (¬ lt i.op k = 45 ∧ ¬ lt i.op k = 111 ∧ ¬ lt i.op k = 110 ∧ 0 ≤ i.x k ∧ i.x k ≤ 1000000)
theorem insTo_len (i : Ins) (k : Nat) (h : k ≤ 4) : (insTo i k).length ≤ (insB i).length := by
  have h1 : ∀ j, (insTo i j).length ≤ (insTo i (j + 1)).length := fun j => by simp only [insTo, List.length_append]; omega
  have : k = 0 ∨ k = 1 ∨ k = 2 ∨ k = 3 ∨ k = 4 := by omega
  have a : (insTo i 0).length ≤ (insTo i 1).length := h1 0
  have b : (insTo i 1).length ≤ (insTo i 2).length := h1 1
  have c : (insTo i 2).length ≤ (insTo i 3).length := h1 2
  have d : (insTo i 3).length ≤ (insTo i 4).length := h1 3
  unfold insB
  rcases this with rfl | rfl | rfl | rfl | rfl <;> omega
theorem four_ix (i : Ins) (k : Nat) (hk : k < 4) : ∀ wx, (Instr.index 153 (.agg #[.int .i64 i.a, .int .i64 i.b, .int .i64 i.c, .int .i64 i.n]) (.int .i64 (k : Int))).run Tryz.prog wx = .ok (.int .i64 (i.x k)) wx := by
  intro wx
  have hk4 : k = 0 ∨ k = 1 ∨ k = 2 ∨ k = 3 := by omega
  have h := Tryz.underlying153
  rcases hk4 with rfl | rfl | rfl | rfl
  all_goals simp [Instr.index, run_underlying h, asIntOf, go_sem, Ins.x]
/-- What is no bytes, no writer and no span stays. -/
def OthS (w w' : World) : Prop := ∀ (b : Nat) (cs : Array Value) (t : TypeId) (fr : Nat × Nat), w.heap[b]? = some (Obj.cells cs t fr) → t ≠ 5 → t ≠ 68 → t ≠ 73 → w'.heap[b]? = some (Obj.cells cs t fr)
theorem OthS.trans {a b c : World} (h : OthS a b) (k : OthS b c) : OthS a c := fun x cs t fr h1 h2 h3 h4 => k x cs t fr (h x cs t fr h1 h2 h3 h4) h2 h3 h4
theorem Oth.s {a b : World} (h : Oth a b) : OthS a b := fun x cs t fr h1 h2 h3 _ => h x cs t fr h1 h2 h3
theorem infoSp : (Tryz.prog.info? 73).map (fun i => (i.zero, i.size, i.bytes)) = some (some (.agg #[.int .i64 0, .int .i64 0, .int .i64 0, .int .i64 0]), 4, 32) := by kernel_rfl
theorem tag_of {w : World} {lo e k : Nat} {a : Option Addr} {cap : Nat} {L : List (List Value)} (h : OwnL w lo e k a cap L) {b : Nat} (hb : b ∈ blk a) : ∃ cur, w.heap[b]? = some (Obj.cells cur e (0, 0)) := by
  rcases h.2 with ⟨q, _⟩ | ⟨g', cap', cur, q, _, hg', _⟩
  · simp only [Value.slice.injEq] at q; rw [q.1] at hb; simp [blk] at hb
  · simp only [Value.slice.injEq] at q
    rw [q.1] at hb
    simp only [blk, List.mem_singleton] at hb
    subst hb
    exact ⟨cur, hg'⟩
/-- A span more, and the writer's block knows it. -/
theorem sp_grow {w w1 w2 : World} {lo g : Nat} {oa sa : Option Addr} {oc sc : Nat} {out : List Nat} {sp : List Spn} {x : Spn} {s2 s3 s4 v : Value} (st : WSt w lo g oa oc out (.slice sa sp.length sc) s2 s3) (hS : OwnL w lo 73 4 sa sc (sp.map Spn.cells)) (hb1 : Below w.heap.size w w1) (hlo : lo ≤ w.heap.size)
    (ho : w2.ownsRow lo 73 4 v (sp.length + 1) ((sp.map Spn.cells).flatten ++ x.cells)) (hgr : w1.grownBy w2 (Value.slice sa sp.length sc).ownBlock) :
    ∃ sa' sc', v = .slice sa' (sp.length + 1) sc' ∧ w2.heap[g]? = w.heap[g]? ∧ WOut ((w2.setCell ⟨g, 1, none⟩ v).setCell ⟨g, 3, none⟩ s4) lo g out v s2 s4 ∧ Sp ((w2.setCell ⟨g, 1, none⟩ v).setCell ⟨g, 3, none⟩ s4) lo v (sp ++ [x]) ∧ (Below lo w ((w2.setCell ⟨g, 1, none⟩ v).setCell ⟨g, 3, none⟩ s4) ∧ OthS w ((w2.setCell ⟨g, 1, none⟩ v).setCell ⟨g, 3, none⟩ s4)) := by
  have hgs : g < w.heap.size := (Array.getElem?_eq_some_iff.mp st.bx).1
  have hgsa : g ∉ blk sa := fun hm => by obtain ⟨cur, h⟩ := tag_of hS hm; rw [st.bx] at h; simp at h
  have hk1 : ∀ b, b < w1.heap.size → b ∉ blk sa → w2.heap[b]? = w1.heap[b]? := fun b hb hm => hgr.block b hb (fun q => hm ((ownBlock_blk sa sp.length sc b).mp q.symm))
  have hg2 : w2.heap[g]? = w.heap[g]? := (hk1 g (by have := hb1.size; omega) hgsa).trans (hb1.block g hgs)
  have hform : ∃ sa' sc', v = .slice sa' (sp.length + 1) sc' := by
    rcases ho.2 with ⟨q, q2⟩ | ⟨g', cap', cur, q, _⟩
    · exact ⟨none, 0, by rw [q, q2]⟩
    · exact ⟨_, _, q⟩
  obtain ⟨sa', sc', rfl⟩ := hform
  have hO : OwnL w2 lo 73 4 sa' sc' ((sp ++ [x]).map Spn.cells) := by
    show w2.ownsRow lo _ 4 (.slice sa' ((sp ++ [x]).map Spn.cells).length sc') ((sp ++ [x]).map Spn.cells).length ((sp ++ [x]).map Spn.cells).flatten
    rw [List.length_map, List.length_append, List.map_append, List.flatten_append]
    simpa using ho
  have hbx2 := hg2.trans st.bx
  have hgn : g ∉ blk sa' := fun hm => by obtain ⟨cur, h⟩ := tag_of hO hm; rw [hbx2] at h; simp at h
  have hgo : g ∉ blk oa := wst_box st
  have hoa : OwnL w2 lo 5 1 oa oc (out.map u8c) := own_keep st.ow fun b hb => by
    have hbs : b ∉ blk sa := fun hm => by
      obtain ⟨c1, h1⟩ := tag_of st.ow hb
      obtain ⟨c2, h2⟩ := tag_of hS hm
      rw [h1] at h2
      simp at h2
    have hlt := (blk_lt st.ow b hb).2
    exact (hk1 b (by have := hb1.size; omega) hbs).trans (hb1.block b hlt)
  have hset : ∀ b, b ≠ g → ((w2.setCell ⟨g, 1, none⟩ (.slice sa' (sp.length + 1) sc')).setCell ⟨g, 3, none⟩ s4).heap[b]? = w2.heap[b]? := fun b hb => (heap_setCell_other _ _ _ _ hb).trans (heap_setCell_other _ _ _ _ hb)
  have hlow : ∀ b, b < lo → b ∉ blk sa := fun b hb hm => by have := (blk_lt hS b hm).1; omega
  have hB2 : Below lo w w2 := ⟨hgr.os.trans hb1.os, hgr.tape.trans hb1.tape, hgr.output.trans hb1.output, Nat.le_trans hb1.size hgr.size, fun b hb => (hk1 b (by have := hb1.size; omega) (hlow b hb)).trans (hb1.block b (by omega))⟩
  refine ⟨sa', sc', rfl, hg2, ⟨by rw [World.size_setCell, World.size_setCell]; exact Nat.le_trans hlo hB2.size, oa, oc, ?_, st.lg, own_keep hoa fun b hb => hset b (fun q => hgo (by rw [← q]; exact hb))⟩, ⟨sa', sc', by simp, own_keep hO fun b hb => hset b (fun q => hgn (by rw [← q]; exact hb))⟩, (hB2.setCell (p := ⟨g, 1, none⟩) st.lg _).setCell (p := ⟨g, 3, none⟩) st.lg _, fun b cs t fr hc h5 hw hsn => ?_⟩
  · have h1 := heap_setCell_same w2 g 1 _ _ (.slice sa' (sp.length + 1) sc') hbx2
    have h2 := heap_setCell_same _ g 3 _ _ s4 h1
    rw [h2]
    simp
  · have hbg : b ≠ g := fun q => by rw [q, st.bx] at hc; simp only [Option.some.injEq, Obj.cells.injEq] at hc; exact hw hc.2.1.symm
    have hbs : b ∉ blk sa := fun hm => by obtain ⟨cur, h⟩ := tag_of hS hm; rw [hc] at h; simp only [Option.some.injEq, Obj.cells.injEq] at h; exact hsn h.2.1
    have hlt := (Array.getElem?_eq_some_iff.mp hc).1
    exact (hset b hbg).trans ((hk1 b (by have := hb1.size; omega) hbs).trans ((hb1.block b hlt).trans hc))
section
variable {w : World} {lo g : Nat} {out : List Nat} {sp : List Spn} {s1 : Value} {nf np : Int}
set_option maxHeartbeats 4000000 in
theorem instr_w (h : WOut w lo g out s1 (.int .i64 nf) (.int .i64 np)) (hS : Sp w lo s1 sp) (hF : ∀ wx, Below lo w wx → prog.Forms wx) (i : Ins) (hop : 0 ≤ i.op ∧ i.op ≤ 1000) (hk : known i.op) (hok : ∀ k, k < 4 → opOk i k) (hn : out.length + (insB i).length ≤ 1000000000) (hsp : sp.length ≤ 1000000) (hnp : 0 ≤ np ∧ np ≤ 1000000) :
    Calls Tryz.prog 87 #[.pointer (some ⟨g, 0, none⟩), i.val] w fun e w' => e = .returned (.tuple #[]) ∧ ∃ s1', WOut w' lo g (out ++ insB i) s1' (.int .i64 nf) (.int .i64 (np + 1)) ∧ Sp w' lo s1' (sp ++ [⟨nf, np, out.length, ((out ++ insB i).length : Nat)⟩]) ∧ Below lo w w' ∧ OthS w w' := by
  have hb := boxed w (objI i)
  have hbx : (w.alloc (objI i)).heap[w.heap.size]? = some (objI i) := heap_alloc_new _ _
  have hl := h.1
  have hlw : Below lo w (w.alloc (objI i)) := (hb.mono hl)
  have hi0 := insTo_len i 0 (by omega)
  obtain ⟨hl0, oa0, oc0, st0⟩ := h.later hb
  have g0 := whole_cell st0.bx 0 _ rfl
  have gz : g < (w.alloc (objI i)).heap.size := (Array.getElem?_eq_some_iff.mp st0.bx).1
  have hgn : ¬ g = w.heap.size := fun q => by have := st0.bx; rw [q, hbx] at this; simp at this
  have c1 : Calls Tryz.prog 52 #[.pointer (some ⟨g, 0, none⟩), .int .i64 i.op] (w.alloc (objI i)) _ := number_i (h.later hb) i.op hop.1 (by omega) (by unfold insTo at hi0; omega)
  obtain ⟨S, hFm⟩ : ∃ S, Hid (prog.frm i.op = S) := ⟨_, rfl⟩
  have c2 : ∀ wx, Below lo w wx → Calls Tryz.prog 108 #[.int .i64 i.op] wx _ := fun wx hx => prog.form_any i.op (by omega) (by omega) wx (hF wx hx) S hFm.out
  have hSx := fun k (h4 : k < 4) => str_ix hFm.out hk k h4
  go_enter Tryz.func87, Tryz.ntmps87
  go_wp2_with (first
    | (go_at_call 52; (with_reducible refine c1.mono ?_); rintro e w1 ⟨rfl, h1, hb1, ho1⟩; (have q := ho1 _ _ _ _ hbx (by decide) (by decide)); (have q0 := whole_cell q 0 _ rfl); (have q1 := whole_cell q 1 _ rfl); (have q2 := whole_cell q 2 _ rfl); (have q3 := whole_cell q 3 _ rfl); (have q4 := whole_cell q 4 _ rfl))
    | (go_at_call 108; (with_reducible refine (c2 _ (hlw.trans hb1)).mono ?_); rintro e w2 ⟨rfl, hw2⟩; replace hw2 := hw2.symm; subst hw2))
  have hB1 : Below lo w w1 := hlw.trans hb1
  have hO1 : Oth w w1 := (Oth.of hb).trans ho1
  clear c1 c2 q0 q1 q2 q3 q4 q hb1 ho1 g0 gz st0 hl0 hbx hb
  go_loopw [29] (fun u wr => ∃ k : Nat, k ≤ 4 ∧ u = .int .i64 k ∧ WOut wr lo g (out ++ insTo i k) s1 (.int .i64 nf) (.int .i64 np) ∧ Below lo w wr ∧ Oth w wr) (fun u _ => 4 - (intOf u).toNat)
  case atStart => exact ⟨0, Nat.zero_le _, rfl, h1, hB1, hO1⟩
  case round =>
    clear h1 hB1 hO1
    obtain ⟨k, hk4, rfl, h1, hb1, ho1⟩ := hrel
    by_cases hlt : k < 4
    · have hix := four_ix i k hlt
      have hsx := hSx k hlt
      have hkI : (k : Int) < 4 := by omega
      have hlen := insTo_len i (k + 1) (by omega)
      have hTo : Hid (insTo i (k + 1) = insTo i k ++ opB i.op k (i.x k)) := rfl
      rw [hTo.out, List.length_append] at hlen
      clear hSx
      rcases hok k hlt with h45 | ⟨h111, hx1, hx2⟩ | ⟨h110, hx⟩ | ⟨n45, n111, n110, hx1, hx2⟩
      · have hB : Hid (opB i.op k (i.x k) = []) := by show _ = _; unfold opB; rw [if_pos h45]
        rw [h45] at hsx
        clear hok h45
        go_wp2
        go_roundw
        case rel => exact ⟨k + 1, by omega, by go_num, by rw [hTo.out, hB.out, List.append_nil]; exact h1, hb1, ho1⟩
        case measure => simp [intOf]; omega
      · have hB : Hid (opB i.op k (i.x k) = putB (i.x k + 1).toNat) := by show _ = _; unfold opB; rw [if_neg (by omega), if_pos h111]
        rw [hB.out] at hlen
        have cc : Calls Tryz.prog 52 #[.pointer (some ⟨g, 0, none⟩), .int .i64 (i.x k + 1)] wr _ := number_i h1 (i.x k + 1) (by omega) (by omega) (by rw [List.length_append]; omega)
        rw [h111] at hsx
        clear hok h111 hlen
        generalize i.x k = X at *
        go_wp2_with (go_at_call 52; (with_reducible refine cc.mono ?_); rintro e w2 ⟨rfl, h2, hb2, ho2⟩)
        go_roundw
        case rel => exact ⟨k + 1, by omega, by go_num, by rw [hTo.out, hB.out, ← List.append_assoc]; exact h2, hb1.trans hb2, ho1.trans ho2⟩
        case measure => simp [intOf]; omega
      · have hB : Hid (opB i.op k (i.x k) = sgnB (i.x k)) := by show _ = _; unfold opB; rw [if_neg (by omega), if_neg (by omega), if_pos h110]
        rw [hB.out] at hlen
        have cc : Calls Tryz.prog 82 #[.pointer (some ⟨g, 0, none⟩), .int .i64 (i.x k)] wr _ := signed_w h1 (i.x k) hx (by rw [List.length_append]; omega)
        rw [h110] at hsx
        clear hok h110 hlen
        generalize i.x k = X at *
        go_wp2_with (go_at_call 82; (with_reducible refine cc.mono ?_); rintro e w2 ⟨rfl, h2, hb2, ho2⟩)
        go_roundw
        case rel => exact ⟨k + 1, by omega, by go_num, by rw [hTo.out, hB.out, ← List.append_assoc]; exact h2, hb1.trans hb2, ho1.trans ho2⟩
        case measure => simp [intOf]; omega
      · have hB : Hid (opB i.op k (i.x k) = putB (i.x k).toNat) := by show _ = _; unfold opB; rw [if_neg n45, if_neg n111, if_neg n110]
        rw [hB.out] at hlen
        have cc : Calls Tryz.prog 52 #[.pointer (some ⟨g, 0, none⟩), .int .i64 (i.x k)] wr _ := number_i h1 (i.x k) hx1 (by omega) (by rw [List.length_append]; omega)
        clear hok hlen
        generalize i.x k = X at *
        generalize lt i.op k = L at *
        go_wp2_with (go_at_call 52; (with_reducible refine cc.mono ?_); rintro e w2 ⟨rfl, h2, hb2, ho2⟩)
        go_roundw
        case rel => exact ⟨k + 1, by omega, by go_num, by rw [hTo.out, hB.out, ← List.append_assoc]; exact h2, hb1.trans hb2, ho1.trans ho2⟩
        case measure => simp [intOf]; omega
    · have hk2 : k = 4 := by omega
      subst hk2
      obtain ⟨hl1, oa, oc, st⟩ := h1
      obtain ⟨sa, sc, rfl, hO⟩ := hS.keep ho1
      have d0 := whole_cell st.bx 0 _ rfl
      have d1 := whole_cell st.bx 1 _ rfl
      have d2 := whole_cell st.bx 2 _ rfl
      have d3 := whole_cell st.bx 3 _ rfl
      have gz : g < wr.heap.size := (Array.getElem?_eq_some_iff.mp st.bx).1
      have fz := fun o => whole_frozen st.bx o
      obtain ⟨iS, hiS, hzS, hsS, hbS⟩ := info_of infoSp
      clear hok hSx hlt
      obtain ⟨n4, hn4⟩ : ∃ n4 : Nat, Hid ((out ++ insTo i 4).length = n4) := ⟨_, rfl⟩
      rw [hn4.out] at d0
      have hOW : Hid ((wr.alloc (.cells #[.int .i64 nf, .int .i64 np, .int .i64 (out.length : Int), .int .i64 (n4 : Int)] 73)).ownsRow lo 73 4 (.slice sa sp.length sc) sp.length (sp.map Spn.cells).flatten) := by
        have := own_keep hO fun b hb => (boxed wr (.cells #[.int .i64 nf, .int .i64 np, .int .i64 (out.length : Int), .int .i64 (n4 : Int)] 73)).block b (blk_lt hO b hb).2
        rw [show OwnL (wr.alloc (.cells #[.int .i64 nf, .int .i64 np, .int .i64 (out.length : Int), .int .i64 (n4 : Int)] 73)) lo 73 4 sa sc (sp.map Spn.cells) = (wr.alloc (.cells #[.int .i64 nf, .int .i64 np, .int .i64 (out.length : Int), .int .i64 (n4 : Int)] 73)).ownsRow lo 73 4 (.slice sa (sp.map Spn.cells).length sc) (sp.map Spn.cells).length (sp.map Spn.cells).flatten from rfl, List.length_map] at this
        exact this
      have hNW : Hid (∀ j u, ([Value.int .i64 nf, .int .i64 np, .int .i64 (out.length : Int), .int .i64 (n4 : Int)] : List Value)[j]? = some u → (wr.alloc (.cells #[.int .i64 nf, .int .i64 np, .int .i64 (out.length : Int), .int .i64 (n4 : Int)] 73)).cell? ((⟨wr.heap.size, 0, none⟩ : Addr).add j) = some u) := fun j u hj => by
        rw [add_none, Nat.zero_add]
        exact whole_cell (heap_alloc_new wr _) j u (by simpa using hj)
      have hBW : Hid (Below wr.heap.size wr (wr.alloc (.cells #[.int .i64 nf, .int .i64 np, .int .i64 (out.length : Int), .int .i64 (n4 : Int)] 73))) := boxed _ _
      have hba : Hid (lo ≤ (wr.alloc (.cells #[.int .i64 nf, .int .i64 np, .int .i64 (out.length : Int), .int .i64 (n4 : Int)] 73)).heap.size) := by show lo ≤ _; rw [World.size_alloc]; omega
      have hstH : Hid (WSt wr lo g oa oc (out ++ insTo i 4) (.slice sa sp.length sc) (.int .i64 nf) (.int .i64 np)) := st
      have hOH : Hid (OwnL wr lo 73 4 sa sc (sp.map Spn.cells)) := hO
      clear st hO hS
      go_wp2_with fail
      go_region_law (refine step_app rfl (.tmp 57) (.tmp 69) 66 rfl lo 73 iS _ 4 32 Tryz.underlying66 hiS hzS hsS hbS rfl (by decide) (.slice sa sp.length sc) sp.length (sp.map Spn.cells).flatten rfl hOW.out ⟨wr.heap.size, 0, none⟩ 1 1 [.int .i64 nf, .int .i64 np, .int .i64 (out.length : Int), .int .i64 (n4 : Int)] rfl rfl hNW.out (by intro u hu; simp only [List.mem_cons, List.not_mem_nil, or_false] at hu; rcases hu with rfl | rfl | rfl | rfl <;> rfl) (by unfold maxLen; omega) (by omega) hba.out ?_; (intro v' w2 h2 h3 h5); (obtain ⟨sa', sc', rfl, hg2, hW', hS', hb'⟩ := sp_grow (x := ⟨nf, np, out.length, n4⟩) (s4 := .int .i64 (np + 1)) hstH.out hOH.out hBW.out.drew hl1 h2 h3); (have e0 := whole_cell (hg2.trans hstH.out.bx) 0 _ rfl); (have e1 := whole_cell (hg2.trans hstH.out.bx) 1 _ rfl); (have e2 := whole_cell (hg2.trans hstH.out.bx) 2 _ rfl); (have e3 := whole_cell (hg2.trans hstH.out.bx) 3 _ rfl); (have ez : g < w2.heap.size := (Array.getElem?_eq_some_iff.mp (hg2.trans hstH.out.bx)).1); (have ef := fun o => whole_frozen (hg2.trans hstH.out.bx) o))
      all_goals go_wp2
      all_goals go_end0
      all_goals exact ⟨rfl, _, hW', by rw [show (out ++ insB i).length = n4 from hn4.out]; exact hS', hb1.trans hb'.1, ho1.s.trans hb'.2⟩
end
end Go.Proofs.YtonkcnaijcpfdaaGreatDoor.pg
/- The writer of package code: a function's code. -/
namespace Go.Proofs.YtonkcnaijcpfdaaGreatDoor.pg
open Go.ChangeShapes Go.WideShapes Go.ChangeAt Go.RowKit
set_option linter.unusedVariables false
set_option linter.unusedSimpArgs false
set_option maxRecDepth 100000
/-- The writer with its spans. -/
def WS (w : World) (lo g : Nat) (out : List Nat) (sp : List Spn) (nf np : Int) : Prop := ∃ s1, WOut w lo g out s1 (.int .i64 nf) (.int .i64 np) ∧ Sp w lo s1 sp
theorem Sp.later {w w' : World} {lo : Nat} {s1 : Value} {sp : List Spn} (h : Sp w lo s1 sp) (hb : Below w.heap.size w w') : Sp w' lo s1 sp := h.keep (Oth.of hb)
theorem WS.later {w w' : World} {lo g : Nat} {out : List Nat} {sp : List Spn} {nf np : Int} (h : WS w lo g out sp nf np) (hb : Below w.heap.size w w') : WS w' lo g out sp nf np := by
  obtain ⟨s1, h1, h2⟩ := h
  exact ⟨s1, h1.later hb, h2.later hb⟩
/-- The spans of a function's code, from a place on. -/
def spTo (nf : Int) (out : List Nat) : List Ins → Nat → List Spn
  | _, 0 => []
  | l, k + 1 => spTo nf out l k ++ (match l[k]? with | some i => [⟨nf, k, ((out ++ (l.take k).flatMap insB).length : Nat), ((out ++ (l.take (k + 1)).flatMap insB).length : Nat)⟩] | none => [])
theorem spTo_len (nf : Int) (out : List Nat) (l : List Ins) (k : Nat) : (spTo nf out l k).length ≤ k := by
  induction k with
  | zero => simp [spTo]
  | succ k ih => unfold spTo; split <;> simp <;> omega
abbrev insOk (i : Ins) : Prop := (0 ≤ i.op ∧ i.op ≤ 1000) ∧ known i.op ∧ ∀ k, k < 4 → opOk i k
section
variable {w : World} {lo g : Nat} {out : List Nat} {sp : List Spn} {nf : Int}
set_option maxHeartbeats 4000000 in
theorem each_Instr (h : WS w lo g out sp nf 0) (hF : ∀ wx, Below lo w wx → prog.Forms wx) (l : List Ins) (a : Option Addr) (cap : Nat) (hr : ∀ wx, Below lo w wx → Rows wx 5 a cap (l.map Ins.cells)) (hw : ∀ x ∈ l, insOk x) (hn : out.length + ((putB l.length).length + (l.flatMap insB).length) ≤ 1000000000) (hl5 : l.length ≤ 1000) (hsp : sp.length ≤ 100000) :
    Calls Tryz.prog 86 #[.pointer (some ⟨g, 0, none⟩), .slice a l.length cap, .func (.func 87) #[.pointer (some ⟨g, 0, none⟩)] #[]] w fun e w' => e = .returned (.tuple #[]) ∧ WS w' lo g (out ++ (putB l.length ++ l.flatMap insB)) (sp ++ spTo nf (out ++ putB l.length) l l.length) nf l.length ∧ Below lo w w' ∧ OthS w w' := by
  obtain ⟨s1, hW, hS⟩ := h
  have hlI : (l.length : Int) ≤ 9223372036854775807 := by omega
  have hl := hW.1
  have c1 : Calls Tryz.prog 52 #[.pointer (some ⟨g, 0, none⟩), .int .i64 (l.length : Int)] w _ := number_w hW l.length hlI (by omega)
  go_enter Tryz.func86, Tryz.ntmps86
  go_wp2_with (go_at_call 52; (with_reducible refine c1.mono ?_); rintro e w1 ⟨rfl, h1, hb1, ho1⟩)
  go_loopw [14] (fun u wr => ∃ j : Nat, j ≤ l.length ∧ u = .int .i64 j ∧ WS wr lo g (out ++ putB l.length ++ (l.take j).flatMap insB) (sp ++ spTo nf (out ++ putB l.length) l j) nf j ∧ Below lo w wr ∧ OthS w wr) (fun u _ => l.length - (intOf u).toNat)
  case atStart => exact ⟨0, Nat.zero_le _, rfl, ⟨s1, by simpa using h1, by simpa [spTo] using hS.keep ho1⟩, hb1, ho1.s⟩
  case round =>
    clear h1 hb1 ho1 c1
    obtain ⟨j, hj, rfl, h1, hb1, ho1⟩ := hrel
    by_cases hlt : j < l.length
    · obtain ⟨x, hx, hxm⟩ := get_lt l j hlt
      obtain ⟨bb, o, hix, hbl, c0, c1, c2, c3, c4⟩ := ins_ix (hr wr hb1) j x hx
      have hjI : (j : Int) < l.length := by omega
      have hfl := take_flat insB l (j + 1)
      rw [take_flat_one insB l j x hx, List.length_append] at hfl
      have hFl : Hid ((l.take (j + 1)).flatMap insB = (l.take j).flatMap insB ++ insB x) := take_flat_one insB l j x hx
      have hSpn : Hid (spTo nf (out ++ putB l.length) l (j + 1) = spTo nf (out ++ putB l.length) l j ++ [⟨nf, j, ((out ++ putB l.length ++ (l.take j).flatMap insB).length : Nat), ((out ++ putB l.length ++ (l.take j).flatMap insB ++ insB x).length : Nat)⟩]) := by
        show spTo nf (out ++ putB l.length) l (j + 1) = _
        conv => lhs; unfold spTo
        rw [hx]
        simp only [hFl.out, List.append_assoc]
      have hsl := spTo_len nf (out ++ putB l.length) l j
      have hbb := boxed wr (objI x)
      obtain ⟨t1, hW1, hS1⟩ := h1.later hbb
      have hlo : lo ≤ wr.heap.size := by obtain ⟨_, q, _⟩ := h1; exact q.1
      have hB1 : Below lo w (wr.alloc (objI x)) := hb1.trans (hbb.mono hlo)
      have cc : Calls Tryz.prog 87 #[.pointer (some ⟨g, 0, none⟩), x.val] (wr.alloc (objI x)) _ := instr_w hW1 hS1 (fun wx hx => hF wx (hB1.trans hx)) x (hw x hxm).1 (hw x hxm).2.1 (hw x hxm).2.2 (by simp only [List.length_append] at *; omega) (by rw [List.length_append]; omega) (by omega)
      clear hfl h1 hW1 hS1 hsl
      go_wp2_with (go_at_call 87; (with_reducible refine cc.mono ?_); rintro e w2 ⟨rfl, s', h2, hs2, hb2, ho2⟩)
      go_roundw
      case rel => exact ⟨j + 1, by omega, by go_num, ⟨s', by rw [hFl.out, ← List.append_assoc]; exact h2, by rw [hSpn.out, ← List.append_assoc]; exact hs2⟩, hB1.trans hb2, (ho1.trans (Oth.of hbb).s).trans ho2⟩
      case measure => simp [intOf]; omega
    · have hj2 : j = l.length := by omega
      subst hj2
      rw [List.take_length] at h1
      go_wp2
      go_end0
      exact ⟨rfl, by rw [← List.append_assoc]; exact h1, hb1, ho1⟩
end
end Go.Proofs.YtonkcnaijcpfdaaGreatDoor.pg
/- The writer of package code: a function. -/
namespace Go.Proofs.YtonkcnaijcpfdaaGreatDoor.pg
open Go.ChangeShapes Go.WideShapes Go.ChangeAt Go.RowKit
set_option linter.unusedVariables false
set_option linter.unusedSimpArgs false
set_option maxRecDepth 100000
def fnHead (f : MFn) : List Nat := putB f.params.toNat ++ putB f.regs.toNat ++ (putB f.sels.length ++ f.sels.flatMap fun y : MSel => selB y.sel)
def fnB (f : MFn) : List Nat := fnHead f ++ (putB f.code.length ++ f.code.flatMap insB)
def fnSp (nf : Int) (out : List Nat) (f : MFn) : List Spn := spTo nf (out ++ fnHead f ++ putB f.code.length) f.code f.code.length
theorem ws_next {w : World} {lo g : Nat} {out : List Nat} {sp : List Spn} {nf np m : Int} (h : WS w lo g out sp nf np) :
    WS ((w.setCell ⟨g, 2, none⟩ (.int .i64 m)).setCell ⟨g, 3, none⟩ (.int .i64 0)) lo g out sp m 0 ∧ Below lo w ((w.setCell ⟨g, 2, none⟩ (.int .i64 m)).setCell ⟨g, 3, none⟩ (.int .i64 0)) ∧ OthS w ((w.setCell ⟨g, 2, none⟩ (.int .i64 m)).setCell ⟨g, 3, none⟩ (.int .i64 0)) := by
  obtain ⟨s1, ⟨hl, oa, oc, st⟩, sa, sc, he, hO⟩ := h
  have hgo : g ∉ blk oa := wst_box st
  have hgs : g ∉ blk sa := fun hm => by obtain ⟨cur, h⟩ := tag_of hO hm; rw [st.bx] at h; simp at h
  have hset : ∀ b, b ≠ g → ((w.setCell ⟨g, 2, none⟩ (.int .i64 m)).setCell ⟨g, 3, none⟩ (.int .i64 0)).heap[b]? = w.heap[b]? := fun b hb => (heap_setCell_other _ _ _ _ hb).trans (heap_setCell_other _ _ _ _ hb)
  refine ⟨⟨s1, ⟨by rw [World.size_setCell, World.size_setCell]; exact hl, oa, oc, ?_, st.lg, own_keep st.ow fun b hb => hset b (fun q => hgo (by rw [← q]; exact hb))⟩, sa, sc, he, own_keep hO fun b hb => hset b (fun q => hgs (by rw [← q]; exact hb))⟩, ((Below.refl lo w).setCell (p := ⟨g, 2, none⟩) st.lg _).setCell (p := ⟨g, 3, none⟩) st.lg _, fun b cs t fr hc h5 hw hsn => ?_⟩
  · have h1 := heap_setCell_same w g 2 _ _ (.int .i64 m) st.bx
    have h2 := heap_setCell_same _ g 3 _ _ (.int .i64 0) h1
    rw [h2]
    simp
  · exact (hset b (fun q => by rw [q, st.bx] at hc; simp only [Option.some.injEq, Obj.cells.injEq] at hc; exact hw hc.2.1.symm)).trans hc
abbrev fnOk (f : MFn) : Prop := (0 ≤ f.params ∧ f.params ≤ 1000) ∧ (0 ≤ f.regs ∧ f.regs ≤ 1000) ∧ f.code.length ≤ 1000 ∧ (∀ x ∈ f.code, insOk x) ∧ ∀ x ∈ f.sels, (∀ c ∈ x.cases, casOk c) ∧ -1 ≤ x.els ∧ x.els ≤ 1000
section
variable {w : World} {lo g : Nat} {out : List Nat} {sp : List Spn} {nf : Int}
set_option maxHeartbeats 4000000 in
theorem function_w (h : WS w lo g out sp nf 0) (hF : ∀ wx, Below lo w wx → prog.Forms wx) (f : MFn) (hl : ∀ wx, Below lo w wx → f.lies wx) (hok : fnOk f) (hn : out.length + (fnB f).length ≤ 1000000000) (hsp : sp.length ≤ 100000) (hnf : 0 ≤ nf ∧ nf ≤ 1000) :
    Calls Tryz.prog 55 #[.pointer (some ⟨g, 0, none⟩), f.val] w fun e w' => e = .returned (.tuple #[]) ∧ WS w' lo g (out ++ fnB f) (sp ++ fnSp nf out f) (nf + 1) 0 ∧ Below lo w w' ∧ OthS w w' := by
  obtain ⟨s1, hW, hS⟩ := h
  have hb := boxed w (objF f)
  have hbx : (w.alloc (objF f)).heap[w.heap.size]? = some (objF f) := heap_alloc_new _ _
  have hlo := hW.1
  have hlw : Below lo w (w.alloc (objF f)) := hb.mono hlo
  obtain ⟨hp, hr, hc5, hci, hse⟩ := hok
  have hlen : (fnB f).length = (putB f.params.toNat).length + (putB f.regs.toNat).length + ((putB f.sels.length).length + (f.sels.flatMap fun y : MSel => selB y.sel).length) + ((putB f.code.length).length + (f.code.flatMap insB).length) := by simp only [fnB, fnHead, List.length_append]
  have c1 : Calls Tryz.prog 52 #[.pointer (some ⟨g, 0, none⟩), .int .i64 f.params] (w.alloc (objF f)) _ := number_i (hW.later hb) f.params hp.1 (by omega) (by omega)
  have c2 : ∀ w1, WOut w1 lo g (out ++ putB f.params.toNat) s1 (.int .i64 nf) (.int .i64 0) → Calls Tryz.prog 52 #[.pointer (some ⟨g, 0, none⟩), .int .i64 f.regs] w1 _ := fun w1 h1 => number_i h1 f.regs hr.1 (by omega) (by rw [List.length_append]; omega)
  have c3 : ∀ w1, Below lo w w1 → WOut w1 lo g (out ++ putB f.params.toNat ++ putB f.regs.toNat) s1 (.int .i64 nf) (.int .i64 0) → Calls Tryz.prog 84 #[.pointer (some ⟨g, 0, none⟩), .slice f.sa f.sels.length f.scap, .func (.func 85) #[.pointer (some ⟨g, 0, none⟩)] #[]] w1 _ := fun w1 hb1 h1 => each_Select h1 f.sels f.sa f.scap (fun wx hx => (hl wx (hb1.trans hx)).2.1) (fun x hx => ⟨hse x hx, fun wx hw => ((hl wx (hb1.trans hw)).2.2.2.1 x hx).1⟩) (by rw [List.length_append, List.length_append]; omega)
  have c4 : ∀ w1, Below lo w w1 → WS w1 lo g (out ++ fnHead f) sp nf 0 → Calls Tryz.prog 86 #[.pointer (some ⟨g, 0, none⟩), .slice f.ca f.code.length f.ccap, .func (.func 87) #[.pointer (some ⟨g, 0, none⟩)] #[]] w1 _ := fun w1 hb1 h1 => each_Instr h1 (fun wx hx => hF wx (hb1.trans hx)) f.code f.ca f.ccap (fun wx hx => (hl wx (hb1.trans hx)).1) hci (by simp only [fnHead, List.length_append]; omega) hc5 hsp
  clear hlen hl hci hse
  go_enter Tryz.func55, Tryz.ntmps55
  go_wp2_with (first
    | (go_at_call 52; (with_reducible refine c1.mono ?_); rintro e w1 ⟨rfl, h1, hb1, ho1⟩; (have q := ho1 _ _ _ _ hbx (by decide) (by decide)); (have q0 := whole_cell q 0 _ rfl); (have q1 := whole_cell q 1 _ rfl); (have q2 := whole_cell q 2 _ rfl); (have q3 := whole_cell q 3 _ rfl))
    | (go_at_call 52; (with_reducible refine (c2 _ h1).mono ?_); rintro e w2 ⟨rfl, h2, hb2, ho2⟩; (have r := ho2 _ _ _ _ q (by decide) (by decide)); (have r0 := whole_cell r 0 _ rfl); (have r1 := whole_cell r 1 _ rfl); (have r2 := whole_cell r 2 _ rfl); (have r3 := whole_cell r 3 _ rfl); (have hB2 := (hlw.trans hb1).trans hb2))
    | (go_at_call 84; (with_reducible refine (c3 _ hB2 h2).mono ?_); rintro e w3 ⟨rfl, h3, hb3, ho3⟩; (have t := ho3 _ _ _ _ r (by decide) (by decide)); (have t0 := whole_cell t 0 _ rfl); (have t1 := whole_cell t 1 _ rfl); (have t2 := whole_cell t 2 _ rfl); (have t3 := whole_cell t 3 _ rfl); (have hO3 := (((Oth.of hb).trans ho1).trans ho2).trans ho3); (have hB3 := hB2.trans hb3); (have hS3 : WS w3 lo g (out ++ fnHead f) sp nf 0 := ⟨s1, by unfold fnHead; simpa only [List.append_assoc] using h3, hS.keep hO3⟩))
    | (go_at_call 86; (with_reducible refine (c4 _ hB3 hS3).mono ?_); rintro e w4 ⟨rfl, h4, hb4, ho4⟩; obtain ⟨n1, n2, n3⟩ := ws_next (m := nf + 1) h4; obtain ⟨s4, ⟨_, oa4, oc4, st4⟩, _⟩ := h4; (have y0 := whole_cell st4.bx 0 _ rfl); (have y1 := whole_cell st4.bx 1 _ rfl); (have y2 := whole_cell st4.bx 2 _ rfl); (have y3 := whole_cell st4.bx 3 _ rfl); (have yz : g < w4.heap.size := (Array.getElem?_eq_some_iff.mp st4.bx).1); (have yf := fun o => whole_frozen st4.bx o)))
  go_end0
  exact ⟨rfl, by unfold fnB fnSp; simpa only [List.append_assoc] using n1, (hB3.trans hb4).trans n2, (hO3.s.trans ho4).trans n3⟩
end
end Go.Proofs.YtonkcnaijcpfdaaGreatDoor.pg
