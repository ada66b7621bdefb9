/- The instruction that has the byte at which an instruction begins is it. -/
import Derived.Test.YtkhfimfjndmdlaaDoorM25
import Derived.Test.YtkhfimfjndmdlaaDoorM27
import Derived.BigQuiet
namespace Go.Proofs.YtkhfimfjndmdlaaDoor.pg
open Go.ChangeShapes Go.WideShapes Go.ChangeAt Go.RowKit
set_option linter.unusedVariables false
set_option linter.unusedSimpArgs false
set_option maxRecDepth 100000
theorem u8_ix {w : World} {a : Option Addr} {cap : Nat} {L : List Nat} (h : Rows w 1 a cap (L.map u8c)) (i x : Nat) (hi : L[i]? = some x) :
    ∃ b o, (∀ wx, (Instr.indexAt 27 (.slice a L.length cap) (.int .i64 (i : Int))).run Tryd.prog wx = .ok (.pointer (some ⟨b, o, none⟩)) wx) ∧ b < w.heap.size ∧ w.cell? ⟨b, o, none⟩ = some (.int .u8 ((x : Nat) : Int)) := by
  obtain ⟨b, o, hr, hlt, hc⟩ := h.ix 27 5 Tryd.underlying27 (by kernel_rfl) (fun wx => Tryd.sizeOf5 wx) i (row := u8c x) (by simp [hi])
  rw [List.length_map] at hr
  exact ⟨b, o, hr, hlt, hc 0 _ rfl⟩
theorem put_one (x : Nat) (h : x < 128) : putB x = [x] := by
  have hs : octet.szN x = 1 := octet.szN_small x h
  unfold putB
  rw [hs]
  show [octet.gr x 0] = [x]
  unfold octet.gr
  rw [hs, if_neg (by omega)]
  simp
  omega
theorem enc_split (M : MPr) (F : Nat) (f : MFn) (hF : M.fns[F]? = some f) (pc : Nat) (i : Ins) (hi : f.code[pc]? = some i) : ∃ r, encB M = aheadB M F f pc ++ insB i ++ r := by
  have h1 : M.fns.flatMap fnB = (M.fns.take F).flatMap fnB ++ fnB f ++ (M.fns.drop (F + 1)).flatMap fnB := by
    conv => lhs; rw [← List.take_append_drop (F + 1) M.fns]
    rw [List.flatMap_append, take_flat_one fnB M.fns F f hF]
  have h2 : f.code.flatMap insB = (f.code.take pc).flatMap insB ++ insB i ++ (f.code.drop (pc + 1)).flatMap insB := by
    conv => lhs; rw [← List.take_append_drop (pc + 1) f.code]
    rw [List.flatMap_append, take_flat_one insB f.code pc i hi]
  refine ⟨(f.code.drop (pc + 1)).flatMap insB ++ (M.fns.drop (F + 1)).flatMap fnB, ?_⟩
  unfold encB aheadB
  rw [h1]
  unfold fnB
  rw [h2]
  simp only [List.append_assoc]
theorem part_byte (M : MPr) (F : Nat) (f : MFn) (hF : M.fns[F]? = some f) (pc : Nat) (i : Ins) (hi : f.code[pc]? = some i) (hop : 0 ≤ i.op ∧ i.op < 66) : (fullB M.pr)[(aheadB M F f pc).length]? = some i.op.toNat ∧ 5 ≤ (aheadB M F f pc).length ∧ (aheadB M F f pc).length < (fullB M.pr).length ∧ (insB i).length ≠ 0 := by
  obtain ⟨r, hr⟩ := enc_split M F f hF pc i hi
  have e : insB i = i.op.toNat :: (opB i.op 0 (i.x 0) ++ opB i.op 1 (i.x 1) ++ opB i.op 2 (i.x 2) ++ opB i.op 3 (i.x 3)) := by
    show putB i.op.toNat ++ opB i.op 0 (i.x 0) ++ opB i.op 1 (i.x 1) ++ opB i.op 2 (i.x 2) ++ opB i.op 3 (i.x 3) = _
    rw [put_one _ (by omega)]
    simp only [List.append_assoc, List.singleton_append, List.cons_append, List.nil_append]
  have h1 : (fullB M.pr)[(aheadB M F f pc).length]? = some i.op.toNat := by
    rw [← full_M, hr, e, List.append_assoc, List.append_assoc, List.getElem?_append_right (Nat.le_refl _), Nat.sub_self]
    rfl
  refine ⟨h1, ?_, (List.getElem?_eq_some_iff.mp h1).1, by rw [e]; simp⟩
  unfold aheadB encH
  simp only [List.length_append]
  show 5 ≤ 5 + _ + _ + _ + _ + _ + _ + _ + _
  omega
section
variable {w : World}
set_option maxHeartbeats 2000000 in
theorem parts_bad (M : MPr) (f pc : Int) (hl : M.lies w) (hF : prog.Forms w) (hr : ¬ (chk insP M.pr).1 = 0) : Calls Tryd.prog 6 #[M.val, .int .i64 f, .int .i64 pc] w fun e w' => e = .returned (.bool true) ∧ Below w.heap.size w w' := by
  have hb := boxed w (objP M)
  have hbx : (w.alloc (objP M)).heap[w.heap.size]? = some (objP M) := heap_alloc_new _ _
  obtain ⟨a, b, c, hc⟩ : ∃ a b c, Hid (chk insP M.pr = (a, b, c)) := ⟨_, _, _, rfl⟩
  have ha : ¬ a = 0 := fun q => hr (by rw [hc.out]; exact q)
  have hrr : Hid (decide ((chk insR M.pr).1 = 0) = false) := by show decide _ = false; exact decide_eq_false (fun q => hr ((right_iff M.pr).mpr q))
  have c1 : ∀ wx, Below w.heap.size w wx → Calls Tryd.prog 14 #[M.val, .int .i64 f, .int .i64 pc] wx _ := fun wx h => where_bad M (hl.later h) (hF.later h) f pc a b c hc.out ha
  have c2 : ∀ wx, Below w.heap.size w wx → Calls Tryd.prog 8 #[M.val] wx _ := fun wx h => rright_any M wx (hl.later h) false hrr
  have c3 : ∀ wx, Below w.heap.size w wx → Calls Tryd.prog 9 #[] wx _ := fun wx h => speaks_any (hF.later h)
  clear hr hrr hc hF hl
  go_enter Tryd.func6, Tryd.ntmps6
  go_wp2_with (first
    | (go_at_call 14; (with_reducible refine (c1 _ hb).mono ?_); rintro e w1 ⟨rfl, b1⟩; (have B1 := bthen hb b1); (have p := (b1.block w.heap.size (by rw [World.size_alloc]; omega)).trans hbx); (have q0 := whole_cell p 0 _ rfl); (have q1 := whole_cell p 1 _ rfl); (have q2 := whole_cell p 2 _ rfl); (have q3 := whole_cell p 3 _ rfl); (have ql := (Array.getElem?_eq_some_iff.mp p).1))
    | (go_at_call 8; (with_reducible refine (c2 _ B1).mono ?_); rintro e w2 ⟨rfl, b2⟩; (have B2 := bthen B1 b2))
    | (go_at_call 9; (with_reducible refine (c3 _ B2).mono ?_); rintro e w3 ⟨rfl, b3⟩; (have B3 := bthen B2 b3)))
  go_ret
  exact ⟨rfl, B3⟩
set_option maxHeartbeats 2000000 in
theorem parts_n1 (M : MPr) (f pc : Int) (hl : M.lies w) (hF : prog.Forms w) (hr : (chk insP M.pr).1 = 0) (hf1 : -9223372036854775808 ≤ f) (hf2 : f ≤ 9223372036854775807) (hp1 : -9223372036854775808 ≤ pc) (hp2 : pc ≤ 9223372036854775807) (hno : ∀ s ∈ encSp M, ¬ (s.f = f ∧ s.pc = pc)) (h1 : f < 0) : Calls Tryd.prog 6 #[M.val, .int .i64 f, .int .i64 pc] w fun e w' => e = .returned (.bool true) ∧ Below w.heap.size w w' := by
  have hb := boxed w (objP M)
  have hbx : (w.alloc (objP M)).heap[w.heap.size]? = some (objP M) := heap_alloc_new _ _
  obtain ⟨b, c, hc⟩ : ∃ b c, Hid (chk insP M.pr = (0, b, c)) := ⟨_, _, by show _ = _; rw [← hr]⟩
  have hrr : Hid (decide ((chk insR M.pr).1 = 0) = true) := by show decide _ = true; exact decide_eq_true ((right_iff M.pr).mp hr)
  have c1 : ∀ wx, Below w.heap.size w wx → Calls Tryd.prog 14 #[M.val, .int .i64 f, .int .i64 pc] wx _ := fun wx h => where_ok M (hl.later h) (hF.later h) f pc b c hc.out 0 1 (.inr ⟨hno, rfl, rfl⟩)
  have c2 : ∀ wx, Below w.heap.size w wx → Calls Tryd.prog 8 #[M.val] wx _ := fun wx h => rright_any M wx (hl.later h) true hrr
  have c3 : ∀ wx, Below w.heap.size w wx → Calls Tryd.prog 9 #[] wx _ := fun wx h => speaks_any (hF.later h)
  have hlI := rows_len hl.2.2.1
  have hlH : Hid (∀ wx, Below w.heap.size w wx → Rows wx 4 M.fa M.fcap (M.fns.map MFn.cells)) := fun wx h => (hl.later h).2.2.1
  clear hr hrr hc hF hl hno
  go_enter Tryd.func6, Tryd.ntmps6
  go_wp2_with (first
    | (go_at_call 14; (with_reducible refine (c1 _ hb).mono ?_); rintro e w1 ⟨rfl, b1⟩; (have B1 := bthen hb b1); (have p := (b1.block w.heap.size (by rw [World.size_alloc]; omega)).trans hbx); (have q0 := whole_cell p 0 _ rfl); (have q1 := whole_cell p 1 _ rfl); (have q2 := whole_cell p 2 _ rfl); (have q3 := whole_cell p 3 _ rfl); (have ql := (Array.getElem?_eq_some_iff.mp p).1))
    | (go_at_call 8; (with_reducible refine (c2 _ B1).mono ?_); rintro e w2 ⟨rfl, b2⟩; (have B2 := bthen B1 b2); (have p2 := (b2.block w.heap.size ql).trans p); clear q0 q1 q2 q3; (have r3 := whole_cell p2 3 _ rfl); (have rl := (Array.getElem?_eq_some_iff.mp p2).1))
    | (go_at_call 9; (with_reducible refine (c3 _ B2).mono ?_); rintro e w3 ⟨rfl, b3⟩; (have B3 := bthen B2 b3)))
  go_ret
  exact ⟨rfl, B3⟩
set_option maxHeartbeats 2000000 in
theorem parts_n2 (M : MPr) (f pc : Int) (hl : M.lies w) (hF : prog.Forms w) (hr : (chk insP M.pr).1 = 0) (hf1 : -9223372036854775808 ≤ f) (hf2 : f ≤ 9223372036854775807) (hp1 : -9223372036854775808 ≤ pc) (hp2 : pc ≤ 9223372036854775807) (hno : ∀ s ∈ encSp M, ¬ (s.f = f ∧ s.pc = pc)) (h1 : 0 ≤ f) (h2 : (M.fns.length : Int) ≤ f) : Calls Tryd.prog 6 #[M.val, .int .i64 f, .int .i64 pc] w fun e w' => e = .returned (.bool true) ∧ Below w.heap.size w w' := by
  have hb := boxed w (objP M)
  have hbx : (w.alloc (objP M)).heap[w.heap.size]? = some (objP M) := heap_alloc_new _ _
  obtain ⟨b, c, hc⟩ : ∃ b c, Hid (chk insP M.pr = (0, b, c)) := ⟨_, _, by show _ = _; rw [← hr]⟩
  have hrr : Hid (decide ((chk insR M.pr).1 = 0) = true) := by show decide _ = true; exact decide_eq_true ((right_iff M.pr).mp hr)
  have c1 : ∀ wx, Below w.heap.size w wx → Calls Tryd.prog 14 #[M.val, .int .i64 f, .int .i64 pc] wx _ := fun wx h => where_ok M (hl.later h) (hF.later h) f pc b c hc.out 0 1 (.inr ⟨hno, rfl, rfl⟩)
  have c2 : ∀ wx, Below w.heap.size w wx → Calls Tryd.prog 8 #[M.val] wx _ := fun wx h => rright_any M wx (hl.later h) true hrr
  have c3 : ∀ wx, Below w.heap.size w wx → Calls Tryd.prog 9 #[] wx _ := fun wx h => speaks_any (hF.later h)
  have hlI := rows_len hl.2.2.1
  have hlH : Hid (∀ wx, Below w.heap.size w wx → Rows wx 4 M.fa M.fcap (M.fns.map MFn.cells)) := fun wx h => (hl.later h).2.2.1
  clear hr hrr hc hF hl hno
  go_enter Tryd.func6, Tryd.ntmps6
  go_wp2_with (first
    | (go_at_call 14; (with_reducible refine (c1 _ hb).mono ?_); rintro e w1 ⟨rfl, b1⟩; (have B1 := bthen hb b1); (have p := (b1.block w.heap.size (by rw [World.size_alloc]; omega)).trans hbx); (have q0 := whole_cell p 0 _ rfl); (have q1 := whole_cell p 1 _ rfl); (have q2 := whole_cell p 2 _ rfl); (have q3 := whole_cell p 3 _ rfl); (have ql := (Array.getElem?_eq_some_iff.mp p).1))
    | (go_at_call 8; (with_reducible refine (c2 _ B1).mono ?_); rintro e w2 ⟨rfl, b2⟩; (have B2 := bthen B1 b2); (have p2 := (b2.block w.heap.size ql).trans p); clear q0 q1 q2 q3; (have r3 := whole_cell p2 3 _ rfl); (have rl := (Array.getElem?_eq_some_iff.mp p2).1))
    | (go_at_call 9; (with_reducible refine (c3 _ B2).mono ?_); rintro e w3 ⟨rfl, b3⟩; (have B3 := bthen B2 b3)))
  go_ret
  exact ⟨rfl, B3⟩
set_option maxHeartbeats 2000000 in
theorem parts_n3 (M : MPr) (f pc : Int) (hl : M.lies w) (hF : prog.Forms w) (hr : (chk insP M.pr).1 = 0) (hf1 : -9223372036854775808 ≤ f) (hf2 : f ≤ 9223372036854775807) (hp1 : -9223372036854775808 ≤ pc) (hp2 : pc ≤ 9223372036854775807) (hno : ∀ s ∈ encSp M, ¬ (s.f = f ∧ s.pc = pc)) (F : Nat) (h1 : f = F) (h2 : F < M.fns.length) (h3 : pc < 0) : Calls Tryd.prog 6 #[M.val, .int .i64 f, .int .i64 pc] w fun e w' => e = .returned (.bool true) ∧ Below w.heap.size w w' := by
  have hb := boxed w (objP M)
  have hbx : (w.alloc (objP M)).heap[w.heap.size]? = some (objP M) := heap_alloc_new _ _
  obtain ⟨b, c, hc⟩ : ∃ b c, Hid (chk insP M.pr = (0, b, c)) := ⟨_, _, by show _ = _; rw [← hr]⟩
  have hrr : Hid (decide ((chk insR M.pr).1 = 0) = true) := by show decide _ = true; exact decide_eq_true ((right_iff M.pr).mp hr)
  have c1 : ∀ wx, Below w.heap.size w wx → Calls Tryd.prog 14 #[M.val, .int .i64 f, .int .i64 pc] wx _ := fun wx h => where_ok M (hl.later h) (hF.later h) f pc b c hc.out 0 1 (.inr ⟨hno, rfl, rfl⟩)
  have c2 : ∀ wx, Below w.heap.size w wx → Calls Tryd.prog 8 #[M.val] wx _ := fun wx h => rright_any M wx (hl.later h) true hrr
  have c3 : ∀ wx, Below w.heap.size w wx → Calls Tryd.prog 9 #[] wx _ := fun wx h => speaks_any (hF.later h)
  have hlI := rows_len hl.2.2.1
  have hlH : Hid (∀ wx, Below w.heap.size w wx → Rows wx 4 M.fa M.fcap (M.fns.map MFn.cells)) := fun wx h => (hl.later h).2.2.1
  subst h1
  have h2I : (F : Int) < M.fns.length := by omega
  clear hr hrr hc hF hl hno
  go_enter Tryd.func6, Tryd.ntmps6
  go_wp2_with (first
    | (go_at_call 14; (with_reducible refine (c1 _ hb).mono ?_); rintro e w1 ⟨rfl, b1⟩; (have B1 := bthen hb b1); (have p := (b1.block w.heap.size (by rw [World.size_alloc]; omega)).trans hbx); (have q0 := whole_cell p 0 _ rfl); (have q1 := whole_cell p 1 _ rfl); (have q2 := whole_cell p 2 _ rfl); (have q3 := whole_cell p 3 _ rfl); (have ql := (Array.getElem?_eq_some_iff.mp p).1))
    | (go_at_call 8; (with_reducible refine (c2 _ B1).mono ?_); rintro e w2 ⟨rfl, b2⟩; (have B2 := bthen B1 b2); (have p2 := (b2.block w.heap.size ql).trans p); clear q0 q1 q2 q3; (have r3 := whole_cell p2 3 _ rfl); (have rl := (Array.getElem?_eq_some_iff.mp p2).1))
    | (go_at_call 9; (with_reducible refine (c3 _ B2).mono ?_); rintro e w3 ⟨rfl, b3⟩; (have B3 := bthen B2 b3)))
  go_ret
  exact ⟨rfl, B3⟩
set_option maxHeartbeats 2000000 in
theorem parts_n4 (M : MPr) (f pc : Int) (hl : M.lies w) (hF : prog.Forms w) (hr : (chk insP M.pr).1 = 0) (hf1 : -9223372036854775808 ≤ f) (hf2 : f ≤ 9223372036854775807) (hp1 : -9223372036854775808 ≤ pc) (hp2 : pc ≤ 9223372036854775807) (hno : ∀ s ∈ encSp M, ¬ (s.f = f ∧ s.pc = pc)) (F : Nat) (h1 : f = F) (x : MFn) (h2 : M.fns[F]? = some x) (h3 : 0 ≤ pc) (h4 : (x.code.length : Int) ≤ pc) : Calls Tryd.prog 6 #[M.val, .int .i64 f, .int .i64 pc] w fun e w' => e = .returned (.bool true) ∧ Below w.heap.size w w' := by
  have hb := boxed w (objP M)
  have hbx : (w.alloc (objP M)).heap[w.heap.size]? = some (objP M) := heap_alloc_new _ _
  obtain ⟨b, c, hc⟩ : ∃ b c, Hid (chk insP M.pr = (0, b, c)) := ⟨_, _, by show _ = _; rw [← hr]⟩
  have hrr : Hid (decide ((chk insR M.pr).1 = 0) = true) := by show decide _ = true; exact decide_eq_true ((right_iff M.pr).mp hr)
  have c1 : ∀ wx, Below w.heap.size w wx → Calls Tryd.prog 14 #[M.val, .int .i64 f, .int .i64 pc] wx _ := fun wx h => where_ok M (hl.later h) (hF.later h) f pc b c hc.out 0 1 (.inr ⟨hno, rfl, rfl⟩)
  have c2 : ∀ wx, Below w.heap.size w wx → Calls Tryd.prog 8 #[M.val] wx _ := fun wx h => rright_any M wx (hl.later h) true hrr
  have c3 : ∀ wx, Below w.heap.size w wx → Calls Tryd.prog 9 #[] wx _ := fun wx h => speaks_any (hF.later h)
  have hlI := rows_len hl.2.2.1
  have hlH : Hid (∀ wx, Below w.heap.size w wx → Rows wx 4 M.fa M.fcap (M.fns.map MFn.cells)) := fun wx h => (hl.later h).2.2.1
  subst h1
  have h2I : (F : Int) < M.fns.length := by have := (List.getElem?_eq_some_iff.mp h2).1; omega
  have hxl := rows_len (hl.2.2.2.2.2.2 x (List.mem_of_getElem? h2)).1
  clear hr hrr hc hF hl hno
  go_enter Tryd.func6, Tryd.ntmps6
  go_wp2_with (first
    | (go_at_call 14; (with_reducible refine (c1 _ hb).mono ?_); rintro e w1 ⟨rfl, b1⟩; (have B1 := bthen hb b1); (have p := (b1.block w.heap.size (by rw [World.size_alloc]; omega)).trans hbx); (have q0 := whole_cell p 0 _ rfl); (have q1 := whole_cell p 1 _ rfl); (have q2 := whole_cell p 2 _ rfl); (have q3 := whole_cell p 3 _ rfl); (have ql := (Array.getElem?_eq_some_iff.mp p).1))
    | (go_at_call 8; (with_reducible refine (c2 _ B1).mono ?_); rintro e w2 ⟨rfl, b2⟩; (have B2 := bthen B1 b2); (have p2 := (b2.block w.heap.size ql).trans p); clear q0 q1 q2 q3; (have r3 := whole_cell p2 3 _ rfl); (have rl := (Array.getElem?_eq_some_iff.mp p2).1); obtain ⟨fb, fo, fix, fbl, k0, k1, k2, k3⟩ := fn_ix (hlH.out _ B2) F x h2)
    | (go_at_call 9; (with_reducible refine (c3 _ B2).mono ?_); rintro e w3 ⟨rfl, b3⟩; (have B3 := bthen B2 b3)))
  go_ret
  exact ⟨rfl, B3⟩
end
end Go.Proofs.YtkhfimfjndmdlaaDoor.pg
/- The instruction that has the byte at which an instruction begins is it: of places that are there. -/
namespace Go.Proofs.YtkhfimfjndmdlaaDoor.pg
open Go.ChangeShapes Go.WideShapes Go.ChangeAt Go.RowKit
set_option linter.unusedVariables false
set_option linter.unusedSimpArgs false
set_option maxRecDepth 100000
section
variable {w : World}
theorem spans_of (M : MPr) (F PC : Nat) (x : MFn) (i : Ins) (h2 : M.fns[F]? = some x) (hi : x.code[PC]? = some i) (hne : (insB i).length ≠ 0) (m : MPr) (hm : m.pr = M.pr) :
    ∃ pre y post, encSp m = pre ++ y :: post ∧ (∀ s : Spn, s ∈ pre → s.bh ≤ (((aheadB M F x PC).length : Nat) : Int)) ∧ y.fr ≤ (((aheadB M F x PC).length : Nat) : Int) ∧ (((aheadB M F x PC).length : Nat) : Int) < y.bh ∧ y.f = ((F : Nat) : Int) ∧ y.pc = ((PC : Nat) : Int) := by
  have e4 : m.fns.map MFn.fn = M.fns.map MFn.fn := congrArg Pr.fns hm
  have e5 := congrArg (fun l => l[F]?) e4
  simp only [List.getElem?_map, h2, Option.map_some] at e5
  obtain ⟨x', hx', hxe⟩ := Option.map_eq_some_iff.mp e5
  have hc : x'.code = x.code := congrArg Fn.code hxe
  obtain ⟨pre, post, q1, q2⟩ := enc_at m F x' hx' PC i (by rw [hc]; exact hi)
  have ha := ahead_eq hm hxe PC (F := F)
  rw [ha] at q1 q2
  refine ⟨pre, _, post, q1, fun s hs => (q2 s hs).2, Int.le_refl _, ?_, rfl, rfl⟩
  show ((_ : Nat) : Int) < ((_ : Nat) : Int)
  rw [List.length_append]
  omega
set_option maxHeartbeats 4000000 in
theorem parts_ok (M : MPr) (F PC : Nat) (x : MFn) (i : Ins) (hl : M.lies w) (hF : prog.Forms w) (hr : (chk insP M.pr).1 = 0) (h2 : M.fns[F]? = some x) (hi : x.code[PC]? = some i) : Calls Tryd.prog 6 #[M.val, .int .i64 (F : Int), .int .i64 (PC : Int)] w fun e w' => e = .returned (.bool true) ∧ Below w.heap.size w w' := by
  have hb := boxed w (objP M)
  have hbx : (w.alloc (objP M)).heap[w.heap.size]? = some (objP M) := heap_alloc_new _ _
  obtain ⟨b, c, hc⟩ : ∃ b c, Hid (chk insP M.pr = (0, b, c)) := ⟨_, _, by show _ = _; rw [← hr]⟩
  have hok := right_mem hr hl
  have hxm := List.mem_of_getElem? h2
  have him := List.mem_of_getElem? hi
  have hio := ((hok.2.2.2.2 x.fn (List.mem_map_of_mem hxm)).2.2.2.1 i him).1
  have hop : 0 ≤ i.op ∧ i.op < 66 := Classical.byContradiction fun q => hio.2.1 (formOf_big _ q)
  obtain ⟨y1, y2, y3, y4⟩ := part_byte M F x h2 PC i hi hop
  have hrr : Hid (decide ((chk insR M.pr).1 = 0) = true) := by show decide _ = true; exact decide_eq_true ((right_iff M.pr).mp hr)
  obtain ⟨n, hn⟩ : ∃ n, Hid ((fullB M.pr).length = n) := ⟨_, rfl⟩
  obtain ⟨L, hL⟩ : ∃ L, Hid (fullB M.pr = L) := ⟨_, rfl⟩
  have hLn : Hid (L.length = n) := by show _ = _; rw [← hL.out]; exact hn.out
  have hspo : Hid (∀ m : MPr, m.pr = M.pr → ∃ pre y post, encSp m = pre ++ y :: post ∧ (∀ s : Spn, s ∈ pre → s.bh ≤ (((aheadB M F x PC).length : Nat) : Int)) ∧ y.fr ≤ (((aheadB M F x PC).length : Nat) : Int) ∧ (((aheadB M F x PC).length : Nat) : Int) < y.bh ∧ y.f = ((F : Nat) : Int) ∧ y.pc = ((PC : Nat) : Int)) := fun m hm => spans_of M F PC x i h2 hi y4 m hm
  have hwh : Hid ((∃ pre y post, encSp M = pre ++ y :: post ∧ (∀ s : Spn, s ∈ pre → ¬ (s.f = ((F : Nat) : Int) ∧ s.pc = ((PC : Nat) : Int))) ∧ (y.f = ((F : Nat) : Int) ∧ y.pc = ((PC : Nat) : Int)) ∧ (((aheadB M F x PC).length : Nat) : Int) = y.fr ∧ (0 : Int) = 0) ∨ ((∀ s ∈ encSp M, ¬ (s.f = ((F : Nat) : Int) ∧ s.pc = ((PC : Nat) : Int))) ∧ (((aheadB M F x PC).length : Nat) : Int) = 0 ∧ (0 : Int) = 1)) := by
    obtain ⟨pre, post, q1, q2⟩ := enc_at M F x h2 PC i hi
    exact .inl ⟨pre, _, post, q1, fun s hs => (q2 s hs).1, ⟨rfl, rfl⟩, rfl, rfl⟩
  rw [hL.out] at y1
  rw [hn.out] at y3
  have c1 : ∀ wx, Below w.heap.size w wx → Calls Tryd.prog 14 #[M.val, .int .i64 (F : Int), .int .i64 (PC : Int)] wx _ := fun wx h => where_ok M (hl.later h) (hF.later h) F PC b c hc.out (((aheadB M F x PC).length : Nat) : Int) 0 hwh
  have c2 : ∀ wx, Below w.heap.size w wx → Calls Tryd.prog 8 #[M.val] wx _ := fun wx h => rright_any M wx (hl.later h) true hrr
  have c3 : ∀ wx, Below w.heap.size w wx → Calls Tryd.prog 9 #[] wx _ := fun wx h => speaks_any (hF.later h)
  have c4 : ∀ wx, Below w.heap.size w wx → Calls Tryd.prog 7 #[M.val] wx fun e w' => ∃ va vc, e = .returned (.tuple #[.slice va n vc, .int .i64 0]) ∧ Rows w' 1 va vc (L.map u8c) ∧ (∀ b ∈ blk va, b < w'.heap.size) ∧ Below wx.heap.size wx w' := fun wx h => by
    rw [← hL.out]
    exact encode_full M (hl.later h) (hF.later h) M.pr rfl b c hc.out n hn.out
  have c5 : ∀ wx va vc, Below w.heap.size w wx → Rows wx 1 va vc (L.map u8c) → (∀ b ∈ blk va, b < wx.heap.size) → Calls Tryd.prog 15 #[.slice va n vc, .int .i64 (((aheadB M F x PC).length : Nat) : Int)] wx _ := fun wx va vc hx h1 h2 => spot_hit M.pr hok b c hc.out va vc (by rw [hL.out]; exact h1) h2 (hF.later hx) n hn.out _ F PC hspo
  have hlH : Hid (∀ wx, Below w.heap.size w wx → M.lies wx) := fun wx h => hl.later h
  have hlI := rows_len hl.2.2.1
  have hxI := rows_len (hl.2.2.2.2.2.2 x hxm).1
  have h2I : (F : Int) < M.fns.length := by have := (List.getElem?_eq_some_iff.mp h2).1; omega
  have hiI : (PC : Int) < x.code.length := by have := (List.getElem?_eq_some_iff.mp hi).1; omega
  have hmax := full_len _ hok
  rw [hn.out] at hmax
  obtain ⟨K, hK⟩ : ∃ K, Hid ((aheadB M F x PC).length = K) := ⟨_, rfl⟩
  rw [hK.out] at y1 y2 y3 c1 c5
  have y2I : (5 : Int) ≤ K := by omega
  have y3I : (K : Int) < n := by omega
  have hmI : (n : Int) ≤ 50000 := by omega
  obtain ⟨op, hopE⟩ : ∃ op : Nat, Hid (i.op = op) := ⟨i.op.toNat, by show _ = _; omega⟩
  rw [hopE.out] at hop y1
  rw [Int.toNat_natCast] at y1
  have hop3 : IntKind.u8.wrap (op : Int) = op := by simp [IntKind.wrap, IntKind.signed, IntKind.bits]; omega
  have y5 : ¬ (K : Int) < 5 := by omega
  have y6 : ¬ n ≤ K := by omega
  clear hr hrr hc hF hl hok hspo hwh hio hn hL hmax y4 hK
  go_enter Tryd.func6, Tryd.ntmps6
  go_wp2_with (first
    | (go_at_call 14; (with_reducible refine (c1 _ hb).mono ?_); rintro e w1 ⟨rfl, b1⟩; (have B1 := bthen hb b1); (have p := (b1.block w.heap.size (by rw [World.size_alloc]; omega)).trans hbx); (have q0 := whole_cell p 0 _ rfl); (have q1 := whole_cell p 1 _ rfl); (have q2 := whole_cell p 2 _ rfl); (have q3 := whole_cell p 3 _ rfl); (have ql := (Array.getElem?_eq_some_iff.mp p).1); clear c1)
    | (go_at_call 8; (with_reducible refine (c2 _ B1).mono ?_); rintro e w2 ⟨rfl, b2⟩; (have B2 := bthen B1 b2); (have p2 := (b2.block w.heap.size ql).trans p); clear q0 q1 q2 q3; (have r0 := whole_cell p2 0 _ rfl); (have r1 := whole_cell p2 1 _ rfl); (have r2 := whole_cell p2 2 _ rfl); (have r3 := whole_cell p2 3 _ rfl); (have rl := (Array.getElem?_eq_some_iff.mp p2).1); obtain ⟨fb, fo, fix, fbl, k0, k1, k2, k3⟩ := fn_ix (hlH.out _ B2).2.2.1 F x h2; clear c2)
    | (go_at_call 7; (with_reducible refine (c4 _ B2).mono ?_); rintro e w4 ⟨va, vc, rfl, hR, hbl, b4⟩; (have B4 := bthen B2 b4); (have hRH : Hid (Rows w4 1 va vc (L.map u8c)) := hR); (have hbH : Hid (∀ b ∈ blk va, b < w4.heap.size) := hbl); clear hR hbl r0 r1 r2 r3 fix k0 k1 k2 k3 c4; (have p4 := (b4.block w.heap.size rl).trans p2); (have t3 := whole_cell p4 3 _ rfl); (have tl := (Array.getElem?_eq_some_iff.mp p4).1); obtain ⟨fb', fo', fix, fbl', k0, k1, k2, k3⟩ := fn_ix (hlH.out _ B4).2.2.1 F x h2; obtain ⟨ib, io, iix, ibl, j0, j1, j2, j3, j4⟩ := ins_ix ((hlH.out _ B4).2.2.2.2.2.2 x hxm).1 PC i hi; rw [hopE.out] at j0; obtain ⟨ub, uo, uix, ubl, u0⟩ := u8_ix hRH.out K op y1; rw [hLn.out] at uix))
  go_quiet (fail)
  rename_i nq
  go_wp2_with (first
    | (go_at_call 15; (have b4n : Below w4.heap.size w4 (w4.drewN nq) := below_drewN (Below.refl _ _) _); (have B4n : Below w.heap.size w (w4.drewN nq) := bthen B4 b4n); (have hRn : Rows (w4.drewN nq) 1 va vc (L.map u8c) := hRH.out.later b4n); (have hbn : ∀ b ∈ blk va, b < (w4.drewN nq).heap.size := fun b hb => Nat.lt_of_lt_of_le (hbH.out b hb) b4n.size); (with_reducible refine (c5 _ va vc B4n hRn hbn).mono ?_); rintro e w5 ⟨rfl, b5⟩; (have B5 : Hid (Below w.heap.size w (w5.alloc (.cells #[.int .i64 (F : Int), .int .i64 (PC : Int)] 37))) := bthen (bthen B4n b5) (boxed _ _)); (have s5 : (w5.alloc (.cells #[.int .i64 (F : Int), .int .i64 (PC : Int)] 37)).heap[w5.heap.size]? = some (.cells #[.int .i64 (F : Int), .int .i64 (PC : Int)] 37 (0, 0)) := heap_alloc_new _ _); (have v0 := whole_cell s5 0 _ rfl); (have v1 := whole_cell s5 1 _ rfl))
    | (go_at_call 9; (with_reducible refine (c3 _ B5.out).mono ?_); rintro e w6 ⟨rfl, b6⟩; (have B6 := bthen B5.out b6)))
  go_ret
  exact ⟨rfl, B6⟩
theorem wf_w {n : Int} (h : (Lit.int .i64 n).wf = true) : -9223372036854775808 ≤ n ∧ n ≤ 9223372036854775807 := by
  simp [Lit.wf, IntKind.min, IntKind.max, IntKind.signed, IntKind.bits] at h
  omega
theorem codeparts_any (M : MPr) (f pc : Int) (hl : M.lies w) (hF : prog.Forms w) (hf : (Lit.int .i64 f).wf = true) (hp : (Lit.int .i64 pc).wf = true) : Calls Tryd.prog 6 #[M.val, .int .i64 f, .int .i64 pc] w fun e w' => e = .returned (.bool true) ∧ Below w.heap.size w w' := by
  obtain ⟨f1, f2⟩ := wf_w hf
  obtain ⟨p1, p2⟩ := wf_w hp
  by_cases hr : (chk insP M.pr).1 = 0
  · by_cases h1 : f < 0
    · exact parts_n1 M f pc hl hF hr f1 f2 p1 p2 (enc_none M f pc fun q => by have := q.1; omega) h1
    · by_cases h2 : (M.fns.length : Int) ≤ f
      · exact parts_n2 M f pc hl hF hr f1 f2 p1 p2 (enc_none M f pc fun ⟨_, g, hg, _⟩ => by have := (List.getElem?_eq_some_iff.mp hg).1; omega) (by omega) h2
      · obtain ⟨F, rfl⟩ : ∃ F : Nat, f = F := ⟨f.toNat, by omega⟩
        obtain ⟨x, hx, _⟩ := get_lt M.fns F (by omega)
        by_cases h3 : pc < 0
        · exact parts_n3 M F pc hl hF hr f1 f2 p1 p2 (enc_none M F pc fun ⟨_, g, _, q, _⟩ => by omega) F rfl (by omega) h3
        · by_cases h4 : (x.code.length : Int) ≤ pc
          · refine parts_n4 M F pc hl hF hr f1 f2 p1 p2 (enc_none M F pc fun ⟨_, g, hg, _, q⟩ => ?_) F rfl x hx (by omega) h4
            rw [Int.toNat_natCast, hx] at hg
            simp only [Option.some.injEq] at hg
            subst hg
            omega
          · obtain ⟨PC, rfl⟩ : ∃ PC : Nat, pc = PC := ⟨pc.toNat, by omega⟩
            obtain ⟨i, hi, _⟩ := get_lt x.code PC (by omega)
            exact parts_ok M F PC x i hl hF hr hx hi
  · exact parts_bad M f pc hl hF hr
end
end Go.Proofs.YtkhfimfjndmdlaaDoor.pg
