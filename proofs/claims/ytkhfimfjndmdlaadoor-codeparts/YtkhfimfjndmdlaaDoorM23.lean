/- Bytes put together: the contract of the library's Concat, of two lists of bytes. -/
import Derived.Test.YtkhfimfjndmdlaaDoorM11
import Derived.Lib.AppendZeros
import Derived.Test.YtkhfimfjndmdlaaDoorM16
import Derived.Test.YtkhfimfjndmdlaaDoorM22
namespace Go.Proofs.YtkhfimfjndmdlaaDoor.pg
open Go.ChangeShapes Go.WideShapes Go.ChangeAt Go.RowKit
set_option linter.unusedVariables false
set_option linter.unusedSimpArgs false
set_option maxRecDepth 100000
theorem zero_len (z : Array Value) (n : Nat) : (Builtin.zeroCells z n).size = n * z.size := by simp [Builtin.zeroCells]
theorem grow_any (N : Nat) (h0 : 0 < N) (hN : N ≤ 1000000) (w : World) :
    Calls Tryd.prog 31 #[.slice none 0 0, .int .i64 (N : Int)] w fun e w' => ∃ C, e = .returned (.slice (some ⟨w.heap.size, 0, none⟩) 0 C) ∧ OwnL w' w.heap.size 5 1 (some ⟨w.heap.size, 0, none⟩) C [] ∧ Below w.heap.size w w' := by
  obtain ⟨i5, hi5, hz5, hs5, hb5⟩ := info_of infoB
  have hI : (0 : Int) < N := by omega
  have hrun := fun ty => Lib.run_append_nil_zeros (P := Tryd.prog) w 27 3 ty 5 i5 _ .i64 .i64 Tryd.underlying27 Tryd.underlying3 hi5 hz5 N h0 (by omega) (by omega) (by rw [hb5]; omega)
  have hge := grownCap_ge w N 0 5
  have hle := grownCap_le_maxLen w N 0 5 (by unfold maxLen; omega)
  have hO : OwnL (w.drew.alloc (.cells (Builtin.zeroCells (Value.int .u8 0).cells N ++ Builtin.zeroCells (Value.int .u8 0).cells (grownCap w N 0 5 - N)) 5)) w.heap.size 5 1 (some ⟨w.heap.size, 0, none⟩) (grownCap w N 0 5) [] := by
    refine ⟨rfl, .inr ⟨w.heap.size, grownCap w N 0 5, _, rfl, Nat.le_refl _, heap_alloc_new w.drew _, Nat.zero_le _, hle, ?_, rfl⟩⟩
    rw [Array.size_append, zero_len, zero_len]
    show N * 1 + _ * 1 = _ * 1
    omega
  have hB : Below w.heap.size w (w.drew.alloc (.cells (Builtin.zeroCells (Value.int .u8 0).cells N ++ Builtin.zeroCells (Value.int .u8 0).cells (grownCap w N 0 5 - N)) 5)) := ((Below.refl _ w).drew).trans (boxed w.drew _)
  generalize w.drew.alloc (.cells (Builtin.zeroCells (Value.int .u8 0).cells N ++ Builtin.zeroCells (Value.int .u8 0).cells (grownCap w N 0 5 - N)) 5) = W at *
  generalize grownCap w N 0 5 = C at *
  have hCI : (N : Int) ≤ C := by omega
  unfold maxLen at hle
  have hCm : (C : Int) ≤ 9223372036854775807 := by omega
  go_enter Tryd.func31, Tryd.ntmps31
  go_wp2_with (at_builtin; refine Lib.wpList_append_run _ rfl _ _ _ _ rfl _ _ rfl rfl _ _ (hrun _) ?_)
  go_ret
  exact ⟨C, rfl, hO, hB⟩
theorem sl_ix {w : World} {a : Option Addr} {cap : Nat} {l : List Value} (h : Rows w 1 a cap (l.map fun v => [v])) (i : Nat) (x : Value) (hi : l[i]? = some x) :
    ∃ b o, (∀ wx, (Instr.indexAt 85 (.slice a l.length cap) (.int .i64 (i : Int))).run Tryd.prog wx = .ok (.pointer (some ⟨b, o, none⟩)) wx) ∧ b < w.heap.size ∧ w.cell? ⟨b, o, none⟩ = some x := by
  obtain ⟨b, o, hr, hlt, hc⟩ := h.ix 85 27 Tryd.underlying85 (by kernel_rfl) (fun wx => Tryd.sizeOf27 wx) i (row := [x]) (by simp [hi])
  rw [List.length_map] at hr
  exact ⟨b, o, hr, hlt, hc 0 _ rfl⟩
theorem u8_len (l : List Nat) : ∀ row ∈ l.map u8c, row.length = 1 := by intro r hr; obtain ⟨x, _, rfl⟩ := List.mem_map.mp hr; rfl
theorem u8_one (l : List Nat) : ∀ row ∈ l.map u8c, ∀ u ∈ row, u.oneCell' = true := by intro r hr u hu; obtain ⟨x, _, rfl⟩ := List.mem_map.mp hr; simp only [List.mem_cons, List.not_mem_nil, or_false] at hu; subst hu; rfl
set_option maxHeartbeats 4000000 in
theorem concat_any (A : Nat) (x y : List Nat) (a0 a1 : Option Addr) (c0 c1 : Nat) (w : World) (hR : Rows w 1 (some ⟨A, 0, none⟩) 2 ([Value.slice a0 x.length c0, .slice a1 y.length c1].map fun v => [v])) (hx : Rows w 1 a0 c0 (x.map u8c)) (hy : Rows w 1 a1 c1 (y.map u8c)) (h0 : 0 < x.length + y.length) (hn : x.length + y.length ≤ 1000000) :
    Calls Tryd.prog 19 #[.slice (some ⟨A, 0, none⟩) 2 2] w fun e w' => ∃ va vc, e = .returned (.slice va (x.length + y.length) vc) ∧ OwnL w' w.heap.size 5 1 va vc ((x ++ y).map u8c) ∧ Below w.heap.size w w' := by
  obtain ⟨i5, hi5, hz5, hs5, hb5⟩ := info_of infoB
  obtain ⟨b0, o0, ix0, _, d0⟩ := sl_ix hR 0 _ rfl
  obtain ⟨b1, o1, ix1, _, d1⟩ := sl_ix hR 1 _ rfl
  have cG : ∀ wx, Calls Tryd.prog 31 #[.slice none 0 0, .int .i64 ((x.length : Int) + (y.length : Int))] wx _ := fun wx => grow_any (x.length + y.length) h0 hn wx
  have hxI : Hid (∀ wx, Below w.heap.size w wx → Rows wx 1 a0 c0 (x.map u8c)) := fun wx h => hx.later h
  have hyI : Hid (∀ wx, Below w.heap.size w wx → Rows wx 1 a1 c1 (y.map u8c)) := fun wx h => hy.later h
  have hRI : Hid (Rows w 1 (some ⟨A, 0, none⟩) 2 ([Value.slice a0 x.length c0, .slice a1 y.length c1].map fun v => [v])) := hR
  have hnI : (x.length : Int) + (y.length : Int) ≤ 1000000 := by omega
  clear hx hy hR
  go_enter Tryd.func19, Tryd.ntmps19
  go_wp2_with fail
  go_loopw [3, 11] (fun u i wr => wr = w ∧ ((i = .int .i64 0 ∧ u = .int .i64 0) ∨ (i = .int .i64 1 ∧ u = .int .i64 (x.length : Int)) ∨ (i = .int .i64 2 ∧ u = .int .i64 ((x.length : Int) + (y.length : Int))))) (fun _ i _ => 2 - (intOf i).toNat)
  case atStart => exact ⟨rfl, .inl ⟨rfl, rfl⟩⟩
  case round =>
    obtain ⟨hw, hcs⟩ := hrel
    replace hw := hw.symm
    subst hw
    obtain ⟨rfl, rfl⟩ | ⟨rfl, rfl⟩ | ⟨rfl, rfl⟩ := hcs
    · have e1 : ∀ wx, (Instr.indexAt 85 (.slice (some ⟨A, 0, none⟩) 2 2) (.int .i64 0)).run Tryd.prog wx = .ok (.pointer (some ⟨b0, o0, none⟩)) wx := ix0
      go_wp2
      go_roundw
      case rel => exact ⟨trivial, .inr (.inl ⟨by go_num, by go_num⟩)⟩
      case measure => simp [intOf]
    · have e1 : ∀ wx, (Instr.indexAt 85 (.slice (some ⟨A, 0, none⟩) 2 2) (.int .i64 1)).run Tryd.prog wx = .ok (.pointer (some ⟨b1, o1, none⟩)) wx := ix1
      go_wp2
      go_roundw
      case rel => exact ⟨trivial, .inr (.inr ⟨by go_num, by go_num⟩)⟩
      case measure => simp [intOf]
    · go_wp2_with (go_at_call 31; (with_reducible refine (cG _).mono ?_); rintro e w1 ⟨C, rfl, hO, hB⟩)
      clear cG
      go_loopw [6, 27] (fun u i w2 => Below w.heap.size w w2 ∧ ∃ va vc, ((i = .int .i64 0 ∧ u = .slice va 0 vc ∧ OwnL w2 w.heap.size 5 1 va vc []) ∨ (i = .int .i64 1 ∧ u = .slice va x.length vc ∧ OwnL w2 w.heap.size 5 1 va vc (x.map u8c)) ∨ (i = .int .i64 2 ∧ u = .slice va (x.length + y.length) vc ∧ OwnL w2 w.heap.size 5 1 va vc ((x ++ y).map u8c)))) (fun _ i _ => 2 - (intOf i).toNat)
      case atStart => exact ⟨hB, _, _, .inl ⟨rfl, rfl, hO⟩⟩
      case round =>
        clear hO hB
        obtain ⟨hB, va, vc, ⟨rfl, rfl, hO⟩ | ⟨rfl, rfl, hO⟩ | ⟨rfl, rfl, hO⟩⟩ := hrel
        · have e1 : ∀ wx, (Instr.indexAt 85 (.slice (some ⟨A, 0, none⟩) 2 2) (.int .i64 0)).run Tryd.prog wx = .ok (.pointer (some ⟨b0, o0, none⟩)) wx := ix0
          have d := cell_later hB d0
          go_wp2_with (at_builtin; (refine wpList_app rfl (.tmp 31) (.tmp 32) 27 rfl w.heap.size 5 i5 _ 1 1 Tryd.underlying27 hi5 hz5 hs5 hb5 rfl (by decide) va vc ([]) (by rfl) hO a0 c0 (x.map u8c) (by rw [List.length_map]; rfl) (hxI.out _ hB) (u8_len _) (u8_one _) (by unfold maxLen; simp only [List.length_map, List.length_nil]; omega) (by simp only [List.length_map, List.length_nil]; omega) hB.size ?_); intro va' vc' w3 ho3 hk3 hB3 hbl3; simp only [List.length_append, List.length_map, List.length_nil, List.nil_append, Nat.zero_add] at ho3 ⊢)
          go_roundw
          case rel => exact ⟨below_keep hB hB.size hB3, va', vc', .inr (.inl ⟨by go_num, rfl, ho3⟩)⟩
          case measure => simp [intOf]
        · have e1 : ∀ wx, (Instr.indexAt 85 (.slice (some ⟨A, 0, none⟩) 2 2) (.int .i64 1)).run Tryd.prog wx = .ok (.pointer (some ⟨b1, o1, none⟩)) wx := ix1
          have d := cell_later hB d1
          go_wp2_with (at_builtin; (refine wpList_app rfl (.tmp 31) (.tmp 32) 27 rfl w.heap.size 5 i5 _ 1 1 Tryd.underlying27 hi5 hz5 hs5 hb5 rfl (by decide) va vc (x.map u8c) (by rw [List.length_map]; rfl) hO a1 c1 (y.map u8c) (by rw [List.length_map]; rfl) (hyI.out _ hB) (u8_len _) (u8_one _) (by unfold maxLen; simp only [List.length_map, List.length_nil]; omega) (by simp only [List.length_map, List.length_nil]; omega) hB.size ?_); intro va' vc' w3 ho3 hk3 hB3 hbl3; simp only [List.length_append, List.length_map, List.length_nil, List.nil_append, Nat.zero_add] at ho3 ⊢)
          go_roundw
          case rel => exact ⟨below_keep hB hB.size hB3, va', vc', .inr (.inr ⟨by go_num, rfl, by rw [List.map_append]; exact ho3⟩)⟩
          case measure => simp [intOf]
        · go_wp2
          go_ret
          exact ⟨va, vc, rfl, hO, hB⟩
end Go.Proofs.YtkhfimfjndmdlaaDoor.pg
/- A program is written down: the contracts of written and Encode. -/
namespace Go.Proofs.YtkhfimfjndmdlaaDoor.pg
open Go.ChangeShapes Go.WideShapes Go.ChangeAt Go.RowKit
set_option linter.unusedVariables false
set_option linter.unusedSimpArgs false
set_option maxRecDepth 100000
abbrev Bt (L : List Nat) : Prop := ∀ b ∈ L, b < 256
theorem bt_app {L M : List Nat} (h : Bt L) (k : Bt M) : Bt (L ++ M) := fun b hb => (List.mem_append.mp hb).elim (h b) (k b)
theorem bt_flat {α : Type} (B : α → List Nat) (h : ∀ x, Bt (B x)) (l : List α) : Bt (l.flatMap B) := fun b hb => by
  obtain ⟨x, _, hx⟩ := List.mem_flatMap.mp hb
  exact h x b hx
theorem bt_put (x : Nat) : Bt (putB x) := fun b hb => by
  obtain ⟨i, _, rfl⟩ := List.mem_map.mp hb
  exact octet.gr_lt x i
theorem bt_lis {α : Type} (B : α → List Nat) (h : ∀ x, Bt (B x)) (l : List α) : Bt (lisB B l) := bt_app (bt_put _) (bt_flat B h l)
theorem bt_op (op : Int) (k : Nat) (x : Int) : Bt (opB op k x) := by
  unfold opB
  split
  · intro b hb; simp at hb
  · split
    · exact bt_put _
    · split <;> exact bt_put _
theorem bt_enc (P : Pr) : Bt (encP P) :=
  bt_app (bt_lis _ (fun v => bt_app (bt_put _) (bt_put _)) _) (bt_app (bt_put _) (bt_app (bt_lis _ (fun v => bt_put _) _) (bt_lis _ (fun g => bt_app (bt_put _) (bt_app (bt_put _) (bt_app
    (bt_lis _ (fun s => bt_app (bt_lis casB (fun c => bt_app (bt_put _) (bt_app (bt_put _) (bt_app (bt_put _) (bt_put _)))) _) (bt_put _)) _)
    (bt_lis _ (fun i => bt_app (bt_app (bt_app (bt_app (bt_put _) (bt_op _ _ _)) (bt_op _ _ _)) (bt_op _ _ _)) (bt_op _ _ _)) _)))) _)))
theorem bt_encB (M : MPr) : Bt (encB M) := by
  rw [encB_pr]
  exact bt_app (by intro b hb; have : ∀ b ∈ magicB, b < 256 := by decide
                   exact this b hb) (bt_enc _)
def fl (L : List Nat) : Nat → Nat := fun i => L.getD i 0
theorem fl_lt {L : List Nat} (h : Bt L) (i : Nat) : fl L i < 256 := by
  unfold fl
  rw [List.getD_eq_getElem?_getD]
  cases hi : L[i]? with
  | none => show 0 < 256; decide
  | some b => exact h b (List.mem_of_getElem? hi)
theorem rows_row {w : World} {a : Option Addr} {cap : Nat} {L : List Nat} (h : Rows w 1 a cap (L.map u8c)) (hb : Bt L) : octet.Row w a L.length (fl L) := by
  refine ⟨by have := rows_len h; omega, fl_lt hb, ?_⟩
  rcases h.2.2.2 with h0 | ⟨b, off, ha, _, hc⟩
  · left; simpa using congrArg List.length h0
  · right
    refine ⟨b, off, ha, fun i hi => ?_⟩
    have := (hc i (u8c L[i]) (by simp [hi])).2 0 _ rfl
    rw [Nat.mul_one, Nat.add_zero] at this
    rw [this]
    unfold fl
    rw [List.getD_eq_getElem?_getD, List.getElem?_eq_getElem hi]
    rfl
theorem step_call1 {P : Program} {ops : Array Oper} {o : Oper} {a : Act} {w : World} {K : Act → World → Prop} {Q : Exit → Act → World → Prop} {E : Prop} (hgd : o.guard = none) (f : FuncId) (x : Operand) (t : TypeId)
    (ho : o.op = .call { callee := .value (.func f), args := #[x], argTypes := #[t] }) (vx : Value) (hx : a.eval x = vx) (hcf : (callFunc f #[vx]).run P w = .ok (.enter f #[vx]) w) (R : Ending → World → Prop) (hc : Calls P f #[vx] w R)
    (hK : ∀ e w', R e w' → ∃ v, e = .returned v ∧ K (a.put o.dst v) w') :
    if Region.wanted o (yielded ops a.tmps) = true then Oper.wp P o a w K Q else E := by
  have hw : Region.wanted o (yielded ops a.tmps) = true := by simp [Region.wanted, hgd]
  rw [if_pos hw]
  have hrun : (execOp a.eval o).run P w = .ok (.enter f #[vx]) w := by
    have hf : a.eval (.func f) = .func (.func f) #[] #[] := rfl
    simp [execOp, ho, resolve, invoke, hx, hf, Deferred.ofValue, hcf]
  unfold Oper.wp
  rw [hrun, Oper.upon_enter]
  refine hc.mono fun e w' h => ?_
  obtain ⟨v, rfl, hk⟩ := hK e w' h
  exact hk
theorem cf_concat (args : Array Value) (w : World) : (callFunc 19 args).run Tryd.prog w = .ok (.enter 19 args) w := cf_any Tryd.func19 (by kernel_rfl) (by kernel_rfl) args w
theorem rows_two {w : World} {b : Nat} {v0 v1 : Value} {t : TypeId} (h : w.heap[b]? = some (.cells #[v0, v1] t (0, 0))) : Rows w 1 (some ⟨b, 0, none⟩) 2 ([v0, v1].map fun v => [v]) := by
  refine ⟨by simp, by decide, by simp, .inr ⟨b, 0, rfl, (Array.getElem?_eq_some_iff.mp h).1, fun i row hi => ?_⟩⟩
  match i with
  | 0 => simp at hi; subst hi; exact ⟨rfl, fun j u hj => by match j with | 0 => simp at hj; subst hj; exact whole_cell h 0 _ rfl | j + 1 => simp at hj⟩
  | 1 => simp at hi; subst hi; exact ⟨rfl, fun j u hj => by match j with | 0 => simp at hj; subst hj; exact whole_cell h 1 _ rfl | j + 1 => simp at hj⟩
  | i + 2 => simp at hi
theorem rows_sum {w : World} {A x : Nat} (h : w.heap[A]? = some (objSum x)) : Rows w 1 (some ⟨A, 0, none⟩) 4 ((sumB x).map u8c) := by
  refine ⟨by simp [sumB], by decide, by simp, .inr ⟨A, 0, rfl, (Array.getElem?_eq_some_iff.mp h).1, fun i row hi => ?_⟩⟩
  have hi4 : i < 4 := by have := (List.getElem?_eq_some_iff.mp hi).1; simpa [sumB] using this
  have h4 : i = 0 ∨ i = 1 ∨ i = 2 ∨ i = 3 := by omega
  rcases h4 with rfl | rfl | rfl | rfl
  all_goals
    simp [sumB] at hi
    subst hi
    refine ⟨rfl, fun j u hj => ?_⟩
    match j with
    | 0 =>
      simp at hj
      subst hj
      first
        | exact whole_cell h 0 _ rfl
        | exact whole_cell h 1 _ rfl
        | exact whole_cell h 2 _ rfl
        | exact whole_cell h 3 _ rfl
    | j + 1 => simp at hj
abbrev objW0 : Obj := .cells #[.slice none 0 0, .slice none 0 0, .int .i64 0, .int .i64 0] 64
theorem ws_new (w : World) (lo : Nat) (h : lo ≤ w.heap.size) : WS (w.alloc objW0) lo w.heap.size [] [] 0 0 :=
  ⟨.slice none 0 0, ⟨by rw [World.size_alloc]; omega, none, 0, heap_alloc_new w _, h, own_nil _ _ _ _⟩, none, 0, rfl, own_nil _ _ _ _⟩
section
variable {w : World} {M : MPr}
theorem enc_small (h : prOkP M.pr) : (encB M).length ≤ 50000 := by
  rw [encB_pr, List.length_append]
  have := enc_le _ h
  show 5 + _ ≤ _
  omega
theorem written_bad (hl : M.lies w) (hF : prog.Forms w) (A B C : Int) (hA : chk insP M.pr = (A, B, C)) (h0 : A ≠ 0) :
    Calls Tryd.prog 16 #[M.val] w fun e w' => e = .returned (.tuple #[.pointer none, .int .i64 3]) ∧ Below w.heap.size w w' := by
  have hb := boxed w (objP M)
  have hck : Hid (chk insP M.pr = (A, B, C)) := hA
  have c1 : Calls Tryd.prog 12 #[M.val] (w.alloc (objP M)) _ := check_any M _ (hl.later hb) (hF.later hb) A B C hck
  have hA2 : (A != 0) = true := by simpa using h0
  clear hA h0 hl hF
  go_enter Tryd.func16, Tryd.ntmps16
  go_wp2_with (go_at_call 12; (with_reducible refine c1.mono ?_); rintro e w1 ⟨rfl, hb1⟩)
  go_ret2
  exact ⟨rfl, bthen (bthen hb hb1) (boxed _ _)⟩
theorem written_ok (hl : M.lies w) (hF : prog.Forms w) (B C : Int) (hA : chk insP M.pr = (0, B, C)) :
    Calls Tryd.prog 16 #[M.val] w fun e w' => ∃ g, e = .returned (.tuple #[.pointer (some ⟨g, 0, none⟩), .int .i64 0]) ∧ WS w' w.heap.size g (encB M) (encSp M) M.fns.length 0 ∧ Below w.heap.size w w' := by
  have hb := boxed w (objP M)
  have hck : Hid (chk insP M.pr = (0, B, C)) := hA
  have c1 : Calls Tryd.prog 12 #[M.val] (w.alloc (objP M)) _ := check_any M _ (hl.later hb) (hF.later hb) 0 B C hck
  have hok : prOkP M.pr := right_mem (by rw [hA]) hl
  have c2 : ∀ wx g, WS wx w.heap.size g [] [] 0 0 → Below w.heap.size w wx → Calls Tryd.prog 30 #[.pointer (some ⟨g, 0, none⟩), M.val] wx _ := fun wx g h hx => program_w h M (fun wy hy => hF.later (hx.trans hy)) (fun wy hy => hl.later (hx.trans hy)) (pr_ok hok) (by have := enc_small hok; omega)
  have hbx : (w.alloc (objP M)).heap[w.heap.size]? = some (objP M) := heap_alloc_new _ _
  clear hA hl hF hok
  go_enter Tryd.func16, Tryd.ntmps16
  go_wp2_with (first
    | (go_at_call 12; (with_reducible refine c1.mono ?_); rintro e w1 ⟨rfl, hb1⟩; (have hB1 := bthen hb hb1); (have p1 := (hb1.block w.heap.size (by rw [World.size_alloc]; omega)).trans hbx); (have q0 := whole_cell p1 0 _ rfl); (have q1 := whole_cell p1 1 _ rfl); (have q2 := whole_cell p1 2 _ rfl); (have q3 := whole_cell p1 3 _ rfl); (have ql := (Array.getElem?_eq_some_iff.mp p1).1);
        (have hW : Hid (WS ((w1.alloc (.cells #[.int .i64 B, .int .i64 C] 37)).alloc objW0) w.heap.size (w1.heap.size + 1) [] [] 0 0) := by
          have := ws_new (w1.alloc (.cells #[.int .i64 B, .int .i64 C] 37)) w.heap.size (by have := hB1.size; rw [World.size_alloc]; omega)
          rw [World.size_alloc] at this
          exact this);
        (have hB2 : Hid (Below w.heap.size w ((w1.alloc (.cells #[.int .i64 B, .int .i64 C] 37)).alloc objW0)) := bthen hB1 (boxed2 _ _ _)))
    | (go_at_call 30; (with_reducible refine (c2 _ _ hW.out hB2.out).mono ?_); rintro e w2 ⟨rfl, h2, b2⟩))
  go_ret2
  exact ⟨_, rfl, h2, hB2.out.trans b2⟩
theorem encode_bad (hl : M.lies w) (hF : prog.Forms w) (A B C : Int) (hA : chk insP M.pr = (A, B, C)) (h0 : A ≠ 0) :
    Calls Tryd.prog 7 #[M.val] w fun e w' => e = .returned (.tuple #[.slice none 0 0, .int .i64 3]) ∧ Below w.heap.size w w' := by
  have hb := boxed w (objP M)
  have c1 : Calls Tryd.prog 16 #[M.val] (w.alloc (objP M)) _ := written_bad (hl.later hb) (hF.later hb) A B C hA h0
  clear hA h0 hl hF
  go_enter Tryd.func7, Tryd.ntmps7
  go_wp2_with (go_at_call 16; (with_reducible refine c1.mono ?_); rintro e w1 ⟨rfl, hb1⟩)
  go_ret2
  exact ⟨rfl, bthen hb hb1⟩
set_option maxHeartbeats 4000000 in
theorem encode_ok (hl : M.lies w) (hF : prog.Forms w) (B C : Int) (hA : chk insP M.pr = (0, B, C)) :
    Calls Tryd.prog 7 #[M.val] w fun e w' => ∃ va vc, e = .returned (.tuple #[.slice va (encB M ++ sumB (sumOf (fl (encB M)) (encB M).length)).length vc, .int .i64 0]) ∧ OwnL w' w.heap.size 5 1 va vc ((encB M ++ sumB (sumOf (fl (encB M)) (encB M).length)).map u8c) ∧ Below w.heap.size w w' := by
  have hb := boxed w (objP M)
  have c1 : Calls Tryd.prog 16 #[M.val] (w.alloc (objP M)) _ := written_ok (hl.later hb) (hF.later hb) B C hA
  have hok : prOkP M.pr := right_mem (by rw [hA]) hl
  have hsm := enc_small hok
  have hbt := bt_encB M
  have hX : sumOf (fl (encB M)) (encB M).length < 4294967296 := by unfold sumOf; omega
  have cS : ∀ wx a c, octet.Row wx a (encB M).length (fl (encB M)) → Calls Tryd.prog 18 #[.slice a (encB M).length c] wx fun e w' => e = .returned (.int .u32 ((sumOf (fl (encB M)) (encB M).length : Nat) : Int)) ∧ w' = wx := fun wx a c hx => octet.sum_any a _ c _ wx hx
  have cX : ∀ wx, Calls Tryd.prog 17 #[.int .u32 ((sumOf (fl (encB M)) (encB M).length : Nat) : Int)] wx _ := fun wx => octet.fixed_any _ (by omega) (by omega) wx
  generalize encB M = E at *
  generalize sumOf (fl E) E.length = X at *
  clear hA hl hF hok
  go_enter Tryd.func7, Tryd.ntmps7
  go_wp2_with (first
    | (go_at_call 16; (with_reducible refine c1.mono ?_); rintro e w1 ⟨g, rfl, ⟨s1, ⟨hlo, oa, oc, st⟩, _⟩, hb1⟩; (have hB1 := bthen hb hb1); (have d0 := whole_cell st.bx 0 _ rfl); (have dl := (Array.getElem?_eq_some_iff.mp st.bx).1); (have hRo : Hid (Rows w1 1 oa oc (E.map u8c)) := own_rows st.ow (u8_len _)); (have hrw := rows_row hRo.out hbt))
    | (go_at_call 18; (with_reducible refine (cS _ _ _ hrw).mono ?_); rintro e w' ⟨rfl, hw⟩; replace hw := hw.symm; subst hw)
    | (go_at_call 17; (with_reducible refine (cX _).mono ?_); rintro e w2 ⟨rfl, hb2⟩; (have st2 := (hb2.block g dl).trans st.bx); (have f0 := whole_cell st2 0 _ rfl); (have fl2 := (Array.getElem?_eq_some_iff.mp st2).1)))
  have hB2 : Hid (Below w1.heap.size w1 (w2.alloc (objSum X))) := bthen hb2 (boxed _ _)
  have hy2 : Hid ((w2.alloc (objSum X)).heap[w2.heap.size]? = some (objSum X)) := heap_alloc_new _ _
  have hXs : Hid ((w2.alloc (objSum X)).heap.size = w2.heap.size + 1) := World.size_alloc _ _
  have hEs : (sumB X).length = 4 := rfl
  have cC : ∀ W', Below (w2.heap.size + 1) (w2.alloc (objSum X)) W' → W'.heap[w2.heap.size + 1]? = some (.cells #[.slice oa E.length oc, .slice (some ⟨w2.heap.size, 0, none⟩) 4 4] 27 (0, 0)) → Calls Tryd.prog 19 #[.slice (some ⟨w2.heap.size + 1, 0, none⟩) 2 2] W' fun e w' => ∃ va vc, e = .returned (.slice va (E.length + 4) vc) ∧ OwnL w' W'.heap.size 5 1 va vc ((E ++ sumB X).map u8c) ∧ Below w.heap.size w w' ∧ w.heap.size ≤ W'.heap.size := fun W' hW hc => by
    have hW1 : Below w1.heap.size w1 W' := hB2.out.trans (hW.mono (by have := hb2.size; omega))
    have hWw : Below w.heap.size w W' := bthen hB1 hW1
    exact (concat_any (w2.heap.size + 1) E (sumB X) oa (some ⟨w2.heap.size, 0, none⟩) oc 4 W' (rows_two hc) (hRo.out.later hW1) (rows_sum ((hW.block _ (by omega)).trans hy2.out)) (by omega) (by omega)).mono fun e w' ⟨va, vc, h1, h2, h3⟩ => ⟨va, vc, h1, h2, bthen hWw h3, hWw.size⟩
  have f0W := whole_cell (((boxed w2 (objSum X)).block g fl2).trans st2) 0 _ rfl
  have hXz := hXs.out
  clear f0 d0
  generalize w2.heap.size = S at *
  generalize w2.alloc (objSum X) = W at *
  go_region_law (refine step_call1 rfl 19 _ _ rfl (.slice (some ⟨S + 1, 0, none⟩) 2 2) rfl (cf_concat _ _) _ (cC _ (by rw [← hXs.out]; first | exact boxed _ _ | exact ((Below.refl _ _).drew).trans (boxed _ _) | exact (boxed _ _).drew) (by rw [← hXs.out]; exact heap_alloc_new _ _)) ?_; (rintro e w3 ⟨va, vc, rfl, hO, hB3, hs3⟩); refine ⟨_, rfl, ?_⟩)
  all_goals go_wp2
  all_goals go_ret2
  all_goals exact ⟨va, vc, by rw [List.length_append]; rfl, own_mono hO hs3, hB3⟩
end
end Go.Proofs.YtkhfimfjndmdlaaDoor.pg
/- What is written is read: the least program, and every right one. -/
namespace Go.Proofs.YtkhfimfjndmdlaaDoor.pg
open Go.ChangeShapes Go.WideShapes Go.ChangeAt Go.RowKit
set_option linter.unusedVariables false
set_option linter.unusedSimpArgs false
set_option maxRecDepth 100000
theorem crc_congr (f g : Nat → Nat) (k : Nat) (h : ∀ i, i < k → f i = g i) : octet.crc f k = octet.crc g k := by
  induction k with
  | zero => rfl
  | succ k ih => show octet.iter 8 _ = octet.iter 8 _; rw [ih fun i hi => h i (by omega), h k (by omega)]
theorem has_fl (L : List Nat) : Has (fl L) L.length 0 L := ⟨by omega, fun i b hb => by rw [Nat.zero_add]; unfold fl; rw [List.getD_eq_getElem?_getD, hb]; rfl⟩
theorem fl_app (E S : List Nat) (i : Nat) (h : i < E.length) : fl (E ++ S) i = fl E i := by
  unfold fl
  rw [List.getD_eq_getElem?_getD, List.getD_eq_getElem?_getD, List.getElem?_append_left h]
/-- The bytes of a program, with their sum. -/
def fullB (P : Pr) : List Nat := (magicB ++ encP P) ++ sumB (sumOf (fl (magicB ++ encP P)) (magicB ++ encP P).length)
theorem full_M (M : MPr) : encB M ++ sumB (sumOf (fl (encB M)) (encB M).length) = fullB M.pr := by rw [encB_pr]; rfl
theorem dec_enc (P : Pr) (h : prOkP P) : (dPr (fl (fullB P)) (fullB P).length).1 = P ∧ (dS (fl (fullB P)) (fullB P).length).e = 0 := by
  have H := has_fl (fullB P)
  have hn : (fullB P).length = 5 + (encP P).length + 4 := by unfold fullB; rw [List.length_append, List.length_append]; rfl
  have hsum : sumOf (fl (fullB P)) (5 + (encP P).length) = sumOf (fl (magicB ++ encP P)) (magicB ++ encP P).length := by
    have e : (magicB ++ encP P).length = 5 + (encP P).length := by rw [List.length_append]; rfl
    rw [e]
    unfold sumOf
    rw [crc_congr (fl (fullB P)) (fl (magicB ++ encP P)) _ fun i hi => fl_app _ _ i (by rw [e]; exact hi)]
  generalize hf : fl (fullB P) = f at *
  generalize hN : (fullB P).length = n at *
  have H2 := H
  unfold fullB at H2
  obtain ⟨H3, h3⟩ := Has.app.mp H2
  obtain ⟨h1, h2⟩ := Has.app.mp H3
  have e5 : magicB.length = 5 := rfl
  rw [e5, Nat.zero_add] at h2
  rw [← hsum, List.length_append, e5, Nat.zero_add] at h3
  have hm : rdMag f n = ⟨5, 0, 0⟩ := by unfold rdMag; rw [if_neg (by omega), if_pos (hasB_iff.mpr h1)]
  obtain ⟨a', e1⟩ := fwd_pr P h 5 0 h2
  have hd : dPr f n = (P, ⟨5 + (encP P).length, 0, a'⟩) := by unfold dPr; rw [hm, e1]
  refine ⟨by rw [hd], ?_⟩
  have hs : rdSum f n ⟨5 + (encP P).length, 0, a'⟩ = ⟨5 + (encP P).length + 4, 0, 5 + (encP P).length⟩ := by
    show (if (0 : Int) = 0 then (if n < 5 + (encP P).length + 4 then _ else (⟨5 + (encP P).length + 4, if hasB f n (5 + (encP P).length) (sumB (sumOf f (5 + (encP P).length))) = true then 0 else 41, 5 + (encP P).length⟩ : RS)) else _) = _
    rw [if_pos rfl, if_neg (show ¬ n < 5 + (encP P).length + 4 by omega), if_pos (hasB_iff.mpr h3)]
  unfold dS
  rw [hd]
  show (rdEnd n (rdSum f n ⟨5 + (encP P).length, 0, a'⟩)).e = 0
  rw [hs]
  show (if (0 : Int) = 0 then (⟨5 + (encP P).length + 4, octet.endOf n (5 + (encP P).length + 4), 5 + (encP P).length + 4⟩ : RS) else _).e = 0
  rw [if_pos rfl]
  show octet.endOf n (5 + (encP P).length + 4) = 0
  unfold octet.endOf
  rw [if_neg (by omega)]
theorem bt_magic : Bt magicB := by decide
theorem full_bt (P : Pr) : Bt (fullB P) := bt_app (bt_app bt_magic (bt_enc _)) (by
  have hx : sumOf (fl (magicB ++ encP P)) (magicB ++ encP P).length < 4294967296 := by unfold sumOf; omega
  intro b hb
  obtain ⟨i, hi, rfl⟩ := List.getElem_of_mem hb
  have := sumB_lt _ hx i
  rw [List.getD_eq_getElem?_getD, List.getElem?_eq_getElem hi] at this
  exact this)
theorem full_len (P : Pr) (h : prOkP P) : (fullB P).length ≤ 50000 := by
  have := enc_le _ h
  unfold fullB
  rw [List.length_append, List.length_append]
  show 5 + _ + 4 ≤ _
  omega
def leastP : Pr := ⟨[], 0, [], [⟨0, 0, [⟨45, 0, 0, 0, 0⟩], []⟩]⟩
theorem least_chk : chk insP leastP = (0, 0, 0) := by decide
theorem least_ok : prOkP leastP := right_ok (by rw [least_chk]) (by simp [leastP]) (by intro f hf i hi; simp only [leastP, List.mem_singleton] at hf; subst hf; simp only [List.mem_singleton] at hi; subst hi; exact i64_zero)
theorem least_len : (fullB leastP).length = 18 := by
  unfold fullB
  rw [List.length_append, List.length_append]
  show 5 + (encP leastP).length + 4 = 18
  have : (encP leastP).length = 9 := by decide
  omega
theorem nil_dS (f : Nat → Nat) : (dS f 0).e = 40 ∧ (dS f 0).at_ = 0 := by
  have hm : rdMag f 0 = ⟨0, 40, 0⟩ := by
    unfold rdMag
    rw [if_pos (by omega), if_neg (fun h => by have := (hasB_iff.mp h).1; simp at this)]
  have hd : (dPr f 0).2 = ⟨0, 40, 0⟩ := by unfold dPr; rw [hm]; rfl
  unfold dS
  rw [hd]
  exact ⟨rfl, rfl⟩
abbrev leastM (b : Nat) : MPr := ⟨none, 0, [], 0, none, 0, [], some ⟨b + 1, 0, none⟩, 1, [⟨0, 0, some ⟨b, 0, none⟩, 1, [⟨45, 0, 0, 0, 0⟩], none, 0, []⟩]⟩
theorem leastM_pr (b : Nat) : (leastM b).pr = leastP := rfl
theorem leastM_lies {w : World} {b : Nat} (h0 : w.heap[b]? = some (.cells #[.int .i64 45, .int .i64 0, .int .i64 0, .int .i64 0, .int .i64 0] 51 (0, 0))) (h1 : w.heap[b + 1]? = some (.cells #[.int .i64 0, .int .i64 0, .slice (some ⟨b, 0, none⟩) 1 1, .slice none 0 0] 48 (0, 0))) : (leastM b).lies w := by
  have z := i64_zero
  have q : I64 45 := by unfold I64; omega
  refine ⟨⟨Nat.le_refl _, Nat.zero_le _, fun _ => ⟨rfl, rfl⟩, .inl rfl⟩, ⟨Nat.le_refl _, Nat.zero_le _, fun _ => ⟨rfl, rfl⟩, .inl rfl⟩, rows_one h1 rfl, by simp, z, by simp, fun f hf => ?_⟩
  simp only [List.mem_singleton] at hf
  subst hf
  refine ⟨rows_one h0 rfl, ⟨Nat.le_refl _, Nat.zero_le _, fun _ => ⟨rfl, rfl⟩, .inl rfl⟩, fun x hx => ?_, by simp, z, z⟩
  simp only [List.mem_singleton] at hx
  subst hx
  exact ⟨q, z, z, z, z⟩
theorem least_any (w : World) : Calls Tryd.prog 21 #[] w fun e w' => ∃ b, e = .returned (leastM b).val ∧ (leastM b).lies w' ∧ Below w.heap.size w w' := by
  go_enter Tryd.func21, Tryd.ntmps21
  go_wp2
  have hb : Below w.heap.size w (((w.alloc (.cells #[.slice none 0 0, .int .i64 0, .slice none 0 0, .slice (some ⟨w.heap.size + 1 + 1, 0, none⟩) 1 1] 26)).alloc (.cells #[.int .i64 45, .int .i64 0, .int .i64 0, .int .i64 0, .int .i64 0] 51)).alloc (.cells #[.int .i64 0, .int .i64 0, .slice (some ⟨w.heap.size + 1, 0, none⟩) 1 1, .slice none 0 0] 48)) := boxed3 w _ _ _
  have h1 := two_first (w.alloc (.cells #[.slice none 0 0, .int .i64 0, .slice none 0 0, .slice (some ⟨w.heap.size + 1 + 1, 0, none⟩) 1 1] 26)) (.cells #[.int .i64 45, .int .i64 0, .int .i64 0, .int .i64 0, .int .i64 0] 51) (.cells #[.int .i64 0, .int .i64 0, .slice (some ⟨w.heap.size + 1, 0, none⟩) 1 1, .slice none 0 0] 48)
  have h2 := two_second (w.alloc (.cells #[.slice none 0 0, .int .i64 0, .slice none 0 0, .slice (some ⟨w.heap.size + 1 + 1, 0, none⟩) 1 1] 26)) (.cells #[.int .i64 45, .int .i64 0, .int .i64 0, .int .i64 0, .int .i64 0] 51) (.cells #[.int .i64 0, .int .i64 0, .slice (some ⟨w.heap.size + 1, 0, none⟩) 1 1, .slice none 0 0] 48)
  have h0 := (two_old (w.alloc (.cells #[.slice none 0 0, .int .i64 0, .slice none 0 0, .slice (some ⟨w.heap.size + 1 + 1, 0, none⟩) 1 1] 26)) (.cells #[.int .i64 45, .int .i64 0, .int .i64 0, .int .i64 0, .int .i64 0] 51) (.cells #[.int .i64 0, .int .i64 0, .slice (some ⟨w.heap.size + 1, 0, none⟩) 1 1, .slice none 0 0] 48) w.heap.size (by rw [World.size_alloc]; omega)).trans (heap_alloc_new _ _)
  rw [World.size_alloc] at h1 h2
  refine bodyPost_ret (v := (leastM (w.heap.size + 1)).val) ?_ rfl ⟨w.heap.size + 1, rfl, leastM_lies h1 h2, hb⟩
  simp [results, Tryd.results21, go_sem, whole_cell h0 0 _ rfl, whole_cell h0 1 _ rfl, whole_cell h0 2 _ rfl, whole_cell h0 3 _ rfl]
end Go.Proofs.YtkhfimfjndmdlaaDoor.pg
