/- Bytes put together: the contract of the library's Concat, of two lists of bytes. -/
import Derived.Test.YtonkcnaijcpfdaaGreatDoorM11
import Derived.Lib.AppendZeros
import Derived.Test.YtonkcnaijcpfdaaGreatDoorM16
import Derived.Test.YtonkcnaijcpfdaaGreatDoorM22
import Derived.Test.YtonkcnaijcpfdaaGreatDoorM10
import Derived.Test.YtonkcnaijcpfdaaGreatDoorM14
import Derived.Laws.AppendOwnNone
namespace Go.Proofs.YtonkcnaijcpfdaaGreatDoor.pg
open Go.ChangeShapes Go.WideShapes Go.ChangeAt Go.RowKit
set_option linter.unusedVariables false
set_option linter.unusedSimpArgs false
set_option maxRecDepth 100000
theorem zero_len (z : Array Value) (n : Nat) : (Builtin.zeroCells z n).size = n * z.size := by simp [Builtin.zeroCells]
theorem grow_any (N : Nat) (h0 : 0 < N) (hN : N ≤ 1000000) (w : World) :
    Calls Tryz.prog 32 #[.slice none 0 0, .int .i64 (N : Int)] w fun e w' => ∃ C, e = .returned (.slice (some ⟨w.heap.size, 0, none⟩) 0 C) ∧ OwnL w' w.heap.size 5 1 (some ⟨w.heap.size, 0, none⟩) C [] ∧ Below w.heap.size w w' := by
  obtain ⟨i5, hi5, hz5, hs5, hb5⟩ := info_of infoB
  have hI : (0 : Int) < N := by omega
  have hrun := fun ty => Lib.run_append_nil_zeros (P := Tryz.prog) w 28 3 ty 5 i5 _ .i64 .i64 Tryz.underlying28 Tryz.underlying3 hi5 hz5 N h0 (by omega) (by omega) (by rw [hb5]; omega)
  have hge := grownCap_ge w N 0 5
  have hle := grownCap_le_maxLen w N 0 5 (by unfold maxLen; omega)
  have hO : OwnL (w.drew.alloc (.cells (Builtin.zeroCells (Value.int .u8 0).cells N ++ Builtin.zeroCells (Value.int .u8 0).cells (grownCap w N 0 5 - N)) 5)) w.heap.size 5 1 (some ⟨w.heap.size, 0, none⟩) (grownCap w N 0 5) [] := by
    refine ⟨rfl, .inr ⟨w.heap.size, grownCap w N 0 5, _, rfl, Nat.le_refl _, heap_alloc_new w.drew _, Nat.zero_le _, hle, ?_, rfl⟩⟩
    rw [Array.size_append, zero_len, zero_len]
    show N * 1 + _ * 1 = _ * 1
    omega
  have hB : Below w.heap.size w (w.drew.alloc (.cells (Builtin.zeroCells (Value.int .u8 0).cells N ++ Builtin.zeroCells (Value.int .u8 0).cells (grownCap w N 0 5 - N)) 5)) := ((Below.refl _ w).drew).trans (boxed w.drew _)
  generalize w.drew.alloc (.cells (Builtin.zeroCells (Value.int .u8 0).cells N ++ Builtin.zeroCells (Value.int .u8 0).cells (grownCap w N 0 5 - N)) 5) = W at *
  generalize grownCap w N 0 5 = C at *
  have hCI : (N : Int) ≤ C := by omega
  unfold maxLen at hle
  have hCm : (C : Int) ≤ 9223372036854775807 := by omega
  go_enter Tryz.func32, Tryz.ntmps32
  go_wp2_with (at_builtin; refine Lib.wpList_append_run _ rfl _ _ _ _ rfl _ _ rfl rfl _ _ (hrun _) ?_)
  go_ret
  exact ⟨C, rfl, hO, hB⟩
theorem sl_ix {w : World} {a : Option Addr} {cap : Nat} {l : List Value} (h : Rows w 1 a cap (l.map fun v => [v])) (i : Nat) (x : Value) (hi : l[i]? = some x) :
    ∃ b o, (∀ wx, (Instr.indexAt 90 (.slice a l.length cap) (.int .i64 (i : Int))).run Tryz.prog wx = .ok (.pointer (some ⟨b, o, none⟩)) wx) ∧ b < w.heap.size ∧ w.cell? ⟨b, o, none⟩ = some x := by
  obtain ⟨b, o, hr, hlt, hc⟩ := h.ix 90 28 Tryz.underlying90 (by kernel_rfl) (fun wx => Tryz.sizeOf28 wx) i (row := [x]) (by simp [hi])
  rw [List.length_map] at hr
  exact ⟨b, o, hr, hlt, hc 0 _ rfl⟩
theorem u8_len (l : List Nat) : ∀ row ∈ l.map u8c, row.length = 1 := by intro r hr; obtain ⟨x, _, rfl⟩ := List.mem_map.mp hr; rfl
theorem u8_one (l : List Nat) : ∀ row ∈ l.map u8c, ∀ u ∈ row, u.oneCell' = true := by intro r hr u hu; obtain ⟨x, _, rfl⟩ := List.mem_map.mp hr; simp only [List.mem_cons, List.not_mem_nil, or_false] at hu; subst hu; rfl
set_option maxHeartbeats 4000000 in
theorem concat_any (A : Nat) (x y : List Nat) (a0 a1 : Option Addr) (c0 c1 : Nat) (w : World) (hR : Rows w 1 (some ⟨A, 0, none⟩) 2 ([Value.slice a0 x.length c0, .slice a1 y.length c1].map fun v => [v])) (hx : Rows w 1 a0 c0 (x.map u8c)) (hy : Rows w 1 a1 c1 (y.map u8c)) (h0 : 0 < x.length + y.length) (hn : x.length + y.length ≤ 1000000) :
    Calls Tryz.prog 21 #[.slice (some ⟨A, 0, none⟩) 2 2] w fun e w' => ∃ va vc, e = .returned (.slice va (x.length + y.length) vc) ∧ OwnL w' w.heap.size 5 1 va vc ((x ++ y).map u8c) ∧ Below w.heap.size w w' := by
  obtain ⟨i5, hi5, hz5, hs5, hb5⟩ := info_of infoB
  obtain ⟨b0, o0, ix0, _, d0⟩ := sl_ix hR 0 _ rfl
  obtain ⟨b1, o1, ix1, _, d1⟩ := sl_ix hR 1 _ rfl
  have cG : ∀ wx, Calls Tryz.prog 32 #[.slice none 0 0, .int .i64 ((x.length : Int) + (y.length : Int))] wx _ := fun wx => grow_any (x.length + y.length) h0 hn wx
  have hxI : Hid (∀ wx, Below w.heap.size w wx → Rows wx 1 a0 c0 (x.map u8c)) := fun wx h => hx.later h
  have hyI : Hid (∀ wx, Below w.heap.size w wx → Rows wx 1 a1 c1 (y.map u8c)) := fun wx h => hy.later h
  have hRI : Hid (Rows w 1 (some ⟨A, 0, none⟩) 2 ([Value.slice a0 x.length c0, .slice a1 y.length c1].map fun v => [v])) := hR
  have hnI : (x.length : Int) + (y.length : Int) ≤ 1000000 := by omega
  clear hx hy hR
  go_enter Tryz.func21, Tryz.ntmps21
  go_wp2_with fail
  go_loopw [3, 11] (fun u i wr => wr = w ∧ ((i = .int .i64 0 ∧ u = .int .i64 0) ∨ (i = .int .i64 1 ∧ u = .int .i64 (x.length : Int)) ∨ (i = .int .i64 2 ∧ u = .int .i64 ((x.length : Int) + (y.length : Int))))) (fun _ i _ => 2 - (intOf i).toNat)
  case atStart => exact ⟨rfl, .inl ⟨rfl, rfl⟩⟩
  case round =>
    obtain ⟨hw, hcs⟩ := hrel
    replace hw := hw.symm
    subst hw
    obtain ⟨rfl, rfl⟩ | ⟨rfl, rfl⟩ | ⟨rfl, rfl⟩ := hcs
    · have e1 : ∀ wx, (Instr.indexAt 90 (.slice (some ⟨A, 0, none⟩) 2 2) (.int .i64 0)).run Tryz.prog wx = .ok (.pointer (some ⟨b0, o0, none⟩)) wx := ix0
      go_wp2
      go_roundw
      case rel => exact ⟨trivial, .inr (.inl ⟨by go_num, by go_num⟩)⟩
      case measure => simp [intOf]
    · have e1 : ∀ wx, (Instr.indexAt 90 (.slice (some ⟨A, 0, none⟩) 2 2) (.int .i64 1)).run Tryz.prog wx = .ok (.pointer (some ⟨b1, o1, none⟩)) wx := ix1
      go_wp2
      go_roundw
      case rel => exact ⟨trivial, .inr (.inr ⟨by go_num, by go_num⟩)⟩
      case measure => simp [intOf]
    · go_wp2_with (go_at_call 32; (with_reducible refine (cG _).mono ?_); rintro e w1 ⟨C, rfl, hO, hB⟩)
      clear cG
      go_loopw [6, 27] (fun u i w2 => Below w.heap.size w w2 ∧ ∃ va vc, ((i = .int .i64 0 ∧ u = .slice va 0 vc ∧ OwnL w2 w.heap.size 5 1 va vc []) ∨ (i = .int .i64 1 ∧ u = .slice va x.length vc ∧ OwnL w2 w.heap.size 5 1 va vc (x.map u8c)) ∨ (i = .int .i64 2 ∧ u = .slice va (x.length + y.length) vc ∧ OwnL w2 w.heap.size 5 1 va vc ((x ++ y).map u8c)))) (fun _ i _ => 2 - (intOf i).toNat)
      case atStart => exact ⟨hB, _, _, .inl ⟨rfl, rfl, hO⟩⟩
      case round =>
        clear hO hB
        obtain ⟨hB, va, vc, ⟨rfl, rfl, hO⟩ | ⟨rfl, rfl, hO⟩ | ⟨rfl, rfl, hO⟩⟩ := hrel
        · have e1 : ∀ wx, (Instr.indexAt 90 (.slice (some ⟨A, 0, none⟩) 2 2) (.int .i64 0)).run Tryz.prog wx = .ok (.pointer (some ⟨b0, o0, none⟩)) wx := ix0
          have d := cell_later hB d0
          go_wp2_with (at_builtin; (refine wpList_app rfl (.tmp 31) (.tmp 32) 28 rfl w.heap.size 5 i5 _ 1 1 Tryz.underlying28 hi5 hz5 hs5 hb5 rfl (by decide) va vc ([]) (by rfl) hO a0 c0 (x.map u8c) (by rw [List.length_map]; rfl) (hxI.out _ hB) (u8_len _) (u8_one _) (by unfold maxLen; simp only [List.length_map, List.length_nil]; omega) (by simp only [List.length_map, List.length_nil]; omega) hB.size ?_); intro va' vc' w3 ho3 hk3 hB3 hbl3; simp only [List.length_append, List.length_map, List.length_nil, List.nil_append, Nat.zero_add] at ho3 ⊢)
          go_roundw
          case rel => exact ⟨below_keep hB hB.size hB3, va', vc', .inr (.inl ⟨by go_num, rfl, ho3⟩)⟩
          case measure => simp [intOf]
        · have e1 : ∀ wx, (Instr.indexAt 90 (.slice (some ⟨A, 0, none⟩) 2 2) (.int .i64 1)).run Tryz.prog wx = .ok (.pointer (some ⟨b1, o1, none⟩)) wx := ix1
          have d := cell_later hB d1
          go_wp2_with (at_builtin; (refine wpList_app rfl (.tmp 31) (.tmp 32) 28 rfl w.heap.size 5 i5 _ 1 1 Tryz.underlying28 hi5 hz5 hs5 hb5 rfl (by decide) va vc (x.map u8c) (by rw [List.length_map]; rfl) hO a1 c1 (y.map u8c) (by rw [List.length_map]; rfl) (hyI.out _ hB) (u8_len _) (u8_one _) (by unfold maxLen; simp only [List.length_map, List.length_nil]; omega) (by simp only [List.length_map, List.length_nil]; omega) hB.size ?_); intro va' vc' w3 ho3 hk3 hB3 hbl3; simp only [List.length_append, List.length_map, List.length_nil, List.nil_append, Nat.zero_add] at ho3 ⊢)
          go_roundw
          case rel => exact ⟨below_keep hB hB.size hB3, va', vc', .inr (.inr ⟨by go_num, rfl, by rw [List.map_append]; exact ho3⟩)⟩
          case measure => simp [intOf]
        · go_wp2
          go_ret
          exact ⟨va, vc, rfl, hO, hB⟩
end Go.Proofs.YtonkcnaijcpfdaaGreatDoor.pg
/- A program is written down: the contracts of written and Encode. -/
namespace Go.Proofs.YtonkcnaijcpfdaaGreatDoor.pg
open Go.ChangeShapes Go.WideShapes Go.ChangeAt Go.RowKit
set_option linter.unusedVariables false
set_option linter.unusedSimpArgs false
set_option maxRecDepth 100000
abbrev Bt (L : List Nat) : Prop := ∀ b ∈ L, b < 256
theorem bt_app {L M : List Nat} (h : Bt L) (k : Bt M) : Bt (L ++ M) := fun b hb => (List.mem_append.mp hb).elim (h b) (k b)
theorem bt_flat {α : Type} (B : α → List Nat) (h : ∀ x, Bt (B x)) (l : List α) : Bt (l.flatMap B) := fun b hb => by
  obtain ⟨x, _, hx⟩ := List.mem_flatMap.mp hb
  exact h x b hx
theorem bt_put (x : Nat) : Bt (putB x) := fun b hb => by
  obtain ⟨i, _, rfl⟩ := List.mem_map.mp hb
  exact octet.gr_lt x i
theorem bt_lis {α : Type} (B : α → List Nat) (h : ∀ x, Bt (B x)) (l : List α) : Bt (lisB B l) := bt_app (bt_put _) (bt_flat B h l)
theorem bt_op (op : Int) (k : Nat) (x : Int) : Bt (opB op k x) := by
  unfold opB
  split
  · intro b hb; simp at hb
  · split
    · exact bt_put _
    · split <;> exact bt_put _
theorem bt_enc (P : Pr) : Bt (encP P) :=
  bt_app (bt_lis _ (fun v => bt_app (bt_put _) (bt_put _)) _) (bt_app (bt_put _) (bt_app (bt_lis _ (fun v => bt_put _) _) (bt_lis _ (fun g => bt_app (bt_put _) (bt_app (bt_put _) (bt_app
    (bt_lis _ (fun s => bt_app (bt_lis casB (fun c => bt_app (bt_put _) (bt_app (bt_put _) (bt_app (bt_put _) (bt_put _)))) _) (bt_put _)) _)
    (bt_lis _ (fun i => bt_app (bt_app (bt_app (bt_app (bt_put _) (bt_op _ _ _)) (bt_op _ _ _)) (bt_op _ _ _)) (bt_op _ _ _)) _)))) _)))
theorem bt_encB (M : MPr) : Bt (encB M) := by
  rw [encB_pr]
  exact bt_app (by intro b hb; have : ∀ b ∈ magicB, b < 256 := by decide
                   exact this b hb) (bt_enc _)
def fl (L : List Nat) : Nat → Nat := fun i => L.getD i 0
theorem fl_lt {L : List Nat} (h : Bt L) (i : Nat) : fl L i < 256 := by
  unfold fl
  rw [List.getD_eq_getElem?_getD]
  cases hi : L[i]? with
  | none => show 0 < 256; decide
  | some b => exact h b (List.mem_of_getElem? hi)
theorem rows_row {w : World} {a : Option Addr} {cap : Nat} {L : List Nat} (h : Rows w 1 a cap (L.map u8c)) (hb : Bt L) : octet.Row w a L.length (fl L) := by
  refine ⟨by have := rows_len h; omega, fl_lt hb, ?_⟩
  rcases h.2.2.2 with h0 | ⟨b, off, ha, _, hc⟩
  · left; simpa using congrArg List.length h0
  · right
    refine ⟨b, off, ha, fun i hi => ?_⟩
    have := (hc i (u8c L[i]) (by simp [hi])).2 0 _ rfl
    rw [Nat.mul_one, Nat.add_zero] at this
    rw [this]
    unfold fl
    rw [List.getD_eq_getElem?_getD, List.getElem?_eq_getElem hi]
    rfl
theorem step_call1 {P : Program} {ops : Array Oper} {o : Oper} {a : Act} {w : World} {K : Act → World → Prop} {Q : Exit → Act → World → Prop} {E : Prop} (hgd : o.guard = none) (f : FuncId) (x : Operand) (t : TypeId)
    (ho : o.op = .call { callee := .value (.func f), args := #[x], argTypes := #[t] }) (vx : Value) (hx : a.eval x = vx) (hcf : (callFunc f #[vx]).run P w = .ok (.enter f #[vx]) w) (R : Ending → World → Prop) (hc : Calls P f #[vx] w R)
    (hK : ∀ e w', R e w' → ∃ v, e = .returned v ∧ K (a.put o.dst v) w') :
    if Region.wanted o (yielded ops a.tmps) = true then Oper.wp P o a w K Q else E := by
  have hw : Region.wanted o (yielded ops a.tmps) = true := by simp [Region.wanted, hgd]
  rw [if_pos hw]
  have hrun : (execOp a.eval o).run P w = .ok (.enter f #[vx]) w := by
    have hf : a.eval (.func f) = .func (.func f) #[] #[] := rfl
    simp [execOp, ho, resolve, invoke, hx, hf, Deferred.ofValue, hcf]
  unfold Oper.wp
  rw [hrun, Oper.upon_enter]
  refine hc.mono fun e w' h => ?_
  obtain ⟨v, rfl, hk⟩ := hK e w' h
  exact hk
theorem cf_concat (args : Array Value) (w : World) : (callFunc 21 args).run Tryz.prog w = .ok (.enter 21 args) w := cf_any Tryz.func21 (by kernel_rfl) (by kernel_rfl) args w
theorem rows_two {w : World} {b : Nat} {v0 v1 : Value} {t : TypeId} (h : w.heap[b]? = some (.cells #[v0, v1] t (0, 0))) : Rows w 1 (some ⟨b, 0, none⟩) 2 ([v0, v1].map fun v => [v]) := by
  refine ⟨by simp, by decide, by simp, .inr ⟨b, 0, rfl, (Array.getElem?_eq_some_iff.mp h).1, fun i row hi => ?_⟩⟩
  match i with
  | 0 => simp at hi; subst hi; exact ⟨rfl, fun j u hj => by match j with | 0 => simp at hj; subst hj; exact whole_cell h 0 _ rfl | j + 1 => simp at hj⟩
  | 1 => simp at hi; subst hi; exact ⟨rfl, fun j u hj => by match j with | 0 => simp at hj; subst hj; exact whole_cell h 1 _ rfl | j + 1 => simp at hj⟩
  | i + 2 => simp at hi
theorem rows_sum {w : World} {A x : Nat} (h : w.heap[A]? = some (objSum x)) : Rows w 1 (some ⟨A, 0, none⟩) 4 ((sumB x).map u8c) := by
  refine ⟨by simp [sumB], by decide, by simp, .inr ⟨A, 0, rfl, (Array.getElem?_eq_some_iff.mp h).1, fun i row hi => ?_⟩⟩
  have hi4 : i < 4 := by have := (List.getElem?_eq_some_iff.mp hi).1; simpa [sumB] using this
  have h4 : i = 0 ∨ i = 1 ∨ i = 2 ∨ i = 3 := by omega
  rcases h4 with rfl | rfl | rfl | rfl
  all_goals
    simp [sumB] at hi
    subst hi
    refine ⟨rfl, fun j u hj => ?_⟩
    match j with
    | 0 =>
      simp at hj
      subst hj
      first
        | exact whole_cell h 0 _ rfl
        | exact whole_cell h 1 _ rfl
        | exact whole_cell h 2 _ rfl
        | exact whole_cell h 3 _ rfl
    | j + 1 => simp at hj
abbrev objW0 : Obj := .cells #[.slice none 0 0, .slice none 0 0, .int .i64 0, .int .i64 0] 68
theorem ws_new (w : World) (lo : Nat) (h : lo ≤ w.heap.size) : WS (w.alloc objW0) lo w.heap.size [] [] 0 0 :=
  ⟨.slice none 0 0, ⟨by rw [World.size_alloc]; omega, none, 0, heap_alloc_new w _, h, own_nil _ _ _ _⟩, none, 0, rfl, own_nil _ _ _ _⟩
section
variable {w : World} {M : MPr}
theorem enc_small (h : prOkP M.pr) : (encB M).length ≤ 50000 := by
  rw [encB_pr, List.length_append]
  have := enc_le _ h
  show 5 + _ ≤ _
  omega
theorem written_bad (hl : M.lies w) (hF : prog.Forms w) (A B C : Int) (hA : chk insP M.pr = (A, B, C)) (h0 : A ≠ 0) :
    Calls Tryz.prog 18 #[M.val] w fun e w' => e = .returned (.tuple #[.pointer none, .int .i64 3]) ∧ Below w.heap.size w w' := by
  have hb := boxed w (objP M)
  have hck : Hid (chk insP M.pr = (A, B, C)) := hA
  have c1 : Calls Tryz.prog 30 #[M.val] (w.alloc (objP M)) _ := check_any M _ (hl.later hb) (hF.later hb) A B C hck
  have hA2 : (A != 0) = true := by simpa using h0
  clear hA h0 hl hF
  go_enter Tryz.func18, Tryz.ntmps18
  go_wp2_with (go_at_call 30; (with_reducible refine c1.mono ?_); rintro e w1 ⟨rfl, hb1⟩)
  go_ret2
  exact ⟨rfl, bthen (bthen hb hb1) (boxed _ _)⟩
theorem written_ok (hl : M.lies w) (hF : prog.Forms w) (B C : Int) (hA : chk insP M.pr = (0, B, C)) :
    Calls Tryz.prog 18 #[M.val] w fun e w' => ∃ g, e = .returned (.tuple #[.pointer (some ⟨g, 0, none⟩), .int .i64 0]) ∧ WS w' w.heap.size g (encB M) (encSp M) M.fns.length 0 ∧ Below w.heap.size w w' := by
  have hb := boxed w (objP M)
  have hck : Hid (chk insP M.pr = (0, B, C)) := hA
  have c1 : Calls Tryz.prog 30 #[M.val] (w.alloc (objP M)) _ := check_any M _ (hl.later hb) (hF.later hb) 0 B C hck
  have hok : prOkP M.pr := right_mem (by rw [hA]) hl
  have c2 : ∀ wx g, WS wx w.heap.size g [] [] 0 0 → Below w.heap.size w wx → Calls Tryz.prog 31 #[.pointer (some ⟨g, 0, none⟩), M.val] wx _ := fun wx g h hx => program_w h M (fun wy hy => hF.later (hx.trans hy)) (fun wy hy => hl.later (hx.trans hy)) (pr_ok hok) (by have := enc_small hok; omega)
  have hbx : (w.alloc (objP M)).heap[w.heap.size]? = some (objP M) := heap_alloc_new _ _
  clear hA hl hF hok
  go_enter Tryz.func18, Tryz.ntmps18
  go_wp2_with (first
    | (go_at_call 30; (with_reducible refine c1.mono ?_); rintro e w1 ⟨rfl, hb1⟩; (have hB1 := bthen hb hb1); (have p1 := (hb1.block w.heap.size (by rw [World.size_alloc]; omega)).trans hbx); (have q0 := whole_cell p1 0 _ rfl); (have q1 := whole_cell p1 1 _ rfl); (have q2 := whole_cell p1 2 _ rfl); (have q3 := whole_cell p1 3 _ rfl); (have ql := (Array.getElem?_eq_some_iff.mp p1).1);
        (have hW : Hid (WS ((w1.alloc (.cells #[.int .i64 B, .int .i64 C] 49)).alloc objW0) w.heap.size (w1.heap.size + 1) [] [] 0 0) := by
          have := ws_new (w1.alloc (.cells #[.int .i64 B, .int .i64 C] 49)) w.heap.size (by have := hB1.size; rw [World.size_alloc]; omega)
          rw [World.size_alloc] at this
          exact this);
        (have hB2 : Hid (Below w.heap.size w ((w1.alloc (.cells #[.int .i64 B, .int .i64 C] 49)).alloc objW0)) := bthen hB1 (boxed2 _ _ _)))
    | (go_at_call 31; (with_reducible refine (c2 _ _ hW.out hB2.out).mono ?_); rintro e w2 ⟨rfl, h2, b2⟩))
  go_ret2
  exact ⟨_, rfl, h2, hB2.out.trans b2⟩
theorem encode_bad (hl : M.lies w) (hF : prog.Forms w) (A B C : Int) (hA : chk insP M.pr = (A, B, C)) (h0 : A ≠ 0) :
    Calls Tryz.prog 6 #[M.val] w fun e w' => e = .returned (.tuple #[.slice none 0 0, .int .i64 3]) ∧ Below w.heap.size w w' := by
  have hb := boxed w (objP M)
  have c1 : Calls Tryz.prog 18 #[M.val] (w.alloc (objP M)) _ := written_bad (hl.later hb) (hF.later hb) A B C hA h0
  clear hA h0 hl hF
  go_enter Tryz.func6, Tryz.ntmps6
  go_wp2_with (go_at_call 18; (with_reducible refine c1.mono ?_); rintro e w1 ⟨rfl, hb1⟩)
  go_ret2
  exact ⟨rfl, bthen hb hb1⟩
set_option maxHeartbeats 4000000 in
theorem encode_ok (hl : M.lies w) (hF : prog.Forms w) (B C : Int) (hA : chk insP M.pr = (0, B, C)) :
    Calls Tryz.prog 6 #[M.val] w fun e w' => ∃ va vc, e = .returned (.tuple #[.slice va (encB M ++ sumB (sumOf (fl (encB M)) (encB M).length)).length vc, .int .i64 0]) ∧ OwnL w' w.heap.size 5 1 va vc ((encB M ++ sumB (sumOf (fl (encB M)) (encB M).length)).map u8c) ∧ Below w.heap.size w w' := by
  have hb := boxed w (objP M)
  have c1 : Calls Tryz.prog 18 #[M.val] (w.alloc (objP M)) _ := written_ok (hl.later hb) (hF.later hb) B C hA
  have hok : prOkP M.pr := right_mem (by rw [hA]) hl
  have hsm := enc_small hok
  have hbt := bt_encB M
  have hX : sumOf (fl (encB M)) (encB M).length < 4294967296 := by unfold sumOf; omega
  have cS : ∀ wx a c, octet.Row wx a (encB M).length (fl (encB M)) → Calls Tryz.prog 20 #[.slice a (encB M).length c] wx fun e w' => e = .returned (.int .u32 ((sumOf (fl (encB M)) (encB M).length : Nat) : Int)) ∧ w' = wx := fun wx a c hx => octet.sum_any a _ c _ wx hx
  have cX : ∀ wx, Calls Tryz.prog 19 #[.int .u32 ((sumOf (fl (encB M)) (encB M).length : Nat) : Int)] wx _ := fun wx => octet.fixed_any _ (by omega) (by omega) wx
  generalize encB M = E at *
  generalize sumOf (fl E) E.length = X at *
  clear hA hl hF hok
  go_enter Tryz.func6, Tryz.ntmps6
  go_wp2_with (first
    | (go_at_call 18; (with_reducible refine c1.mono ?_); rintro e w1 ⟨g, rfl, ⟨s1, ⟨hlo, oa, oc, st⟩, _⟩, hb1⟩; (have hB1 := bthen hb hb1); (have d0 := whole_cell st.bx 0 _ rfl); (have dl := (Array.getElem?_eq_some_iff.mp st.bx).1); (have hRo : Hid (Rows w1 1 oa oc (E.map u8c)) := own_rows st.ow (u8_len _)); (have hrw := rows_row hRo.out hbt))
    | (go_at_call 20; (with_reducible refine (cS _ _ _ hrw).mono ?_); rintro e w' ⟨rfl, hw⟩; replace hw := hw.symm; subst hw)
    | (go_at_call 19; (with_reducible refine (cX _).mono ?_); rintro e w2 ⟨rfl, hb2⟩; (have st2 := (hb2.block g dl).trans st.bx); (have f0 := whole_cell st2 0 _ rfl); (have fl2 := (Array.getElem?_eq_some_iff.mp st2).1)))
  have hB2 : Hid (Below w1.heap.size w1 (w2.alloc (objSum X))) := bthen hb2 (boxed _ _)
  have hy2 : Hid ((w2.alloc (objSum X)).heap[w2.heap.size]? = some (objSum X)) := heap_alloc_new _ _
  have hXs : Hid ((w2.alloc (objSum X)).heap.size = w2.heap.size + 1) := World.size_alloc _ _
  have hEs : (sumB X).length = 4 := rfl
  have cC : ∀ W', Below (w2.heap.size + 1) (w2.alloc (objSum X)) W' → W'.heap[w2.heap.size + 1]? = some (.cells #[.slice oa E.length oc, .slice (some ⟨w2.heap.size, 0, none⟩) 4 4] 28 (0, 0)) → Calls Tryz.prog 21 #[.slice (some ⟨w2.heap.size + 1, 0, none⟩) 2 2] W' fun e w' => ∃ va vc, e = .returned (.slice va (E.length + 4) vc) ∧ OwnL w' W'.heap.size 5 1 va vc ((E ++ sumB X).map u8c) ∧ Below w.heap.size w w' ∧ w.heap.size ≤ W'.heap.size := fun W' hW hc => by
    have hW1 : Below w1.heap.size w1 W' := hB2.out.trans (hW.mono (by have := hb2.size; omega))
    have hWw : Below w.heap.size w W' := bthen hB1 hW1
    exact (concat_any (w2.heap.size + 1) E (sumB X) oa (some ⟨w2.heap.size, 0, none⟩) oc 4 W' (rows_two hc) (hRo.out.later hW1) (rows_sum ((hW.block _ (by omega)).trans hy2.out)) (by omega) (by omega)).mono fun e w' ⟨va, vc, h1, h2, h3⟩ => ⟨va, vc, h1, h2, bthen hWw h3, hWw.size⟩
  have f0W := whole_cell (((boxed w2 (objSum X)).block g fl2).trans st2) 0 _ rfl
  have hXz := hXs.out
  clear f0 d0
  generalize w2.heap.size = S at *
  generalize w2.alloc (objSum X) = W at *
  go_region_law (refine step_call1 rfl 21 _ _ rfl (.slice (some ⟨S + 1, 0, none⟩) 2 2) rfl (cf_concat _ _) _ (cC _ (by rw [← hXs.out]; first | exact boxed _ _ | exact ((Below.refl _ _).drew).trans (boxed _ _) | exact (boxed _ _).drew) (by rw [← hXs.out]; exact heap_alloc_new _ _)) ?_; (rintro e w3 ⟨va, vc, rfl, hO, hB3, hs3⟩); refine ⟨_, rfl, ?_⟩)
  all_goals go_wp2
  all_goals go_ret2
  all_goals exact ⟨va, vc, by rw [List.length_append]; rfl, own_mono hO hs3, hB3⟩
end
end Go.Proofs.YtonkcnaijcpfdaaGreatDoor.pg
/- The contracts of the document's own Bytes, Put and PutInt. -/
namespace Go.Proofs.YtonkcnaijcpfdaaGreatDoor.octet
open Go.ChangeShapes Go.WideShapes Go.ChangeAt Go.RowKit
open wrapped
set_option linter.unusedVariables false
theorem owns_shape {w : World} {base n : Nat} {v : Value} {f : Nat → Nat} (h : w.ownsRow base 5 1 v n (bl f n)) (hn : 0 < n) : ∃ g c, v = mine g n c ∧ Owns w base g n c f := by
  rcases h.2 with ⟨_, h0⟩ | ⟨g, c, cur, rfl, hr⟩
  · omega
  · exact ⟨g, c, rfl, h.1, .inr ⟨g, c, cur, rfl, hr⟩⟩
theorem owns_kept {w w' : World} {base n : Nat} {v : Value} {xs : List Value} (h : w.ownsRow base 5 1 v n xs) (hb : Below w.heap.size w w') : w'.ownsRow base 5 1 v n xs := by
  refine ⟨h.1, ?_⟩
  rcases h.2 with h' | ⟨g, c, cur, rfl, hbs, hg, hr⟩
  · exact .inl h'
  · exact .inr ⟨g, c, cur, rfl, hbs, (hb.block g (Array.getElem?_eq_some_iff.mp hg).1).trans hg, hr⟩
theorem Owns.cells {w : World} {base g n c : Nat} {f : Nat → Nat} (h : Owns w base g n c f) (j : Nat) (u : Value) (hj : (bl f n)[j]? = some u) : w.cell? ((⟨g, 0, none⟩ : Addr).add j) = some u := by
  have hjn : j < n := by
    have := (List.getElem?_eq_some_iff.mp hj).1
    rwa [bl_length] at this
  have := World.ownsRow.cellAt h j (by omega)
  rw [hj] at this
  rw [← this]
  by_cases h0 : j = 0
  · subst h0; rfl
  · simp [Addr.add, h0]
theorem ownBlock_ge {w : World} {base n : Nat} {v : Value} {xs : List Value} (h : w.ownsRow base 5 1 v n xs) : ∀ k, v.ownBlock = some k → base ≤ k := by
  intro k hk
  rcases h.2 with ⟨rfl, _⟩ | ⟨g, c, cur, rfl, hbs, _⟩
  · simp [Value.ownBlock] at hk
  · simp [Value.ownBlock] at hk; omega
theorem more_bl {w : World} {base k : Nat} {v : Value} {g : Nat → Nat} (h : w.ownsRow base 5 1 v (k + 1) (bl g k ++ [Value.int .u8 ((g k : Nat) : Int)])) : w.ownsRow base 5 1 v (k + 1) (bl g (k + 1)) := by
  rw [one_bl, bl_cat] at h
  have e : bl (cat g k fun _ => g k) (k + 1) = bl g (k + 1) := bl_congr _ _ _ fun i hi => by
    unfold cat
    by_cases h1 : i < k
    · rw [if_pos h1]
    · rw [if_neg h1, show i = k by omega]
  rw [e] at h
  exact h
set_option maxHeartbeats 1000000 in
set_option maxRecDepth 100000 in
theorem refbytes_walk (g : Nat → Nat) (S : Nat) (q : Nat → Int) (w : World) (hb1 : 1 ≤ S) (hb2 : S ≤ 10) (hq : ∀ k, 0 ≤ q k ∧ q k < 18446744073709551616) (hqs : ∀ k, Hid (q k / 128 = q (k + 1)))
    (hmore : ∀ k, k + 1 < S → 128 ≤ q k ∧ q k % 128 + 128 = ((g k : Nat) : Int)) (hlast : q (S - 1) < 128 ∧ q (S - 1) = ((g (S - 1) : Nat) : Int)) :
    Calls Tryz.prog 59 #[.int .u64 (q 0)] w fun e w' => ∃ b c, e = .returned (mine b S c) ∧ Owns w' w.heap.size b S c g ∧ Below w.heap.size w w' := by
  obtain ⟨i0, hi, hz0, hz1, hz2⟩ := info_parts info5
  go_enter Tryz.func59, Tryz.ntmps59
  go_wp2
  go_loopw [0, 3] (fun x out wr => ∃ k : Nat, k + 1 ≤ S ∧ x = .int .u64 (q k) ∧ wr.ownsRow w.heap.size 5 1 out k (bl g k) ∧ Below w.heap.size w wr) (fun x _ _ => (intOf x).toNat)
  case atStart => exact ⟨0, by omega, rfl, World.ownsRow_nil _ _ _ _, Below.refl _ _⟩
  case round =>
    rename_i out
    obtain ⟨k, hk, rfl, ho, hbl⟩ := hrel
    obtain ⟨q0, q1⟩ := hq k
    have hqk := hqs k
    have hsz := hbl.size
    by_cases hkS : k + 1 < S
    · obtain ⟨hge, hby⟩ := hmore k hkS
      clear hmore hlast hq hqs
      go_wp2_with (at_builtin; (refine wpList_append_own _ rfl (.tmp 6) (.tmp 11) 28 rfl w.heap.size 5 i0 (.int .u8 0) 1 1 Tryz.underlying28 hi hz0 hz1 hz2 rfl (by decide) _ k (bl g k) rfl (ho.alloc _) ⟨wr.heap.size, 0, none⟩ 1 1 [.int .u8 ((g k : Nat) : Int)] rfl rfl (one_cell _ _ _) (one_one _) (by unfold maxLen; omega) (by omega) (by simp; omega) ?_; intro v3 w3 ho3 hg3 hn3))
      have ho4 := more_bl (g := g) ho3
      have hb4 : Below w.heap.size w w3 := (hbl.alloc hsz _).grown hg3 (by simp; omega) (ownBlock_ge ho)
      clear ho3 hg3 ho hbl hn3
      go_roundw
      case rel => exact ⟨k + 1, by omega, by rw [hqk.out], ho4, hb4⟩
      case measure => simp [intOf]; omega
    · have hkS2 : k = S - 1 := by omega
      subst hkS2
      obtain ⟨hl1, hl2⟩ := hlast
      have hl3 : Hid (q (S - 1) = ((g (S - 1) : Nat) : Int)) := hl2
      obtain ⟨qq, hqq⟩ : ∃ qq, Hid (q (S - 1) = qq) := ⟨_, rfl⟩
      have hq4 : qq = ((g (S - 1) : Nat) : Int) := by rw [← hqq.out]; exact hl2
      rw [hqq.out] at q0 q1 hl1 ⊢
      have hmod : qq % 256 = ((g (S - 1) : Nat) : Int) := by omega
      have hq5 : Hid (qq = ((g (S - 1) : Nat) : Int)) := hq4
      clear hmore hq hqs hl2 hl3 hqk hq4 hqq hmod
      go_wp2_with (at_builtin; (refine wpList_append_own _ rfl (.tmp 15) (.tmp 18) 28 rfl w.heap.size 5 i0 (.int .u8 0) 1 1 Tryz.underlying28 hi hz0 hz1 hz2 rfl (by decide) _ (S - 1) (bl g (S - 1)) rfl (ho.alloc _) ⟨wr.heap.size, 0, none⟩ 1 1 [.int .u8 qq] rfl rfl (one_cell _ _ _) (one_one _) (by unfold maxLen; omega) (by omega) (by simp; omega) ?_; intro v3 w3 ho3 hg3 hn3))
      rw [hq5.out] at ho3
      have ho4 := more_bl (g := g) ho3
      have hb4 : Below w.heap.size w w3 := (hbl.alloc hsz _).grown hg3 (by simp; omega) (ownBlock_ge ho)
      rw [show S - 1 + 1 = S by omega] at ho4
      obtain ⟨b, c, rfl, ho5⟩ := owns_shape ho4 (by omega)
      clear ho3 hg3 ho hbl hn3 ho4
      go_ret
      exact ⟨b, c, rfl, ho5, hb4⟩
theorem refbytes_any (x : Nat) (X : Int) (w : World) (hx : x < 18446744073709551616) (hX : X = ((x : Nat) : Int)) :
    Calls Tryz.prog 59 #[.int .u64 X] w fun e w' => ∃ b c, e = .returned (mine b (szN x) c) ∧ Owns w' w.heap.size b (szN x) c (gr x) ∧ Below w.heap.size w w' := by
  subst hX
  obtain ⟨hb1, hb2⟩ := szN_bd x hx
  obtain ⟨gl1, gl2⟩ := gr_last x hx
  have e0 : ((x : Nat) : Int) = (fun k => ((x / 128 ^ k : Nat) : Int)) 0 := by
    show ((x : Nat) : Int) = ((x / 128 ^ 0 : Nat) : Int)
    rw [Nat.pow_zero, Nat.div_one]
  rw [e0]
  refine refbytes_walk (gr x) (szN x) (fun k => ((x / 128 ^ k : Nat) : Int)) w hb1 hb2 ?_ ?_ ?_ ?_
  · intro k
    have := Nat.div_le_self x (128 ^ k)
    show (0 : Int) ≤ ((x / 128 ^ k : Nat) : Int) ∧ ((x / 128 ^ k : Nat) : Int) < 18446744073709551616
    generalize x / 128 ^ k = d at *
    omega
  · intro k
    show ((x / 128 ^ k : Nat) : Int) / 128 = ((x / 128 ^ (k + 1) : Nat) : Int)
    rw [Nat.pow_succ, ← Nat.div_div_eq_div_mul]
    rfl
  · intro k hk
    have h1 := (sz_pow x hx).2 (by omega)
    have h2 : 128 ≤ x / 128 ^ k := by
      rw [Nat.le_div_iff_mul_le (Nat.pow_pos (by decide)), Nat.mul_comm, ← Nat.pow_succ]
      exact Nat.le_trans (Nat.pow_le_pow_right (by decide) (by omega)) h1
    show (128 : Int) ≤ ((x / 128 ^ k : Nat) : Int) ∧ ((x / 128 ^ k : Nat) : Int) % 128 + 128 = _
    rw [gr_more x k hk]
    generalize x / 128 ^ k = d at *
    omega
  · show ((x / 128 ^ (szN x - 1) : Nat) : Int) < 128 ∧ ((x / 128 ^ (szN x - 1) : Nat) : Int) = _
    rw [gl1]
    generalize x / 128 ^ (szN x - 1) = d at *
    omega
set_option maxHeartbeats 1000000 in
set_option maxRecDepth 100000 in
theorem refput_any (a : Option Addr) (n c : Nat) (f : Nat → Nat) (x : Nat) (X : Int) (w : World) (hr : Row w a n f) (hn : a = none → n = 0 ∧ c = 0) (hl : n ≤ 140737488353000) (hx : x < 18446744073709551616) (hX : X = ((x : Nat) : Int)) :
    Calls Tryz.prog 35 #[.slice a n c, .int .u64 X] w fun e w' => ∃ b c, e = .returned (mine b (n + szN x) c) ∧ Owns w' w.heap.size b (n + szN x) c (cat f n (gr x)) ∧ Below w.heap.size w w' := by
  obtain ⟨i0, hi, hz0, hz1, hz2⟩ := info_parts info5
  obtain ⟨hb1, hb2⟩ := szN_bd x hx
  have c1 := fun w => refbytes_any x X w hx hX
  generalize szN x = S at *
  generalize gr x = g at *
  clear hx hX
  have src := fun ad ha => Row.cells hr ad ha
  have fin : ∀ v1 w1, w1.ownsRow w.heap.size 5 1 v1 n (bl f n) → Below w.heap.size w w1 → ∀ (b c2 : Nat) (w2 : World), Owns w2 w1.heap.size b S c2 g → Below w1.heap.size w1 w2 → w2.ownsRow w.heap.size 5 1 v1 n (bl f n) ∧ Below w.heap.size w w2 := fun v1 w1 h1 h2 b c2 w2 h3 h4 => ⟨owns_kept h1 h4, h2.trans (h4.mono h2.size)⟩
  cases a with
  | none =>
    obtain ⟨rfl, rfl⟩ := hn rfl
    have o0 : w.ownsRow w.heap.size 5 1 (.slice none 0 0) 0 (bl f 0) := World.ownsRow_nil _ _ _ _
    clear hr hn hl src
    go_enter Tryz.func35, Tryz.ntmps35
    go_wp2_with (first
      | (at_builtin; refine wpList_append_own_none rfl (.tmp 6) (.tmp 7) 28 rfl w.heap.size 5 i0 1 Tryz.underlying28 hi _ 0 (bl f 0) rfl o0 rfl ?_)
      | (go_at_call 59; refine (c1 _).mono ?_; rintro e w2 ⟨b, c2, rfl, ho2, hb2⟩)
      | (at_builtin; refine wpList_append_own _ rfl (.tmp 9) (.tmp 11) 28 rfl w.heap.size 5 i0 (.int .u8 0) 1 1 Tryz.underlying28 hi hz0 hz1 hz2 rfl (by decide) (.slice none 0 0) 0 (bl f 0) rfl (owns_kept o0 hb2) ⟨b, 0, none⟩ S c2 (bl g S) rfl (by rw [bl_length]; omega) (Owns.cells ho2) (bl_one g S) (by unfold maxLen; omega) (by omega) hb2.size ?_; intro v3 w3 ho3 hg3 hn3))
    rw [bl_cat, Nat.zero_add] at ho3
    have hb4 : Below w.heap.size w w3 := hb2.grown hg3 hb2.size (ownBlock_ge o0)
    obtain ⟨b3, c3, rfl, ho5⟩ := owns_shape ho3 (by omega)
    clear ho3 hg3 hn3
    go_ret
    exact ⟨b3, c3, rfl, ho5, hb4⟩
  | some ad =>
    have o0 : w.ownsRow w.heap.size 5 1 (.slice none 0 0) 0 [] := World.ownsRow_nil _ _ _ _
    have src' := src ad rfl
    have hlI : (n : Int) ≤ 140737488353000 := by omega
    clear hr hn hl src
    go_enter Tryz.func35, Tryz.ntmps35
    go_wp2_with (first
      | (at_builtin; refine wpList_append_own _ rfl (.tmp 6) (.tmp 7) 28 rfl w.heap.size 5 i0 (.int .u8 0) 1 1 Tryz.underlying28 hi hz0 hz1 hz2 rfl (by decide) (.slice none 0 0) 0 [] rfl o0 ad n c (bl f n) rfl (by rw [bl_length]; omega) src' (bl_one f n) (by unfold maxLen; omega) (by omega) (Nat.le_refl _) ?_; intro v1 w1 ho1 hg1 hn1; simp only [Nat.zero_add, List.nil_append] at ho1; have hb1w : Below w.heap.size w w1 := (Below.refl _ w).grown hg1 (Nat.le_refl _) (ownBlock_ge o0))
      | (go_at_call 59; refine (c1 _).mono ?_; rintro e w2 ⟨b, c2, rfl, ho2, hb2⟩)
      | (at_builtin; refine wpList_append_own _ rfl (.tmp 9) (.tmp 11) 28 rfl w.heap.size 5 i0 (.int .u8 0) 1 1 Tryz.underlying28 hi hz0 hz1 hz2 rfl (by decide) _ n (bl f n) rfl (owns_kept ho1 hb2) ⟨b, 0, none⟩ S c2 (bl g S) rfl (by rw [bl_length]; omega) (Owns.cells ho2) (bl_one g S) (by unfold maxLen; omega) (by omega) (Nat.le_trans hb1w.size hb2.size) ?_; intro v3 w3 ho3 hg3 hn3))
    rw [bl_cat] at ho3
    have hbw2 : Below w.heap.size w w2 := hb1w.trans (hb2.mono hb1w.size)
    have hb4 : Below w.heap.size w w3 := hbw2.grown hg3 hbw2.size (ownBlock_ge ho1)
    obtain ⟨b3, c3, rfl, ho5⟩ := owns_shape ho3 (by omega)
    clear ho3 hg3 hn3
    go_ret
    exact ⟨b3, c3, rfl, ho5, hb4⟩
theorem refputint_any (a : Option Addr) (n c : Nat) (f : Nat → Nat) (y : Int) (z : Nat) (w : World) (hr : Row w a n f) (hn : a = none → n = 0 ∧ c = 0) (hl : n ≤ 140737488353000) (h : -9223372036854775808 ≤ y) (g : y ≤ 9223372036854775807) (hz : z = (zg y).toNat) :
    Calls Tryz.prog 37 #[.slice a n c, .int .i64 y] w fun e w' => ∃ b c, e = .returned (mine b (n + szN z) c) ∧ Owns w' w.heap.size b (n + szN z) c (cat f n (gr z)) ∧ Below w.heap.size w w' := by
  have hb := zg_bd y h g
  have c1 := refzig_any y h g
  have c2 := refput_any a n c f z (zg y) w hr hn hl (by omega) (by omega)
  obtain ⟨Z, hZ⟩ : ∃ Z, Hid (zg y = Z) := ⟨_, rfl⟩
  rw [hZ.out] at c1 c2
  clear hb hz hr hl hn
  go_enter Tryz.func37, Tryz.ntmps37
  go_wp2_with (first | (go_at_call 60; with_reducible refine (c1 _).mono ?_; rintro e w' ⟨rfl, hw⟩; replace hw := hw.symm; subst hw) | (go_at_call 35; with_reducible refine c2.mono ?_; rintro e w2 ⟨b2, c2, rfl, ho2, hb2⟩))
  go_ret
  exact ⟨b2, c2, rfl, ho2, hb2⟩
end Go.Proofs.YtonkcnaijcpfdaaGreatDoor.octet
