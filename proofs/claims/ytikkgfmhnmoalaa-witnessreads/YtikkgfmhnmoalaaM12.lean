/- A witness is written. -/
import Derived.Test.YtikkgfmhnmoalaaM11
import Derived.Test.YtikkgfmhnmoalaaM7
import Derived.Handy
namespace Go.Proofs.Ytikkgfmhnmoalaa.pg
open Go.ChangeShapes Go.WideShapes Go.ChangeAt Go.RowKit
set_option linter.unusedVariables false
set_option linter.unusedSimpArgs false
set_option maxRecDepth 100000
attribute [local go_sem] Oper.semAt_some
/-- Its bytes but for the sum at their end, and all of them. -/
def Wi.body (M : Wi) : List Nat := (magW ++ sumB M.s.toNat) ++ M.nums.flatMap fun x => numB x.2.2
def Wi.bytes (M : Wi) : List Nat := M.body ++ sumB (sumOf (fl M.body) M.body.length)
theorem numB_len (v : Int) : (numB v).length ≤ 10 := by
  unfold numB
  rw [putB_len]
  exact (octet.szN_bd _ (by omega)).2
theorem flat_len {α : Type} (f : α → List Nat) (h : ∀ x, (f x).length ≤ 10) : ∀ l : List α, (l.flatMap f).length ≤ 10 * l.length
  | [] => by simp
  | a :: t => by
    have h1 := h a
    have h2 := flat_len f h t
    rw [List.flatMap_cons, List.length_append, List.length_cons]
    omega
theorem pairs_len : ∀ l : List (Int × Int), (pairs l).length = 2 * l.length
  | [] => rfl
  | a :: t => by
    have := pairs_len t
    unfold pairs at this ⊢
    rw [List.flatMap_cons, List.length_append, this]
    show 2 + 2 * t.length = 2 * (t.length + 1)
    omega
theorem nums_len (M : Wi) : M.nums.length = 11 + 2 * M.pk.length := by
  unfold Wi.nums
  rw [List.length_append, pairs_len]
  rfl
theorem ok_all {M : Wi} (h : M.ok = true) {x : Int × Int × Int} (hx : x ∈ M.nums) : x.1 ≤ x.2.2 ∧ x.2.2 ≤ x.2.1 := by
  have := List.all_eq_true.mp h x hx
  simpa [fitB] using this
theorem ok_few {M : Wi} (h : M.ok = true) : M.pk.length ≤ 256 := by
  have := (ok_all h (x := (0, 256, (M.pk.length : Int))) (by unfold Wi.nums Wi.head; simp)).2
  simp at this
  omega
theorem bt_mag (x : Nat) (hx : x < 4294967296) : Bt (magW ++ sumB x) := bt_app (by intro b hb; simp at hb; omega) (bt_sum x hx)
theorem bt_flat {α : Type} (f : α → List Nat) (h : ∀ x, Bt (f x)) (l : List α) : Bt (l.flatMap f) := fun b hb => by
  obtain ⟨x, _, hx⟩ := List.mem_flatMap.mp hb
  exact h x b hx
theorem bt_body (M : Wi) (h0 : 0 ≤ M.s) (h1 : M.s < 4294967296) : Bt M.body := bt_app (bt_mag _ (by omega)) (bt_flat _ (fun x => bt_num _) _)
theorem body_len {M : Wi} (h : M.ok = true) : 8 ≤ M.body.length ∧ M.body.length ≤ 6000 := by
  have h1 := flat_len (fun x : Int × Int × Int => numB x.2.2) (fun x => numB_len _) M.nums
  have h2 := nums_len M
  have h3 := ok_few h
  unfold Wi.body
  rw [List.length_append]
  have : (magW ++ sumB M.s.toNat).length = 8 := rfl
  rw [this]
  omega
/-- How Write stands: its bytes, in a variable of its own. -/
structure WrS (w W : World) (B : Nat) (L : List Nat) (a : Option Addr) (c : Nat) : Prop where
  bx : W.heap[B]? = some (.cells #[.slice a L.length c] 32)
  rw : Rows W 1 a c (L.map u8c)
  b : Below w.heap.size w W
theorem rows_putObj {W : World} {k cap l : Nat} {a : Option Addr} {L : List (List Value)} {o o' : Obj} (h : Rows W k a cap L) (h1 : W.heap[l]? = some o) (h2 : o.isCells = false) : Rows (W.putObj l o') k a cap L := by
  cases a with
  | none => exact h.keepC (B := 0) (by simp [blk]) (ButC.put h1 h2 o')
  | some ad => exact h.keepC (B := ad.block + 1) (by simp [blk]) (ButC.put h1 h2 o')
theorem WrS.later {w W W' : World} {B c : Nat} {L : List Nat} {a : Option Addr} (h : WrS w W B L a c) (hb : Below W.heap.size W W') : WrS w W' B L a c := ⟨(hb.block B (Array.getElem?_eq_some_iff.mp h.bx).1).trans h.bx, h.rw.later hb, h.b.trans (hb.mono h.b.size)⟩
theorem WrS.put {w W : World} {B c l : Nat} {L : List Nat} {a : Option Addr} {o o' : Obj} (h : WrS w W B L a c) (hl : w.heap.size ≤ l) (h1 : W.heap[l]? = some o) (h2 : o.isCells = false) : WrS w (W.putObj l o') B L a c :=
  ⟨(World.putObj_heap_other (fun e => by subst e; have := h.bx; rw [h1] at this; cases this; cases h2)).trans h.bx, rows_putObj h.rw h1 h2, h.b.trans ((Below.refl _ W).grown (grownBy_putObj' W l o') h.b.size (fun k e => by cases e; exact hl))⟩
theorem WrS.step {w W W' : World} {B c g x c' : Nat} {L : List Nat} {a : Option Addr} (h : WrS w W B L a c) (hB : w.heap.size ≤ B) (hg : g = W.heap.size) (ho : octet.Owns W' g g (L.length + octet.szN x) c' (octet.cat (fl L) L.length (octet.gr x))) (hb : Below W.heap.size W W') :
    WrS w (W'.setCell ⟨B, 0, none⟩ (octet.mine g (L.length + octet.szN x) c')) B (L ++ putB x) (some ⟨g, 0, none⟩) c' := by
  have hBl := (Array.getElem?_eq_some_iff.mp h.bx).1
  have h2 := (hb.block B hBl).trans h.bx
  refine ⟨?_, (own_rows (own_put ho) (u8_len _)).keepC (B := B) (by simp only [blk, List.mem_singleton]; omega) (But.set ⟨B, 0, none⟩ _).c, (h.b.trans (hb.mono h.b.size)).setCell (p := ⟨B, 0, none⟩) hB _⟩
  rw [setCell_eq_setRow W' B 0 _ _ _ _ h2, setRow_heap W' B _ _ _ _ h2, List.length_append, putB_len]
  rfl
abbrev objMag : Obj := .cells #[.int .u8 115, .int .u8 99, .int .u8 97, .int .u8 119] 5 (4, 5)
theorem step_call1 {P : Program} {ops : Array Oper} {o : Oper} {a : Act} {w : World} {K : Act → World → Prop} {Q : Exit → Act → World → Prop} {E : Prop} (hgd : o.guard = none) (f : FuncId) (x : Operand) (t : TypeId)
    (ho : o.op = .call { callee := .value (.func f), args := #[x], argTypes := #[t] }) (vx : Value) (hx : a.eval x = vx) (hcf : (callFunc f #[vx]).run P w = .ok (.enter f #[vx]) w) (R : Ending → World → Prop) (hc : Calls P f #[vx] w R)
    (hK : ∀ e w', R e w' → ∃ v, e = .returned v ∧ K (a.put o.dst v) w') :
    if Region.wanted o (yielded ops a.tmps) = true then Oper.wp P o a w K Q else E := by
  have hw : Region.wanted o (yielded ops a.tmps) = true := by simp [Region.wanted, hgd]
  rw [if_pos hw]
  have hrun : (execOp a.eval o).run P w = .ok (.enter f #[vx]) w := by
    have hf : a.eval (.func f) = .func (.func f) #[] #[] := rfl
    simp [execOp, ho, resolve, invoke, hx, hf, Deferred.ofValue, hcf]
  unfold Oper.wp
  rw [hrun, Oper.upon_enter]
  refine hc.mono fun e w' h => ?_
  obtain ⟨v, rfl, hk⟩ := hK e w' h
  exact hk
theorem infoSl : (Try.prog.info? 32).map (fun i => (i.zero, i.size, i.bytes)) = some (some (.slice none 0 0), 1, 24) := by kernel_rfl
theorem cf_sumW (args : Array Value) (w : World) : (callFunc 20 args).run Try.prog w = .ok (.enter 20 args) w := cf_any Try.func20 (by kernel_rfl) (by kernel_rfl) args w
theorem cf_fixedW (args : Array Value) (w : World) : (callFunc 17 args).run Try.prog w = .ok (.enter 17 args) w := cf_any Try.func17 (by kernel_rfl) (by kernel_rfl) args w
set_option maxHeartbeats 4000000 in
theorem write_bad (M : Wi) (pa : Option Addr) (pc : Nat) (w : World) (hp : Rows w 2 pa pc (M.pk.map pkC)) (hbl : (∀ b ∈ blk pa, b < w.heap.size) ∨ M.pk = []) (hok : M.ok = false) : Calls Try.prog 7 #[.agg (M.cells pa pc).toArray] w fun e w' => e = .returned (.tuple #[.slice none 0 0, .int .i64 1]) ∧ Below w.heap.size w w' := by
  have hb := boxed w (objWi M pa pc)
  have cR := wok_any M pa pc (w.alloc (objWi M pa pc)) (hp.later hb) (hbl.imp_left fun h b q => by have := h b q; have := hb.size; omega)
  rw [hok] at cR
  have hld : (w.alloc (objWi M pa pc)).heap[w.heap.size]? = some (objWi M pa pc) := heap_alloc_new _ _
  have huW : Hid (Try.prog.underlying 31 = _) := Try.underlying31
  have hiW : Hid ((Try.prog.info? 31).map (·.size) = some (M.cells pa pc).toArray.size) := by (show _ = some 12; kernel_rfl)
  have hldH : Hid _ := hld
  clear hld
  go_enter Try.func7, Try.ntmps7
  go_wp2_with (first
    | (refine wpList_load_row rfl 31 _ rfl w.heap.size rfl _ _ _ _ hldH.out huW.out rfl hiW.out ?_)
    | (go_at_call 15; (with_reducible refine cR.mono ?_); rintro e w1 ⟨rfl, hb1⟩))
  go_ret2
  exact ⟨rfl, bthen hb hb1⟩
theorem write_start {M : Wi} {pa : Option Addr} {pc S vc : Nat} {va : Option Addr} {w w1 w2 w3 : World} {o2 : Obj} (hp : Rows w 2 pa pc (M.pk.map pkC)) (hbl : (∀ b ∈ blk pa, b < w.heap.size) ∨ M.pk = []) (hS : S < 4294967296) (hb1 : Below (w.alloc (objWi M pa pc)).heap.size (w.alloc (objWi M pa pc)) w1) (hb2 : Below (w1.alloc objMag).heap.size (w1.alloc objMag) w2) (hb3 : Below (w2.alloc o2).heap.size (w2.alloc o2) w3) (hO3 : OwnL w3 (w2.alloc o2).heap.size 5 1 va vc ((magW ++ sumB S).map u8c)) :
    ∃ V, V = (w3.alloc (.cells #[.slice va (4 + (sumB S).length) vc] 32)).alloc (.cells #[.pointer (some ⟨w.heap.size, 0, none⟩)] 54) ∧ V.heap.size = w3.heap.size + 2 ∧ w.heap.size < w3.heap.size ∧ NumW V (w3.heap.size + 1) w.heap.size M pa pc w3.heap.size ∧ WrS w V w3.heap.size (magW ++ sumB S) va vc := by
  have k3 : Below (w.alloc (objWi M pa pc)).heap.size (w.alloc (objWi M pa pc)) w3 := bthen (bthen (bthen (bthen hb1 (boxed w1 objMag)) hb2) (boxed w2 o2)) hb3
  have kw : Below w.heap.size w w3 := bthen (boxed w (objWi M pa pc)) k3
  have z0 : w.heap.size < w3.heap.size := by have := k3.size; rw [World.size_alloc] at this; omega
  have kV : Below w3.heap.size w3 ((w3.alloc (.cells #[.slice va (4 + (sumB S).length) vc] 32)).alloc (.cells #[.pointer (some ⟨w.heap.size, 0, none⟩)] 54)) := bthen (boxed _ _) (boxed _ _)
  refine ⟨_, rfl, by simp [World.size_alloc], z0, ⟨?_, ?_, (hp.later kw).later kV, by omega, by omega, hbl.imp_left fun h q => by have := h _ q; omega⟩, ⟨?_, ?_, kw.trans (kV.mono (by omega))⟩⟩
  · have h := heap_alloc_new (w3.alloc (.cells #[.slice va (4 + (sumB S).length) vc] 32)) (.cells #[.pointer (some ⟨w.heap.size, 0, none⟩)] 54)
    simp only [World.size_alloc] at h
    exact h
  · exact (kV.block _ z0).trans ((k3.block _ (by rw [World.size_alloc]; omega)).trans (heap_alloc_new _ _))
  · exact ((boxed _ _).block _ (by simp [World.size_alloc])).trans (heap_alloc_new w3 _)
  · exact (own_rows hO3 (u8_len _)).later kV
set_option maxHeartbeats 4000000 in
theorem write_ok (M : Wi) (pa : Option Addr) (pc : Nat) (w : World) (hp : Rows w 2 pa pc (M.pk.map pkC)) (hbl : (∀ b ∈ blk pa, b < w.heap.size) ∨ M.pk = []) (hs0 : 0 ≤ M.s) (hs1 : M.s < 4294967296) (hok : M.ok = true) : Calls Try.prog 7 #[.agg (M.cells pa pc).toArray] w fun e w' => ∃ va vc, e = .returned (.tuple #[.slice va M.bytes.length vc, .int .i64 0]) ∧ OwnL w' w.heap.size 5 1 va vc (M.bytes.map u8c) ∧ Below w.heap.size w w' := by
  have hb := boxed w (objWi M pa pc)
  have cR := wok_any M pa pc (w.alloc (objWi M pa pc)) (hp.later hb) (hbl.imp_left fun h b q => by have := h b q; have := hb.size; omega)
  rw [hok] at cR
  have hld : (w.alloc (objWi M pa pc)).heap[w.heap.size]? = some (objWi M pa pc) := heap_alloc_new _ _
  have huW : Hid (Try.prog.underlying 31 = _) := Try.underlying31
  have hiW : Hid ((Try.prog.info? 31).map (·.size) = some (M.cells pa pc).toArray.size) := by (show _ = some 12; kernel_rfl)
  have hldH : Hid _ := hld
  obtain ⟨S, hS⟩ : ∃ S : Nat, M.s = (S : Int) := ⟨M.s.toNat, by omega⟩
  have hS2 : Hid (S < 4294967296 ∧ M.s.toNat = S) := ⟨by omega, by omega⟩
  have cX : ∀ wx, Calls Try.prog 17 #[.int .u32 (S : Int)] wx _ := fun wx => wfixed_any S hS2.out.1 wx
  have cU : ∀ a wx, Calls Try.prog 18 #[.pointer a] wx _ := fun a wx => numbers_any a wx
  have cC : ∀ wx A3 c3 A2, Rows wx 1 (some ⟨A2, 0, none⟩) 2 ([Value.slice (some ⟨A3, 0, none⟩) 4 4, .slice (some ⟨c3, 0, none⟩) 4 4].map fun v => [v]) → Rows wx 1 (some ⟨A3, 0, none⟩) 4 (magW.map u8c) → Rows wx 1 (some ⟨c3, 0, none⟩) 4 ((sumB S).map u8c) → Calls Try.prog 16 #[.slice (some ⟨A2, 0, none⟩) 2 2] wx _ := fun wx A3 c3 A2 h1 h2 h3 => concat_any A2 magW (sumB S) _ _ _ _ wx h1 h2 h3 (by show 0 < 8; decide) (by show 8 ≤ _; decide)
  have hcv : ∀ wx : World, (convert 32 32 (.slice (some ⟨wx.heap.size, 0, none⟩) 4 4)).run Try.prog (wx.alloc (.cells #[.int .u8 115, .int .u8 99, .int .u8 97, .int .u8 119] 5)) = .ok (.slice (some ⟨wx.heap.size, 0, none⟩) 4 4) (wx.alloc objMag) := fun wx => Lib.run_convert_bytes_const wx 32 5 _ 4 4 Try.underlying32 Try.underlying5
  clear hld
  refine (callsIn_wide (n := 3)).1 ?_
  refine callsIn_of_wp_marks Try.func7 rfl trivial ?_ rfl
  simp only [Try.ntmps7, List.size_toArray, List.length_cons, List.length_nil, Nat.reduceAdd, Nat.reduceSub, Array.replicate_succ, Array.replicate_zero, List.push_toArray, List.append_toArray, List.nil_append, List.cons_append]
  refine wpIn_wide.2 ?_
  go_wp2_with (first
    | (refine wpList_load_row rfl 31 _ rfl w.heap.size rfl _ _ _ _ hldH.out huW.out rfl hiW.out ?_)
    | (go_at_call 15; (with_reducible refine cR.mono ?_); rintro e w1 ⟨rfl, hb1⟩; (have hg1 := (hb1.block _ (by rw [World.size_alloc]; omega)).trans hldH.out); (have hcv1 := hcv w1); (have c8 : (w1.alloc objMag).cell? ⟨w.heap.size, 0, none⟩ = some (.int .u32 (S : Int)) := by rw [← hS]; exact (cell_of_row _ _ 0 _ _ _ (((boxed w1 _).block _ (Array.getElem?_eq_some_iff.mp hg1).1).trans hg1)).trans rfl))
    | (go_at_call 17; (with_reducible refine (cX _).mono ?_); rintro e w2 ⟨A, rfl, hA1, hA2, hb2⟩)
    | (go_at_call 16; (with_reducible refine (cC _ w1.heap.size A w2.heap.size (rows_two (heap_alloc_new _ _)) ((rows_mag (heap_alloc_new w1 _)).later (bthen hb2 (boxed _ _))) ((rows_sum hA2).later (boxed _ _))).mono ?_); rintro e w3 ⟨va, vc, rfl, hO3, hb3⟩)
    | (go_at_call 18; (refine (cU _ _).mono ?_); rintro e w4 ⟨rfl, hw4⟩))
  obtain ⟨V0, hV0, zV, zw, hN, hs⟩ := write_start hp hbl hS2.out.1 hb1 hb2 hb3 hO3
  refine Eq.mp (congrArg (Code.wp Try.prog _ _ _) hV0) ?_
  obtain ⟨B, hB⟩ : ∃ B, B = w3.heap.size := ⟨_, rfl⟩
  have hl8 : 4 + (sumB S).length = 8 := rfl
  rw [hl8]
  have hbw : Hid (w.heap.size < B) := by rw [hB]; exact zw
  have hoH : Hid (M.ok = true) := hok
  have hsH : Hid (0 ≤ M.s ∧ M.s < 4294967296) := ⟨hs0, hs1⟩
  rw [← hB] at hN hs zV ⊢
  clear hp hbl hb1 hb2 hb3 hO3 hV0 hB cR cX cU cC hcv hcv1 c8 hg1 hldH huW hiW hA1 hA2 hb hs0 hs1 hok hl8 zw
  refine (wpIn_wide (n := 3)).1 ?_
  refine range_told (n := 3) rfl (by omega) (gf := 39) (lb := #[.pointer (some ⟨B + 1, 0, none⟩)]) rfl trivial (enters_of Try.func39 (by kernel_rfl) rfl)
    (nums_gives 2 V0 hN (by omega)) (by omega) (fun _ => rfl) itR_lasts itR_plain (fun pre V => ∃ a c, WrS w V B ((magW ++ sumB S) ++ pre.flatMap fun x => numB x.2.2.2) a c) (fun pre V => False) ?last ?plain ?plainx ⟨_, _, by simpa using hs⟩
    (fun x Ab => { tmps := #[.agg (M.cells pa pc).toArray, .pointer (some ⟨w.heap.size, 0, none⟩), .slice none 0 0, .int .i64 0, .pointer (some ⟨B, 0, none⟩), .pointer (some ⟨Ab, 0, none⟩), .agg (M.cells pa pc).toArray, .bool true, .bool false, .slice (some ⟨w1.heap.size, 0, none⟩) 4 4, .slice (some ⟨w1.heap.size, 0, none⟩) 4 4, .pointer (some ⟨w.heap.size, 0, none⟩), .int .u32 (S : Int), .slice (some ⟨A, 0, none⟩) 4 4, .slice (some ⟨w2.heap.size, 0, none⟩) 2 2, .slice va 8 vc, .func (.func 39) #[] #[.pointer (some ⟨B + 1, 0, none⟩)], .agg #[.pointer (some x.1), .int .i64 x.2.1, .int .i64 x.2.2.1], undef, undef, undef, undef, undef, undef, undef, undef, undef, undef, undef, undef, undef], defers := [] }) (fun x => .cells #[.pointer (some x.1), .int .i64 x.2.1, .int .i64 x.2.2.1] 57) (fun _ => rfl) ?assign ?body ?done ?stop
  case last => exact fun s A C hb h => by obtain ⟨a, c, h⟩ := h; exact ⟨a, c, h.later hb⟩
  case plain => exact fun s A l o o' hl h1 h2 h => by obtain ⟨a, c, h⟩ := h; exact ⟨a, c, h.put (by have := hbw.out; omega) h1 h2⟩
  case plainx => exact fun s A l o o' hl h1 h2 h => h
  case assign =>
    intro l x V K hK
    gi_wp2
    simpa using hK
  case body =>
    rintro l pre x Ab V hx ⟨a, c, hs2⟩ hlenN hA hwA
    obtain ⟨L, hL⟩ : ∃ L, L = (magW ++ sumB S) ++ pre.flatMap fun x => numB x.2.2.2 := ⟨_, rfl⟩
    have hbt : Bt L := by rw [hL]; exact bt_app (bt_mag S hS2.out.1) (bt_flat _ (fun x => bt_num _) _)
    have hlen : L.length ≤ 6000 := by
      have h1 := flat_len (fun x : Itm => numB x.2.2.2) (fun x => numB_len _) pre
      have h2 := nums_len M
      have h3 := ok_few hoH.out
      have h4 : L.length = 8 + (pre.flatMap fun x : Itm => numB x.2.2.2).length := by rw [hL, List.length_append]; rfl
      omega
    have hLn : Hid ((magW ++ sumB S) ++ (pre ++ [x]).flatMap (fun x => numB x.2.2.2) = L ++ putB (x.2.2.2 % 18446744073709551616).toNat) := by
      show _ = _
      rw [hL, List.flatMap_append, ← List.append_assoc]
      simp [numB]
    rw [← hL] at hs2
    obtain ⟨X, hX⟩ : ∃ X : Nat, X = (x.2.2.2 % 18446744073709551616).toNat := ⟨_, rfl⟩
    have hXI : x.2.2.2 % 18446744073709551616 = (X : Int) := by omega
    have hXl : X < 18446744073709551616 := by omega
    rw [← hX] at hLn
    have z0 : V.cell? ⟨Ab, 0, none⟩ = some (.pointer (some x.1)) := by rw [cell_of_row V Ab 0 _ _ _ hA]; rfl
    have zx : V.cell? x.1 = some (.int .i64 x.2.2.2) := hx
    have zb : V.cell? ⟨B, 0, none⟩ = some (.slice a L.length c) := by rw [cell_of_row V B 0 _ _ _ hs2.bx]; rfl
    have hst : Hid (∀ W' g, g = V.heap.size → octet.Owns W' g g (L.length + octet.szN X) (L.length + octet.szN X) (octet.cat (fl L) L.length (octet.gr X)) → Below V.heap.size V W' → WrS w (W'.setCell ⟨B, 0, none⟩ (octet.mine g (L.length + octet.szN X) (L.length + octet.szN X))) B (L ++ putB X) (some ⟨g, 0, none⟩) (L.length + octet.szN X)) := fun W' g hg ho hb => hs2.step (by have := hbw.out; omega) hg ho hb
    have hwr : IntKind.u64.wrap x.2.2.2 = (X : Int) := by rw [← hXI]; first | rfl | simp [IntKind.wrap] | exact IntKind.wrap_u64 _
    have cPut := octet.put_any a L.length c (fl L) X (IntKind.u64.wrap x.2.2.2) V.drew (rows_row (hs2.rw.later (Below.refl _ V).drew) hbt) (by omega) hXl hwr
    clear hwr
    have hmo : Try.prog.follows .mixedOrders = true := by kernel_rfl
    have hBl : Hid (V.heap[B]? = some (.cells #[.slice a L.length c] 32)) := hs2.bx
    clear hs2 hL hx hA hbt hlenN hX
    gi_wp2
    gi_region_with_o (refine ⟨trivial, inRound_calls cPut ?_⟩; rintro e W' ⟨rfl, ho, hb⟩; (have h2 := (hb.block B (Array.getElem?_eq_some_iff.mp hBl.out).1).trans hBl.out); (have hc2 : W'.cell? ⟨B, 0, none⟩ = some (.slice a L.length c) := by rw [cell_of_row W' B 0 _ _ _ h2]; rfl); (have hf2 : W'.frozen? ⟨B, 0, none⟩ = false := frozen_of_row _ _ _ _ _ h2))
    all_goals
      have hbV : Below V.heap.size V W' := ((Below.refl _ V).drew).trans hb
      exact ⟨(But.of hbV).trans (But.set ⟨B, 0, none⟩ _), _, _, by rw [hLn.out]; exact hst.out W' V.heap.size rfl ho hbV⟩
  case done =>
    rintro D ys V hD hSx ⟨a, c, hs2⟩ hK
    have hE : (magW ++ sumB S) ++ ys.flatMap (fun x => numB x.2.2.2) = M.body := by
      unfold Wi.body
      rw [hS2.out.2, ← hSx, List.flatMap_map]
    rw [hE] at hs2
    have hbt := bt_body M hsH.out.1 hsH.out.2
    have hbl := body_len hoH.out
    have hX : sumOf (fl M.body) M.body.length < 4294967296 := by unfold sumOf; omega
    have hbyt : Hid (M.bytes = M.body ++ sumB (sumOf (fl M.body) M.body.length)) := rfl
    have cS : ∀ wx, octet.Row wx a M.body.length (fl M.body) → Calls Try.prog 20 #[.slice a M.body.length c] wx fun e w' => e = .returned (.int .u32 ((sumOf (fl M.body) M.body.length : Nat) : Int)) ∧ w' = wx := fun wx hx => octet.sum_any a _ c _ wx hx
    have cX : ∀ wx, Calls Try.prog 17 #[.int .u32 ((sumOf (fl M.body) M.body.length : Nat) : Int)] wx _ := fun wx => wfixed_any _ hX wx
    generalize M.body = L at *
    generalize sumOf (fl L) L.length = X at *
    have zb : V.cell? ⟨B, 0, none⟩ = some (.slice a L.length c) := by rw [cell_of_row V B 0 _ _ _ hs2.bx]; rfl
    have hsV : Hid (WrS w V B L a c) := hs2
    have hKH : Hid (V.heap[D]? = some (.deferred (some []))) := hK
    have hrD : octet.Row V.drew a L.length (fl L) := rows_row (hs2.rw.later (Below.refl _ V).drew) hbt
    have zbD : V.drew.cell? ⟨B, 0, none⟩ = some (.slice a L.length c) := zb
    have hrowL : Hid (Rows V 1 a c (L.map u8c)) := hs2.rw
    obtain ⟨iS, hiS, hzS, hsS, hbS⟩ := info_of infoSl
    clear hs hs2 hK hN hSx hE hbt
    go_wp2_with fail
    have hload : Hid (∀ w', Below V.heap.size V w' → w'.cell? ⟨B, 0, none⟩ = some (.slice a L.length c)) := fun w' h => (h.cell (cell_lt zb)).trans zb
    refine wp_region_noPanic ?_
    refine wp_region_held_drew (S := fun w' => Below V.heap.size V w') (by kernel_rfl) (bey_drew V) (fun hH => ?_)
    refine reg_load1 (i := 0) rfl (by kernel_rfl) (by kernel_rfl) (by kernel_rfl) (fun _ _ _ _ h => h) rfl 32 _ rfl ⟨B, 0, none⟩ rfl _ Try.underlying32 rfl (.slice a L.length c) hload.out hH ?_
    simp only [Act.put, List.getElem_toArray, List.getElem_cons_succ, List.getElem_cons_zero, List.setIfInBounds_toArray, List.set_cons_zero, List.set_cons_succ]
    refine reg_load1 (i := 1) rfl (by kernel_rfl) (by kernel_rfl) (by kernel_rfl) (fun _ _ _ _ h => h) rfl 32 _ rfl ⟨B, 0, none⟩ rfl _ Try.underlying32 rfl (.slice a L.length c) hload.out hH ?_
    simp only [Act.put, List.getElem_toArray, List.getElem_cons_succ, List.getElem_cons_zero, List.setIfInBounds_toArray, List.set_cons_zero, List.set_cons_succ]
    refine reg_call1 (i := 2) (by kernel_rfl) rfl rfl 20 _ _ rfl (.slice a L.length c) rfl (cf_sumW _ _) _ (cS _ hrD) ?_
    rintro e w5 ⟨rfl, hw5⟩
    rw [hw5]
    refine ⟨_, rfl, hH, fun _ => ?_⟩
    simp only [Act.put, List.getElem_toArray, List.getElem_cons_succ, List.getElem_cons_zero, List.setIfInBounds_toArray, List.set_cons_zero, List.set_cons_succ]
    refine reg_call1 (i := 3) (by kernel_rfl) rfl rfl 17 _ _ rfl (.int .u32 (X : Int)) rfl (cf_fixedW _ _) _ (cX _) ?_
    rintro e w6 ⟨A6, rfl, hA6, hA7, hb6⟩
    have hH6 : Below V.heap.size V w6 := bthen (bey_drew V) hb6
    refine ⟨_, rfl, hH6, fun _ => ?_⟩
    simp only [Act.put, List.getElem_toArray, List.getElem_cons_succ, List.getElem_cons_zero, List.setIfInBounds_toArray, List.set_cons_zero, List.set_cons_succ]
    have hH7 : Below V.heap.size V (w6.alloc (.cells #[.slice a L.length c, .slice (some ⟨A6, 0, none⟩) 4 4] 32)) := bthen hH6 (boxed _ _)
    refine reg_one (i := 4) (by kernel_rfl) rfl rfl (wpList_buildSlice rfl 88 32 2 _ rfl #[.slice a L.length c, .slice (some ⟨A6, 0, none⟩) 4 4] iS _ Try.underlying88 hiS hzS (by rw [hsS]; omega) (by rw [hsS]; omega) (by simp only [hsS]; kernel_rfl) (wpList_nil (And.intro hH7 fun _ => ?_)))
    simp only [Act.put, List.getElem_toArray, List.getElem_cons_succ, List.getElem_cons_zero, List.setIfInBounds_toArray, List.set_cons_zero, List.set_cons_succ]
    have cC := concat_any w6.heap.size L (sumB X) a (some ⟨A6, 0, none⟩) c 4 (w6.alloc (.cells #[.slice a L.length c, .slice (some ⟨A6, 0, none⟩) 4 4] 32)) (rows_two (heap_alloc_new _ _)) (hrowL.out.later hH7) ((rows_sum hA7).later (boxed _ _)) (by omega) (by show L.length + 4 ≤ _; omega)
    refine reg_call1 (i := 5) (by kernel_rfl) rfl rfl 16 _ _ rfl (.slice (some ⟨w6.heap.size, 0, none⟩) 2 2) rfl (cf_concat _ _) _ cC ?_
    rintro e w8 ⟨va8, vc8, rfl, hO8, hb8⟩
    have hH8 : Below V.heap.size V w8 := bthen hH7 hb8
    refine ⟨_, rfl, hH8, fun _ => ?_⟩
    simp only [Act.put, List.getElem_toArray, List.getElem_cons_succ, List.getElem_cons_zero, List.setIfInBounds_toArray, List.set_cons_zero, List.set_cons_succ]
    refine reg_move (i := 6) rfl (by kernel_rfl) (by kernel_rfl) (by kernel_rfl) (fun _ _ _ _ h => h) rfl (.slice va8 (L.length + (sumB X).length) vc8) (fun _ => rfl) hH8 ?_
    simp only [Act.put, List.getElem_toArray, List.getElem_cons_succ, List.getElem_cons_zero, List.setIfInBounds_toArray, List.set_cons_zero, List.set_cons_succ]
    refine reg_move (i := 7) rfl (by kernel_rfl) (by kernel_rfl) (by kernel_rfl) (fun _ _ _ _ h => h) rfl (.int .i64 0) (fun _ => rfl) hH8 ?_
    simp only [Act.put, List.getElem_toArray, List.getElem_cons_succ, List.getElem_cons_zero, List.setIfInBounds_toArray, List.set_cons_zero, List.set_cons_succ]
    refine wpAnyH_done (by kernel_rfl) (NoPanic.normal ?_) _
    have hDl := (Array.getElem?_eq_some_iff.mp hKH.out).1
    have kD : w8.heap[D]? = some (.deferred (some [])) := (hH8.block D hDl).trans hKH.out
    have hbw8 : Below w.heap.size w w8 := hsV.out.b.trans (hH8.mono hsV.out.b.size)
    have hb9 : Below w.heap.size w (w8.putObj D (.deferred none)) := hbw8.trans ((Below.refl _ w8).grown (grownBy_putObj' w8 D _) hbw8.size (fun k e => by cases e; have := hbw.out; omega))
    have hO9 : OwnL (w8.putObj D (.deferred none)) w.heap.size 5 1 va8 vc8 ((L ++ sumB X).map u8c) := own_keep (own_mono_q hO8 (by have := hH7.size; have := hsV.out.b.size; omega)) (fun g hg => World.putObj_heap_other (by have := (blk_lt hO8 g hg).1; have := hH7.size; omega))
    have hO9H : Hid _ := hO9
    have hb9H : Hid _ := hb9
    have hkH : Hid _ := kD
    clear hO9 hb9 kD hH hH6 hH7 hH8 hb8 hO8 hb6 hA6 hA7 cC hload zb zbD hrD
    go_wp2_with fail
    refine ⟨by simp, .inl ⟨_, _, rfl, run_takeDeferred hkH.out, ?_⟩⟩
    refine ⟨.tuple #[.slice va8 (L.length + (sumB X).length) vc8, .int .i64 0], by simp [results, Try.results7, go_sem], va8, vc8, ?_, ?_, hb9H.out⟩
    · rw [hbyt.out, List.length_append]
    · rw [hbyt.out]; exact hO9H.out
  case stop => exact fun D pre V _ _ h _ => h.elim
end Go.Proofs.Ytikkgfmhnmoalaa.pg
/- Contracts of package octet's Zag and Fixed, and of the document's own Zig, Zag and Fixed. -/
namespace Go.Proofs.Ytikkgfmhnmoalaa.octet
open Go.ChangeShapes Go.WideShapes Go.ChangeAt Go.RowKit
open wrapped
set_option linter.unusedVariables false
/-- Zigzag, back. -/
def zb (u : Int) : Int := if u % 2 = 1 then -(u / 2) - 1 else u / 2
end Go.Proofs.Ytikkgfmhnmoalaa.octet
/- What is read of a number's bytes, on plain numbers, and the contracts of package octet's Get and GetInt. -/
namespace Go.Proofs.Ytikkgfmhnmoalaa.octet
open Go.ChangeShapes Go.WideShapes Go.ChangeAt Go.RowKit
open wrapped
set_option linter.unusedVariables false
/-- The number of the first k groups. -/
def val (g : Nat → Nat) : Nat → Nat
  | 0 => 0
  | k + 1 => val g k + g k % 128 * 128 ^ k
theorem val_lt (g : Nat → Nat) (k : Nat) : val g k < 128 ^ k := by
  induction k with
  | zero => show (0 : Nat) < 1; decide
  | succ k ih =>
    show val g k + g k % 128 * 128 ^ k < 128 ^ (k + 1)
    rw [Nat.pow_succ]
    have h : g k % 128 * 128 ^ k ≤ 127 * 128 ^ k := Nat.mul_le_mul_right _ (by omega)
    omega
theorem val_or (g : Nat → Nat) (k : Nat) : val g k ||| g k % 128 * 128 ^ k = val g (k + 1) := by
  have e := Nat.two_pow_add_eq_or_of_lt (i := 7 * k) (b := val g k) (by rw [Nat.pow_mul]; exact val_lt g k) (g k % 128)
  rw [Nat.pow_mul] at e
  rw [Nat.or_comm, Nat.mul_comm (g k % 128)]
  show _ = val g k + g k % 128 * 128 ^ k
  rw [Nat.mul_comm (g k % 128), Nat.add_comm]
  exact e.symm
/-- What is told at place i, of m bytes: value, how many bytes, error; nothing: one goes on. -/
def out (g : Nat → Nat) (m i : Nat) : Option (Nat × Nat × Nat) :=
  if i = m then some (0, 0, 10) else if i = 9 ∧ 1 < g i then some (0, 0, 11) else if 128 ≤ g i then none else if g i = 0 ∧ 0 < i then some (0, 0, 12) else some (val g (i + 1), i + 1, 0)
def run (g : Nat → Nat) (m : Nat) : Nat → Nat → Nat × Nat × Nat
  | 0, _ => (0, 0, 11)
  | fuel + 1, i => match out g m i with
    | some r => r
    | none => run g m fuel (i + 1)
theorem run_some {g : Nat → Nat} {m k : Nat} (hk : k ≤ 9) {r : Nat × Nat × Nat} (h : out g m k = some r) : run g m (10 - k) k = r := by
  rw [show 10 - k = (9 - k) + 1 by omega]; simp [run, h]
theorem run_none {g : Nat → Nat} {m k : Nat} (hk : k ≤ 9) (h : out g m k = none) : run g m (10 - k) k = run g m (10 - (k + 1)) (k + 1) := by
  rw [show 10 - k = (9 - k) + 1 by omega, show 10 - (k + 1) = 9 - k by omega]; simp [run, h]
theorem mask (c : Nat) (h : c < 256) : bits .and .u8 (c : Int) 127 = ((c % 128 : Nat) : Int) := by
  have e := u8_and_nat c 127 h (by decide)
  rw [show c &&& 127 = c % 128 from Nat.and_two_pow_sub_one_eq_mod c 7] at e
  exact e
theorem or_step (g : Nat → Nat) (V C k W : Nat) (hV : val g k = V) (hC : g k = C) (h : k ≤ 8 ∨ (k = 9 ∧ C ≤ 1)) (hW : val g (k + 1) = W) :
    bits .or .u64 (V : Int) (IntKind.u64.wrap ((C : Int) % 128 * 2 ^ (7 * k))) = ((W : Nat) : Int) := by
  subst hV hC hW
  have hp : ((2 : Int) ^ (7 * k)) = ((128 ^ k : Nat) : Int) := by
    rw [show (128 : Nat) ^ k = 2 ^ (7 * k) by rw [Nat.pow_mul]]
    push_cast; rfl
  have e : ((g k : Nat) : Int) % 128 * 2 ^ (7 * k) = ((g k % 128 * 128 ^ k : Nat) : Int) := by rw [hp]; push_cast; rfl
  have hb : g k % 128 * 128 ^ k < 18446744073709551616 := by
    rcases h with h | ⟨h, h2⟩
    · have h3 : 128 ^ k ≤ 128 ^ 8 := Nat.pow_le_pow_right (by decide) h
      exact Nat.lt_of_le_of_lt (Nat.mul_le_mul (show g k % 128 ≤ 127 by omega) h3) (by decide)
    · subst h
      exact Nat.lt_of_le_of_lt (Nat.mul_le_mul_right (128 ^ 9) (show g 9 % 128 ≤ 1 by omega)) (by decide)
  have hv : val g k < 18446744073709551616 := by
    have h1 := val_lt g k
    exact Nat.lt_of_lt_of_le h1 (Nat.le_trans (Nat.pow_le_pow_right (by decide) (show k ≤ 9 by omega)) (by decide))
  rw [e, IntKind.wrap_u64]
  generalize hd : g k % 128 * 128 ^ k = d at *
  rw [show ((d : Nat) : Int) % 18446744073709551616 = ((d : Nat) : Int) by omega, u64_or_nat _ _ hv hb, ← hd, val_or]
/-- The three answers, as the call gives them. -/
def res (s : Nat) (r : Nat × Nat × Nat) : Int × Int × Int := (((r.1 : Nat) : Int), if r.2.2 = 0 then ((s + r.2.1 : Nat) : Int) else 0, ((r.2.2 : Nat) : Int))
theorem ret_three {k l m : IntKind} {a b c d e f : Int} (h1 : a = b) (h2 : c = d) (h3 : e = f) : Ending.returned (.tuple #[.int k a, .int l c, .int m e]) = .returned (.tuple #[.int k b, .int l d, .int m f]) := by rw [h1, h2, h3]
theorem res_at {s k m : Nat} {g : Nat → Nat} {X E R : Int} {r : Nat × Nat × Nat} (hk : k ≤ 9) (h : res s (run g m (10 - k) k) = (X, E, R)) (ho : out g m k = some r) : X = (res s r).1 ∧ E = (res s r).2.1 ∧ R = (res s r).2.2 := by
  rw [run_some hk ho] at h
  rw [h]; exact ⟨rfl, rfl, rfl⟩
set_option maxHeartbeats 1000000 in
set_option maxRecDepth 100000 in
theorem get_walk (a : Option Addr) (n c s : Nat) (f : Nat → Nat) (w : World) (hr : Row w a n f) (hs : s ≤ n) (hnI : (n : Int) ≤ 9223372036854775807) (X E R : Int) (hR : Hid (res s (run (fun i => f (s + i)) (n - s) 10 0) = (X, E, R))) :
    Calls Try.prog 58 #[.slice a n c, .int .i64 ((s : Nat) : Int)] w fun e w' => e = .returned (.tuple #[.int .u64 X, .int .i64 E, .int .i64 R]) ∧ w' = w := by
  obtain ⟨hlen, hf, hcells⟩ := hr
  have hsI : (s : Int) ≤ n := by omega
  clear hlen
  go_enter Try.func58, Try.ntmps58
  go_wp2_with (go_in)
  go_loop [7, 14] (fun x i => ∃ k : Nat, k ≤ 9 ∧ s + k ≤ n ∧ i = .int .i64 k ∧ x = .int .u64 ((val (fun i => f (s + i)) k : Nat) : Int) ∧ Hid (res s (run (fun i => f (s + i)) (n - s) (10 - k) k) = (X, E, R))) (fun _ i => 10 - (intOf i).toNat)
  case atStart => exact ⟨0, by omega, by omega, rfl, rfl, hR⟩
  case round =>
    obtain ⟨k, hk, hkn, rfl, rfl, hrun⟩ := hrel
    by_cases h1 : s + k = n
    · obtain ⟨rfl, rfl, rfl⟩ := res_at hk hrun.out (r := (0, 0, 10)) (by unfold out; rw [if_pos (by omega)])
      clear hrun hR
      go_wp2
      go_ret3
      exact ⟨rfl, rfl⟩
    · rcases hcells with h0 | ⟨b, off, rfl, hcell⟩
      · omega
      · have hc := hcell (s + k) (by omega)
        have hfk := hf (s + k)
        have hmk := mask (f (s + k)) hfk
        have hc2 : w.cell? ⟨b, off + s + k, none⟩ = some (.int .u8 ((f (s + k) : Nat) : Int)) := by rw [Nat.add_assoc]; exact hc
        have hor := fun V W hV hW h => or_step (fun i => f (s + i)) V (f (s + k)) k W hV rfl h hW
        have h1I : ((s + k : Nat) : Int) < n := by omega
        have hout : out (fun i => f (s + i)) (n - s) k = if k = 9 ∧ 1 < f (s + k) then some (0, 0, 11) else if 128 ≤ f (s + k) then none else if f (s + k) = 0 ∧ 0 < k then some (0, 0, 12) else some (val (fun i => f (s + i)) (k + 1), k + 1, 0) := by
          unfold out; rw [if_neg (by omega)]
        generalize f (s + k) = C at *
        obtain ⟨V, hV⟩ : ∃ V, Hid (val (fun i => f (s + i)) k = V) := ⟨_, rfl⟩
        obtain ⟨W, hW⟩ : ∃ W, Hid (val (fun i => f (s + i)) (k + 1) = W) := ⟨_, rfl⟩
        replace hor := hor V W hV.out hW.out
        rw [hV.out]
        rw [hW.out] at hout
        clear hcell hf hR h1 hV
        by_cases h2 : k = 9 ∧ 1 < C
        · rw [if_pos h2] at hout
          obtain ⟨rfl, rfl, rfl⟩ := res_at hk hrun.out hout
          obtain ⟨rfl, h2⟩ := h2
          clear hrun hout hor
          go_wp2
          go_ret3
          exact ⟨rfl, rfl⟩
        · replace hor := hor (by omega)
          rw [if_neg h2] at hout
          by_cases h3 : 128 ≤ C
          · rw [if_pos h3] at hout
            have hrun2 := hrun.out
            rw [run_none hk hout] at hrun2
            have hrun3 : Hid (res s (run (fun i => f (s + i)) (n - s) (10 - (k + 1)) (k + 1)) = (X, E, R)) := hrun2
            have hk9 : ¬ (k : Int) = 9 := by omega
            clear hrun hout hrun2 h2
            go_wp2
            go_round
            case rel => exact ⟨u4, u5, u6, .int .u64 ((W : Nat) : Int), .int .i64 k, .int .u8 C, .int .i64 (k + 1), ⟨k + 1, by omega, by omega, by go_num, by rw [hW.out], hrun3⟩, rfl, rfl, rfl, rfl, rfl, rfl, rfl⟩
            case measure => simp [intOf]; omega
          · rw [if_neg h3] at hout
            by_cases h4 : C = 0 ∧ 0 < k
            · rw [if_pos h4] at hout
              obtain ⟨rfl, rfl, rfl⟩ := res_at hk hrun.out hout
              obtain ⟨rfl, h4⟩ := h4
              clear hrun hout h2 h3
              go_wp2
              all_goals go_ret3
              all_goals exact ⟨rfl, rfl⟩
            · rw [if_neg h4] at hout
              obtain ⟨rfl, rfl, rfl⟩ := res_at hk hrun.out hout
              clear hrun hout hW
              by_cases h9 : k = 9
              · subst h9
                have e9 : IntKind.u64.wrap ((C : Int) % 128 * 2 ^ (7 * 9)) = (C : Int) % 128 * 9223372036854775808 := by
                  rw [IntKind.wrap_u64, show (2 : Int) ^ (7 * 9) = 9223372036854775808 from by decide]; omega
                rw [e9] at hor
                have hC1 : ¬ (1 < C) := by omega
                have hC0 : ¬ (C = 0) := by omega
                clear h2 h4 e9
                go_wp2
                go_ret3
                exact ⟨ret_three rfl (by show _ = ((s + (9 + 1) : Nat) : Int); omega) rfl, rfl⟩
              · have h9I : ¬ (k : Int) = 9 := by omega
                clear h2 h9
                go_wp2
                all_goals go_ret3
                all_goals exact ⟨ret_three (by first | rfl | exact hor) (by show _ = ((s + (k + 1) : Nat) : Int); omega) rfl, rfl⟩
end Go.Proofs.Ytikkgfmhnmoalaa.octet
