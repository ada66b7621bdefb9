/- A state's text, made by package state. -/
import Derived.Test.YtgmpdnmheiblpaaDoorM11
import Derived.Test.YtgmpdnmheiblpaaDoorShelf
import Derived.Lib.ItoaLen
import Derived.Lib.AppendIntMem
import Derived.Lib.Strings
import Derived.Test.YtgmpdnmheiblpaaDoorM2
import Derived.Test.YtgmpdnmheiblpaaDoorM7
import Derived.Test.YtgmpdnmheiblpaaDoorM8
namespace Go.Proofs.YtgmpdnmheiblpaaDoor.pg
open Go.ChangeShapes Go.WideShapes Go.ChangeAt Go.RowKit
set_option linter.unusedVariables false
set_option linter.unusedSimpArgs false
set_option maxRecDepth 100000
attribute [local go_sem ↓] Go.wp_at_zero Go.wp_at_succ
/-- The library's table of the powers of ten is as its initialiser lays it. -/
def Tab (w : World) : Prop := Lib.TabIs Tryd.prog w "internal/strconv.uint64pow10" .u64 Lib.pow10Tab
theorem Tab.later {w w' : World} (h : Tab w) (hb : Below w.heap.size w w') : Tab w' := by
  unfold Tab Lib.TabIs World.var? at *
  obtain ⟨g, hg⟩ : ∃ g, Tryd.prog.globalNamed "internal/strconv.uint64pow10" = some g := by
    cases hg : Tryd.prog.globalNamed "internal/strconv.uint64pow10" with
    | none => simp [hg] at h
    | some g => exact ⟨g, rfl⟩
  simp only [hg, Option.bind_some] at h ⊢
  have hlt : g < w.heap.size := by
    rcases Nat.lt_or_ge g w.heap.size with h' | h'
    · exact h'
    · simp [Array.getElem?_eq_none h'] at h
  rw [hb.block g hlt]; exact h
/-- The text of a number. -/
def numK (n : Int) : ByteArray := ⟨(Lib.itoa n).toArray⟩
theorem numK_list (n : Int) : (numK n).data.toList = Lib.itoa n := by simp [numK]
theorem numK_size {n : Int} (h : I64 n) : (numK n).size ≤ 21 := by
  rw [Lib.size_eq, numK_list]
  exact Lib.itoa_length_le n h.1 h.2
theorem itoa_anyK (n : Int) (h : I64 n) (w : World) (hT : Tab w) : Calls Tryd.prog 34 #[.int .i64 n] w fun e w' => e = .returned (.string (numK n)) ∧ Below w.heap.size w w' :=
  (Tryd.strconv_Itoa n h.1 h.2 w hT).mono fun e w' ⟨he, k, os, hw⟩ => ⟨he, by rw [hw]; exact Lib.below_grow _ w (Nat.le_refl _) k os⟩
theorem fmt_anyK (n : Int) (h : I64 n) (w : World) (hT : Tab w) : Calls Tryd.prog 17 #[.int .i64 n, .int .i64 10] w fun e w' => e = .returned (.string (numK n)) ∧ Below w.heap.size w w' :=
  (Tryd.strconv_FormatInt_10 n h.1 h.2 w hT).mono fun e w' ⟨he, k, os, hw⟩ => ⟨he, by rw [hw]; exact Lib.below_grow _ w (Nat.le_refl _) k os⟩
theorem text_anyT (n : Int) (h : I64 n) (w : World) (hT : Tab w) : Calls Tryd.prog 16 #[.int .i64 n] w fun e w' => e = .returned (.string (numK n)) ∧ Below w.heap.size w w' := by
  have c := fmt_anyK n h w hT
  generalize numK n = S at *
  go_enter Tryd.func16, Tryd.ntmps16
  go_wp2_with (first | (go_at_call 17; (with_reducible refine c.mono ?_); rintro e w1 ⟨rfl, hb⟩))
  go_ret
  exact ⟨rfl, hb⟩
def stC (n : Int) : List Value := [.string (numK n)]
theorem infoStr : (Tryd.prog.info? 9).map (fun i => (i.zero, i.size, i.bytes)) = some (some (.string ⟨#[]⟩), 1, 16) := by kernel_rfl
theorem stC_len (l : List Int) : ∀ row ∈ l.map stC, row.length = 1 := fun r hr => by
  obtain ⟨x, _, rfl⟩ := List.mem_map.mp hr
  rfl
theorem ix_i64T {w : World} {a : Option Addr} {cap : Nat} {L : List Int} (h : Rows w 1 a cap (L.map chCells)) (i : Nat) (x : Int) (hi : L[i]? = some x) :
    ∃ b o, (∀ wx, (Instr.indexAt 54 (.slice a L.length cap) (.int .i64 (i : Int))).run Tryd.prog wx = .ok (.pointer (some ⟨b, o, none⟩)) wx) ∧ b < w.heap.size ∧ w.cell? ⟨b, o, none⟩ = some (.int .i64 x) := by
  obtain ⟨b, o, hr, hlt, hc⟩ := h.ix 54 2 Tryd.underlying54 (by kernel_rfl) (fun wx => Tryd.sizeOf2 wx) i (row := chCells x) (by simp [hi])
  rw [List.length_map] at hr
  exact ⟨b, o, hr, hlt, hc 0 _ rfl⟩
structure WdS (w W : World) (L : List Int) (na : Option Addr) (nc : Nat) (k : Nat) (va : Option Addr) (vc : Nat) : Prop where
  b : Below w.heap.size w W
  n : Rows W 1 na nc (L.map chCells)
  o : OwnL W w.heap.size 9 1 va vc ((L.take k).map stC)
theorem WdS.later {w W W' : World} {L : List Int} {na : Option Addr} {nc k : Nat} {va : Option Addr} {vc : Nat} (h : WdS w W L na nc k va vc) (hb : Below W.heap.size W W') : WdS w W' L na nc k va vc := ⟨bthen h.b hb, h.n.later hb, own_keep h.o (fun b q => hb.block b (blk_lt h.o b q).2)⟩
theorem WdS.grown {w W W' : World} {L : List Int} {na : Option Addr} {nc k : Nat} {va va' : Option Addr} {vc vc' : Nat} {x : Int} (hn : Rows w 1 na nc (L.map chCells)) (h : WdS w W L na nc k va vc) (hx : L[k]? = some x) (hg : Grown W w.heap.size 9 1 va ((L.take k).map stC) (stC x) va' vc' W') : WdS w W' L na nc (k + 1) va' vc' := by
  have hb : Below w.heap.size W W' := hg.be.mono (by have := h.b.size; omega)
  exact ⟨h.b.trans hb, hn.later (h.b.trans hb), by rw [take_oneT hx, List.map_append]; exact hg.ow⟩
/-- The strings one behind the other, as the library takes them. -/
theorem join_anyT (L : List Int) (hL : AllI L) (hl : L.length = 121) (w : World) (lo : Nat) (va : Option Addr) (vc : Nat) (h : OwnL w lo 9 1 va vc (L.map stC)) :
    Calls Tryd.prog 22 #[.slice va L.length vc, .string ⟨#[32]⟩] w fun e w' => e = .returned (.string ⟨(txB L).toArray⟩) ∧ Below w.heap.size w w' := by
  have hr := own_rows h (stC_len L)
  obtain ⟨x0, hx0⟩ : ∃ x, L[0]? = some x := ⟨_, List.getElem?_eq_getElem (by omega)⟩
  obtain ⟨b, off, rfl, hlt, hc⟩ := hr.row (i := 0) (row := stC x0) (by rw [List.getElem?_map, hx0]; rfl)
  have hcells : ∀ (j : Nat) S, (L.map numK)[j]? = some S → w.cell? ⟨b, off + j, none⟩ = some (.string S) := fun j S hj => by
    rw [List.getElem?_map] at hj
    cases hq : L[j]? with
    | none => rw [hq] at hj; cases hj
    | some x =>
      rw [hq] at hj
      simp only [Option.map_some, Option.some.injEq] at hj
      subst hj
      obtain ⟨b', off', ha, hlt', hc'⟩ := hr.row (i := j) (row := stC x) (by rw [List.getElem?_map, hq]; rfl)
      simp only [Option.some.injEq, Addr.mk.injEq, and_true] at ha
      obtain ⟨rfl, rfl⟩ := ha
      have := hc' 0 _ rfl
      simpa using this
  have hne : L ≠ [] := by intro e; rw [e] at hl; simp at hl
  have ej : Lib.join ((L.map numK).map (·.data.toList)) (⟨#[32]⟩ : ByteArray).data.toList = txB L := by
    rw [List.map_map, ← join_tx L hne]
    congr 1
  have hlen : (txB L).length ≤ 140737488355328 := by
    have := spB_len L hL
    unfold txB
    rw [List.length_drop]
    omega
  have c := Tryd.strings_Join b off vc (L.map numK) ⟨#[32]⟩ w hcells hlt (by rw [List.length_map]; omega) (by rw [List.length_map]; have := hr.1; rw [List.length_map] at this; exact this) (by rw [ej]; exact hlen)
  rw [ej, List.length_map] at c
  exact c
set_option maxHeartbeats 4000000 in
theorem stext_any (s : Sts) (hs : s.wf) (w : World) (hT : Tab w) : Calls Tryd.prog 13 #[s.val] w fun e w' => e = .returned (.string ⟨(txB s.nums).toArray⟩) ∧ Below w.heap.size w w' := by
  obtain ⟨iN, hiN', hzN', hsN', hbN'⟩ := info_q infoStr
  have hiN : Hid (Tryd.prog.info? 9 = some iN) := hiN'
  have hzN : Hid _ := hzN'
  have hsN : Hid _ := hsN'
  have hbN : Hid _ := hbN'
  clear hiN' hzN' hsN' hbN'
  have hw : Hid s.wf := hs
  have hbx : Hid (Below w.heap.size w (w.alloc (objSt s))) := boxed _ _
  have hin : Hid (InS (w.alloc (objSt s)) w.heap.size s) := inS_new _ _
  have hTW : Hid (Tab w) := hT
  have huS : Hid (Tryd.prog.underlying 38 = _) := Tryd.underlying38
  have cN := numbers_anyT s hs (w.alloc (objSt s))
  have hnl : Hid (s.nums.length = 121) := Sts.nums_len hs
  have hnI : Hid (AllI s.nums) := Sts.nums_I hs
  have hiS := infoS hs
  have hiSH : Hid _ := hiS
  clear hs hT hiS
  generalize s.nums = L at *
  go_enter Tryd.func13, Tryd.ntmps13
  go_upto_region 3 with (first
    | ((with_reducible refine at_loadQ 38 _ rfl ?_); refine stopQ_out ?_; refine wpList_load_row rfl 38 _ rfl w.heap.size rfl _ _ _ _ hin.out huS.out rfl hiSH.out ?_)
    | (go_at_call 21; (with_reducible refine cN.mono ?_); rintro e w3 ⟨na, nc, rfl, hN, hb3⟩))
  have hb03 : Hid (Below w.heap.size w w3) := bthen hbx.out hb3
  have hN3 : Hid (Rows w3 1 na nc (L.map chCells)) := hN
  have s0 : Hid (WdS w3 w3 L na nc 0 none 0) := ⟨Below.refl _ _, hN, by rw [List.take_zero]; exact own_nil_q _ _ _ _⟩
  clear cN hN hb3 hbx hin
  go_loopw [3, 9] (fun o u wr => ∃ (k : Nat) (va : Option Addr) (vc : Nat), k ≤ L.length ∧ u = .int .i64 (k : Int) ∧ o = .slice va k vc ∧ Hid (WdS w3 wr L na nc k va vc)) (fun _ u _ => L.length - (intOf u).toNat)
  case atStart => exact ⟨0, none, 0, Nat.zero_le _, rfl, rfl, s0⟩
  case round =>
    clear s0
    obtain ⟨k, va, vc, hk, rfl, rfl, hs⟩ := hrel
    by_cases hlt : k < L.length
    · have hkI : (k : Int) < L.length := by omega
      obtain ⟨x, hx, hxm⟩ := get_lt L k hlt
      obtain ⟨b, o, hix, hbl, hc⟩ := ix_i64T hs.out.n k x hx
      have cT := text_anyT x (hnI.out x hxm) wr (hTW.out.later (hb03.out.trans (hs.out.b.mono hb03.out.size)))
      have hxH : Hid (L[k]? = some x) := hx
      have hcs : Hid (stC x = [.string (numK x)]) := rfl
      generalize numK x = S at *
      clear hx hxm hbl
      have htl : (L.take k).length = k := by rw [List.length_take]; omega
      have hk121 : k < 121 := by have := hnl.out; omega
      go_wp2_with (first
        | (go_at_call 16; (with_reducible refine cT.mono ?_); rintro e w4 ⟨rfl, hb4⟩; (have h4 : Hid (WdS w3 w4 L na nc k va vc) := hs.out.later hb4); clear hb4 cT hs hix hc)
        | (at_builtin; (refine wpList_app1 rfl (.tmp 13) (.tmp 16) 24 rfl w3.heap.size 9 iN _ 1 16 Tryd.underlying24 hiN.out hzN.out hsN.out hbN.out rfl (by decide) va vc ((L.take k).map stC) (by rw [List.length_map, htl]; rfl) h4.out.o [.string S] rfl rfl (by simp [Value.oneCell']) (by rw [List.length_map, htl]; have := hnl.out; unfold maxLen; omega) (by rw [List.length_map, htl]; have := hnl.out; omega) h4.out.b.size ?_); intro va' vc' w5 hg; rw [List.length_map, htl]; (have h5 : Hid (WdS w3 w5 L na nc (k + 1) va' vc') := WdS.grown hN3.out h4.out hxH.out (by rw [hcs.out]; exact hg)); clear hg))
      go_roundw
      case rel => exact ⟨k + 1, va', vc', by omega, by go_num, rfl, h5⟩
      case measure => simp [intOf]; omega
    · have hke : k = L.length := by omega
      have hkI : ¬ (k : Int) < L.length := by omega
      have hO : Hid (OwnL wr w3.heap.size 9 1 va vc (L.map stC)) := by (have := hs.out.o; rw [hke, List.take_length] at this; exact this)
      have hbE : Hid (Below w.heap.size w wr) := hb03.out.trans (hs.out.b.mono hb03.out.size)
      have cJ := join_anyT L hnI.out hnl.out wr _ va vc hO.out
      clear hs
      rw [hke] at *
      go_wp2_with (first
        | (go_at_call 22; (with_reducible refine cJ.mono ?_); rintro e w6 ⟨rfl, hb6⟩))
      go_ret
      exact ⟨rfl, bthen hbE.out hb6⟩
end Go.Proofs.YtgmpdnmheiblpaaDoor.pg
/- A state's text, by the document's own. -/
namespace Go.Proofs.YtgmpdnmheiblpaaDoor.pg
open Go.ChangeShapes Go.WideShapes Go.ChangeAt Go.RowKit
set_option linter.unusedVariables false
set_option linter.unusedSimpArgs false
set_option maxRecDepth 100000
attribute [local go_sem ↓] Go.wp_at_zero Go.wp_at_succ
theorem bytes_extK {a b : ByteArray} (h : a.data.toList = b.data.toList) : a = b := by
  cases a; cases b; simp at h; simp [h]
theorem app_listK (a b : ByteArray) : (a ++ b).data.toList = a.data.toList ++ b.data.toList := by simp [ByteArray.data_append]
/-- A number, a blank ahead. -/
def spS (n : Int) : ByteArray := ⟨(32 :: Lib.itoa n).toArray⟩
theorem spS_list (n : Int) : (spS n).data.toList = 32 :: Lib.itoa n := by simp [spS]
theorem spS_size {n : Int} (h : I64 n) : (spS n).size ≤ 22 := by
  rw [Lib.size_eq, spS_list]
  have := Lib.itoa_length_le n h.1 h.2
  simp only [List.length_cons]
  omega
theorem spS_is (n : Int) : (⟨#[32]⟩ : ByteArray) ++ numK n = spS n := bytes_extK (by rw [app_listK, numK_list, spS_list]; rfl)
theorem wide_anyT (n : Int) (h : I64 n) (w : World) (hT : Tab w) : Calls Tryd.prog 23 #[.int .i64 n] w fun e w' => e = .returned (.string (spS n)) ∧ Below w.heap.size w w' := by
  have c := fmt_anyK n h w hT
  have hz := numK_size h
  have hE : Hid ((⟨#[32]⟩ : ByteArray) ++ numK n = spS n) := spS_is n
  generalize numK n = S at *
  go_enter Tryd.func23, Tryd.ntmps23
  go_wp2_with (first | (go_at_call 17; (with_reducible refine c.mono ?_); rintro e w1 ⟨rfl, hb⟩))
  go_ret
  exact ⟨by rw [hE.out]; rfl, hb⟩
theorem num_anyT (n : Int) (h : I64 n) (w : World) (hT : Tab w) : Calls Tryd.prog 24 #[.int .i64 n] w fun e w' => e = .returned (.string (spS n)) ∧ Below w.heap.size w w' := by
  have c := itoa_anyK n h w hT
  have hz := numK_size h
  have hE : Hid ((⟨#[32]⟩ : ByteArray) ++ numK n = spS n) := spS_is n
  generalize numK n = S at *
  go_enter Tryd.func24, Tryd.ntmps24
  go_wp2_with (first | (go_at_call 34; (with_reducible refine c.mono ?_); rintro e w1 ⟨rfl, hb⟩))
  go_ret
  exact ⟨by rw [hE.out]; rfl, hb⟩
/-- What the text so far is of. -/
structure Tx (S : ByteArray) (L : List Int) : Prop where
  e : S.data.toList = spB L
  z : S.size ≤ 22 * L.length
theorem Tx.nil : Tx ⟨#[]⟩ [] := ⟨rfl, Nat.le_refl _⟩
theorem Tx.put {S : ByteArray} {L : List Int} (h : Tx S L) {n : Int} (hn : I64 n) : Tx (S ++ spS n) (L ++ [n]) := by
  refine ⟨by rw [app_listK, h.e, spS_list, spB_app, spB_one], ?_⟩
  rw [ByteArray.size_append, List.length_append, List.length_singleton]
  have := spS_size hn
  have := h.z
  omega
theorem Tx.to {S : ByteArray} {L M : List Int} (h : Tx S L) (e : L = M) : Tx S M := e ▸ h
structure DoS (w W : World) (s : Sts) : Prop where
  b : Below w.heap.size w W
  i : InS W w.heap.size s
theorem DoS.later {w W W' : World} {s : Sts} (h : DoS w W s) (hb : Below W.heap.size W W') : DoS w W' s := ⟨bthen h.b hb, h.i.later hb⟩
theorem DoS.tab {w W : World} {s : Sts} (h : DoS w W s) (hT : Tab w) : Tab W := hT.later h.b
/-- And a box beside. -/
structure DoC (w W : World) (s : Sts) (CB : Nat) (o : Obj) : Prop where
  n : DoS w W s
  c : W.heap[CB]? = some o
theorem DoC.later {w W W' : World} {s : Sts} {CB : Nat} {o : Obj} (h : DoC w W s CB o) (hb : Below W.heap.size W W') : DoC w W' s CB o := ⟨h.n.later hb, (hb.block _ (Array.getElem?_eq_some_iff.mp h.c).1).trans h.c⟩
theorem tl_b {p l : List Int} {b : Nat} (h : p.length + l.length ≤ b) (k : Nat) (_ : k ≤ 100) : (p ++ l.take k).length ≤ b := by
  rw [List.length_append, List.length_take]
  omega
set_option maxHeartbeats 8000000 in
theorem rtext_any (s : Sts) (hs : s.wf) (w : World) (hT : Tab w) : Calls Tryd.prog 14 #[s.val] w fun e w' => e = .returned (.string ⟨(txB s.nums).toArray⟩) ∧ Below w.heap.size w w' := by
  have hw : Hid s.wf := hs
  have hTH : Hid (Tab w) := hT
  have s0 : Hid (DoS w (w.alloc (objSt s)) s) := ⟨boxed _ _, inS_new _ _⟩
  obtain ⟨ZG, hzG, hZG, _⟩ := zero_big (P := Tryd.prog) (t := 35) (n := 12) (by kernel_rfl)
  obtain ⟨ZC, hzC, hZC, _⟩ := zero_big (P := Tryd.prog) (t := 32) (n := 9) (by kernel_rfl)
  have hzGH : Hid (∀ w, (zeroValue 35).run Tryd.prog w = .ok (.agg ZG) w) := hzG
  have hzCH : Hid (∀ w, (zeroValue 32).run Tryd.prog w = .ok (.agg ZC) w) := hzC
  have huV : Hid (Tryd.prog.underlying 28 = _) := Tryd.underlying28
  have huB : Hid (Tryd.prog.underlying 30 = _) := Tryd.underlying30
  have huO : Hid (Tryd.prog.underlying 29 = _) := Tryd.underlying29
  have huC : Hid (Tryd.prog.underlying 33 = _) := Tryd.underlying33
  have huG : Hid (Tryd.prog.underlying 36 = _) := Tryd.underlying36
  obtain ⟨GA, hGA⟩ : ∃ GA, Hid ((s.gos.map Gr.cells).flatten = GA) := ⟨_, rfl⟩
  obtain ⟨CA, hCA⟩ : ∃ CA, Hid ((s.ch.map Chc.cells).flatten = CA) := ⟨_, rfl⟩
  obtain ⟨OA, hOA⟩ : ∃ OA, Hid (ints s.own = OA) := ⟨_, rfl⟩
  obtain ⟨VA, hVA⟩ : ∃ VA, Hid (ints s.vars = VA) := ⟨_, rfl⟩
  have hgl : GA.length = 72 := by rw [← hGA.out]; exact gos_len hs
  have hcl : CA.length = 36 := by rw [← hCA.out]; exact chs_len hs
  have hol : OA.length = 4 := by rw [← hOA.out, List.length_map]; exact hs.lo
  have hvl : VA.length = 8 := by rw [← hVA.out, List.length_map]; exact hs.lv
  have rG : Hid (∀ W, InS W w.heap.size s → W.rangeAt w.heap.size 48 GA) := fun W h => by rw [← hGA.out]; exact h.rgos hw.out
  have rC : Hid (∀ W, InS W w.heap.size s → W.rangeAt w.heap.size 12 CA) := fun W h => by rw [← hCA.out]; exact h.rchs hw.out
  have rO : Hid (∀ W, InS W w.heap.size s → W.rangeAt w.heap.size 8 OA) := fun W h => by rw [← hOA.out]; exact h.rown hw.out
  have rV : Hid (∀ W, InS W w.heap.size s → W.rangeAt w.heap.size 0 VA) := fun W h => by rw [← hVA.out]; exact h.rvars hw.out
  have iG : Hid ((Tryd.prog.info? 36).map (·.size) = some GA.length) := by (show _ = _; rw [hgl]; kernel_rfl)
  have iC : Hid ((Tryd.prog.info? 33).map (·.size) = some CA.length) := by (show _ = _; rw [hcl]; kernel_rfl)
  have iO : Hid ((Tryd.prog.info? 29).map (·.size) = some OA.length) := by (show _ = _; rw [hol]; kernel_rfl)
  have iV : Hid ((Tryd.prog.info? 28).map (·.size) = some VA.length) := by (show _ = _; rw [hvl]; kernel_rfl)
  have xG : Hid (∀ (k : Nat) (g : Gr), s.gos[k]? = some g → ∀ wx, (Instr.index 36 (.agg GA.toArray) (.int .i64 (k : Int))).run Tryd.prog wx = .ok (.agg g.cells.toArray) wx) := fun k g hk => by
    rw [← hGA.out]
    exact ix_rows Tryd.underlying36 (fun wx => Tryd.sizeOf35 wx) Tryd.underlying35 (fun r hr => by obtain ⟨x, hx, rfl⟩ := List.mem_map.mp hr; exact Gr.len (hw.out.ag x hx)) (by rw [List.length_map]; exact hw.out.lg) (by rw [List.getElem?_map, hk]; rfl)
  have xC : Hid (∀ (k : Nat) (g : Chc), s.ch[k]? = some g → ∀ wx, (Instr.index 33 (.agg CA.toArray) (.int .i64 (k : Int))).run Tryd.prog wx = .ok (.agg g.cells.toArray) wx) := fun k g hk => by
    rw [← hCA.out]
    exact ix_rows Tryd.underlying33 (fun wx => Tryd.sizeOf32 wx) Tryd.underlying32 (fun r hr => by obtain ⟨x, hx, rfl⟩ := List.mem_map.mp hr; exact Chc.len (hw.out.ac x hx)) (by rw [List.length_map]; exact hw.out.lc) (by rw [List.getElem?_map, hk]; rfl)
  have xO : Hid (∀ (k : Nat) (x : Int), s.own[k]? = some x → ∀ wx, (Instr.index 29 (.agg OA.toArray) (.int .i64 (k : Int))).run Tryd.prog wx = .ok (.int .i64 x) wx) := fun k x hk => by
    rw [← hOA.out]
    exact ix_ints Tryd.underlying29 (fun wx => Tryd.sizeOf3 wx) Tryd.underlying3 hw.out.lo hk
  have xV : Hid (∀ (k : Nat) (x : Int), s.vars[k]? = some x → ∀ wx, (Instr.index 28 (.agg VA.toArray) (.int .i64 (k : Int))).run Tryd.prog wx = .ok (.int .i64 x) wx) := fun k x hk => by
    rw [← hVA.out]
    exact ix_ints Tryd.underlying28 (fun wx => Tryd.sizeOf2 wx) Tryd.underlying2 hw.out.lv hk
  clear hzG hzC hgl hcl hol hvl hs hT
  go_enter Tryd.func14, Tryd.ntmps14
  go_upto_region 2 with fail
  change Code.wp _ _ _ _ (w.alloc (objSt s))
  generalize w.alloc (objSt s) = V0 at *
  have hrV : Hid (V0.rangeAt w.heap.size 0 VA) := rV.out V0 s0.out.i
  go_wp2_with (first
    | ((with_reducible refine at_loadQ 28 _ rfl ?_); refine stopQ_out ?_; refine wpList_load_mid rfl 28 _ rfl w.heap.size 0 rfl VA _ hrV.out huV.out rfl iV.out ?_))
  clear hrV
  go_loopw [3, 19] (fun o u wr => ∃ (k : Nat) (S : ByteArray), k ≤ 8 ∧ u = .int .i64 (k : Int) ∧ o = .string S ∧ Hid (Tx S (([] : List Int) ++ s.vars.take k)) ∧ Hid (DoS w wr s)) (fun _ u _ => 8 - (intOf u).toNat)
  case atStart => exact ⟨0, _, by omega, rfl, rfl, Tx.nil.to (by simp), s0⟩
  case round =>
    clear s0
    obtain ⟨k, S, hk, rfl, rfl, hx, hs⟩ := hrel
    by_cases hlt : k < 8
    · have hkI : (k : Int) < 8 := by omega
      obtain ⟨x, hxk, hxm⟩ := get_lt s.vars k (by rw [hw.out.lv]; exact hlt)
      have xk := xV.out k x hxk
      have hxI : I64 x := hw.out.av x hxm
      have hz : S.size ≤ 3000 := by (have h1 := hx.out.z; have h2 := tl_b (p := []) (l := s.vars) (b := 100) (by rw [hw.out.lv]; simp) k (by omega); omega)
      have cT := wide_anyT x hxI wr (hs.out.tab hTH.out)
      have hN : Hid (Tx (S ++ spS x) (([] : List Int) ++ s.vars.take (k + 1))) := (hx.out.put hxI).to (by rw [take_oneT hxk, List.append_assoc])
      have hzS := spS_size hxI
      clear hx hxk hxm hxI
      generalize spS x = T at *
      go_wp2_with (first
        | (go_at_call 23; (with_reducible refine cT.mono ?_); rintro e w4 ⟨rfl, hb4⟩; (have h4 : Hid _ := hs.out.later hb4); clear hb4 cT hs xk))
      go_roundw
      case rel => exact ⟨k + 1, S ++ T, by omega, by go_num, rfl, hN, h4⟩
      case measure => simp [intOf]; omega
    · have hke : k = 8 := by omega
      have hkI : ¬ (k : Int) < 8 := by omega
      have hxF : Hid (Tx S (([] : List Int) ++ s.vars)) := hx.out.to (by rw [hke, List.take_of_length_le (by rw [hw.out.lv]; omega)])
      clear hx hke hk
      have hrO : Hid (wr.rangeAt w.heap.size 8 OA) := rO.out wr hs.out.i
      have hx1 : Hid (Tx S s.vars) := hxF
      clear hxF
      go_wp2_with (first
        | ((with_reducible refine at_loadQ 29 _ rfl ?_); refine stopQ_out ?_; refine wpList_load_mid rfl 29 _ rfl w.heap.size 8 rfl OA _ hrO.out huO.out rfl iO.out ?_))
      clear hrO
      go_loopw [3, 29] (fun o u wr => ∃ (k : Nat) (S : ByteArray), k ≤ 4 ∧ u = .int .i64 (k : Int) ∧ o = .string S ∧ Hid (Tx S (s.vars ++ s.own.take k)) ∧ Hid (DoS w wr s)) (fun _ u _ => 4 - (intOf u).toNat)
      case atStart => exact ⟨0, _, by omega, rfl, rfl, (by simpa using hx1), hs⟩
      case round =>
        clear hs hx1
        obtain ⟨k, S, hk, rfl, rfl, hx, hs⟩ := hrel
        by_cases hlt : k < 4
        · have hkI : (k : Int) < 4 := by omega
          obtain ⟨x, hxk, hxm⟩ := get_lt s.own k (by rw [hw.out.lo]; exact hlt)
          have xk := xO.out k x hxk
          have hxI : I64 x := hw.out.ao x hxm
          have hz : S.size ≤ 3000 := by (have h1 := hx.out.z; have h2 := tl_b (p := s.vars) (l := s.own) (b := 100) (by rw [hw.out.lv, hw.out.lo]; omega) k (by omega); omega)
          have cT := num_anyT x hxI wr (hs.out.tab hTH.out)
          have hN : Hid (Tx (S ++ spS x) (s.vars ++ s.own.take (k + 1))) := (hx.out.put hxI).to (by rw [take_oneT hxk, List.append_assoc])
          have hzS := spS_size hxI
          clear hx hxk hxm hxI
          generalize spS x = T at *
          go_wp2_with (first
            | (go_at_call 24; (with_reducible refine cT.mono ?_); rintro e w4 ⟨rfl, hb4⟩; (have h4 : Hid _ := hs.out.later hb4); clear hb4 cT hs xk))
          go_roundw
          case rel => exact ⟨k + 1, S ++ T, by omega, by go_num, rfl, hN, h4⟩
          case measure => simp [intOf]; omega
        · have hke : k = 4 := by omega
          have hkI : ¬ (k : Int) < 4 := by omega
          have hxF : Hid (Tx S (s.vars ++ s.own)) := hx.out.to (by rw [hke, List.take_of_length_le (by rw [hw.out.lo]; omega)])
          clear hx hke hk
          have hrC : Hid (wr.rangeAt w.heap.size 12 CA) := rC.out wr hs.out.i
          have hx2 : Hid (Tx S (s.vars ++ s.own ++ ((s.ch.take 0).map Chc.nums).flatten)) := hxF.out.to (by simp)
          clear hxF
          go_wp2_with (first
            | ((with_reducible refine at_loadQ 33 _ rfl ?_); refine stopQ_out ?_; refine wpList_load_mid rfl 33 _ rfl w.heap.size 12 rfl CA _ hrC.out huC.out rfl iC.out ?_))
          clear hrC
          go_loopw [3, 39] (fun o u wr => ∃ (k : Nat) (S : ByteArray), k ≤ 4 ∧ u = .int .i64 (k : Int) ∧ o = .string S ∧ Hid (Tx S (s.vars ++ s.own ++ ((s.ch.take k).map Chc.nums).flatten)) ∧ Hid (DoS w wr s)) (fun _ u _ => 4 - (intOf u).toNat)
          case atStart => exact ⟨0, _, by omega, rfl, rfl, hx2, hs⟩
          case round =>
            clear hx2 hs
            obtain ⟨m, S, hm, rfl, rfl, hx, hs⟩ := hrel
            by_cases hml : m < 4
            · have hmI : (m : Int) < 4 := by omega
              obtain ⟨c, hc, hcm⟩ := get_lt s.ch m (by rw [hw.out.lc]; exact hml)
              have hcw : Hid c.wf := hw.out.ac c hcm
              have xk := xC.out m c hc
              have hLl : (s.vars ++ s.own ++ ((s.ch.take m).map Chc.nums).flatten).length ≤ 48 := by rw [fl_len hw.out m hm]; omega
              have hNm : Hid (s.vars ++ s.own ++ ((s.ch.take m).map Chc.nums).flatten ++ c.buf ++ c.five = s.vars ++ s.own ++ ((s.ch.take (m + 1)).map Chc.nums).flatten) := by (show _ = _; rw [fl_more hc])
              obtain ⟨L, hL⟩ : ∃ L, Hid (s.vars ++ s.own ++ ((s.ch.take m).map Chc.nums).flatten = L) := ⟨_, rfl⟩
              rw [hL.out] at hx hLl hNm
              have hcb : c.buf.length = 4 := hcw.out.2.2.2.2.1
              have hzi : (wr.alloc (.cells ZC 32)).heap[wr.heap.size]? = some (.cells ZC 32) := heap_alloc_new wr _
              have hi9 : Hid ((Tryd.prog.info? 32).map (·.size) = some c.cells.toArray.size) := infoC hcw.out
              have hZs : Hid (ZC.size = c.cells.toArray.size) := by (show _ = _; rw [hZC, List.size_toArray, Chc.len hcw.out])
              have h3 : Hid (DoC w ((wr.alloc (.cells ZC 32)).setRow wr.heap.size c.cells.toArray) s wr.heap.size (objCh c)) := ⟨hs.out.later ((boxed _ _).trans ⟨rfl, rfl, rfl, by rw [setRow_size]; exact Nat.le_refl _, fun q hq => setRow_other _ _ q _ (by omega)⟩), setRow_heap _ _ _ _ _ _ hzi⟩
              clear hs hc hcm
              go_upto_region 15 with (first
                | ((with_reducible refine at_allocQ 32 rfl ?_); refine stopQ_out ?_; refine wpList_alloc_big rfl 32 rfl hzCH.out ?_)
                | ((with_reducible refine at_storeQ 32 _ _ rfl ?_); refine stopQ_out ?_; refine wpList_store_row rfl 32 _ _ rfl wr.heap.size c.cells.toArray rfl rfl _ _ hzi hi9.out hZs.out (oneC c) ?_))
              clear xk hzi hi9 hZs
              generalize (wr.alloc (.cells ZC 32)).setRow wr.heap.size c.cells.toArray = Y at *
              generalize wr.heap.size = CB at *
              obtain ⟨BA, hBA⟩ : ∃ BA, Hid (ints c.buf = BA) := ⟨_, rfl⟩
              have rB : Hid (Y.rangeAt CB 0 BA) := by (rw [← hBA.out]; exact range_of h3.out.c (a := []) (c := [.int .i64 c.ln, .bool c.shut, .int .i64 c.off, .int .i64 c.frm, .int .i64 c.val]) rfl rfl)
              have iB : Hid ((Tryd.prog.info? 30).map (·.size) = some BA.length) := by (show _ = _; rw [← hBA.out, List.length_map, hcb]; kernel_rfl)
              have xB : Hid (∀ (k : Nat) (x : Int), c.buf[k]? = some x → ∀ wx, (Instr.index 30 (.agg BA.toArray) (.int .i64 (k : Int))).run Tryd.prog wx = .ok (.int .i64 x) wx) := fun k x hk => by
                rw [← hBA.out]
                exact ix_ints Tryd.underlying30 (fun wx => Tryd.sizeOf2 wx) Tryd.underlying2 hcb hk
              go_wp2_with (first
                | ((with_reducible refine at_loadQ 30 _ rfl ?_); refine stopQ_out ?_; refine wpList_load_mid rfl 30 _ rfl CB 0 rfl BA _ rB.out huB.out rfl iB.out ?_))
              clear rB
              go_loopw [3, 44] (fun o u wr => ∃ (k : Nat) (S : ByteArray), k ≤ 4 ∧ u = .int .i64 (k : Int) ∧ o = .string S ∧ Hid (Tx S (L ++ c.buf.take k)) ∧ Hid (DoC w wr s CB (objCh c))) (fun _ u _ => 4 - (intOf u).toNat)
              case atStart => exact ⟨0, _, by omega, rfl, rfl, (by simpa using hx), h3⟩
              case round =>
                clear hx h3
                obtain ⟨k, S, hk, rfl, rfl, hx, hs⟩ := hrel
                by_cases hlt : k < 4
                · have hkI : (k : Int) < 4 := by omega
                  obtain ⟨x, hxk, hxm⟩ := get_lt c.buf k (by rw [hcb]; exact hlt)
                  have xk := xB.out k x hxk
                  have hxI : I64 x := hcw.out.2.2.2.2.2 x hxm
                  have hz : S.size ≤ 3000 := by (have h1 := hx.out.z; have h2 := tl_b (p := L) (l := c.buf) (b := 100) (by rw [hcb]; omega) k (by omega); omega)
                  have cT := wide_anyT x hxI wr (hs.out.n.tab hTH.out)
                  have hN : Hid (Tx (S ++ spS x) (L ++ c.buf.take (k + 1))) := (hx.out.put hxI).to (by rw [take_oneT hxk, List.append_assoc])
                  have hzS := spS_size hxI
                  clear hx hxk hxm hxI
                  generalize spS x = T at *
                  go_wp2_with (first
                    | (go_at_call 23; (with_reducible refine cT.mono ?_); rintro e w4 ⟨rfl, hb4⟩; (have h4 : Hid _ := hs.out.later hb4); clear hb4 cT hs xk))
                  go_roundw
                  case rel => exact ⟨k + 1, S ++ T, by omega, by go_num, rfl, hN, h4⟩
                  case measure => simp [intOf]; omega
                · have hke : k = 4 := by omega
                  have hkI : ¬ (k : Int) < 4 := by omega
                  have hxF : Hid (Tx S (L ++ c.buf)) := hx.out.to (by rw [hke, List.take_of_length_le (by rw [hcb]; omega)])
                  clear hx hke hk
                  have hz5 : S.size ≤ 1200 := by (have h1 := hxF.out.z; rw [List.length_append, hcb] at h1; omega)
                  have ks : wr.cell? ⟨CB, 5, none⟩ = some (.bool c.shut) := cell_ofG hs.out.c (chc_at hcw.out).2.1
                  obtain ⟨bs, hbs⟩ : ∃ bs, c.shut = bs := ⟨_, rfl⟩
                  rw [hbs] at ks
                  cases bs with
                  | false =>
                    go_upto_region 23 with fail
                    have h5 : DoC w wr s CB (objCh c) := hs.out
                    obtain ⟨T0, hT0⟩ : ∃ T, spS c.ln = T := ⟨_, rfl⟩
                    have hz0 : T0.size ≤ 22 := by rw [← hT0]; exact spS_size hcw.out.1
                    have cT0 : ∀ q : Cls (Bey wr), Calls Tryd.prog 24 #[.int .i64 c.ln] q.w fun e w' => e = .returned (.string T0) ∧ Below q.w.heap.size q.w w' := fun q => by rw [← hT0]; exact num_anyT c.ln hcw.out.1 q.w ((h5.n.tab hTH.out).later q.h)
                    have zc0 : ∀ q : Cls (Bey wr), q.w.cell? ⟨CB, 4, none⟩ = some (.int .i64 c.ln) := fun q => bey_cell (cell_ofG h5.c (chc_at hcw.out).1) q
                    obtain ⟨T1, hT1⟩ : ∃ T, spS 0 = T := ⟨_, rfl⟩
                    have hz1 : T1.size ≤ 22 := by rw [← hT1]; exact spS_size (by unfold I64; omega)
                    have cT1 : ∀ q : Cls (Bey wr), Calls Tryd.prog 24 #[.int .i64 0] q.w fun e w' => e = .returned (.string T1) ∧ Below q.w.heap.size q.w w' := fun q => by rw [← hT1]; exact num_anyT 0 (by unfold I64; omega) q.w ((h5.n.tab hTH.out).later q.h)
                    obtain ⟨T2, hT2⟩ : ∃ T, spS c.off = T := ⟨_, rfl⟩
                    have hz2 : T2.size ≤ 22 := by rw [← hT2]; exact spS_size hcw.out.2.1
                    have cT2 : ∀ q : Cls (Bey wr), Calls Tryd.prog 24 #[.int .i64 c.off] q.w fun e w' => e = .returned (.string T2) ∧ Below q.w.heap.size q.w w' := fun q => by rw [← hT2]; exact num_anyT c.off hcw.out.2.1 q.w ((h5.n.tab hTH.out).later q.h)
                    have zc2 : ∀ q : Cls (Bey wr), q.w.cell? ⟨CB, 6, none⟩ = some (.int .i64 c.off) := fun q => bey_cell (cell_ofG h5.c (chc_at hcw.out).2.2.1) q
                    obtain ⟨T3, hT3⟩ : ∃ T, spS c.frm = T := ⟨_, rfl⟩
                    have hz3 : T3.size ≤ 22 := by rw [← hT3]; exact spS_size hcw.out.2.2.1
                    have cT3 : ∀ q : Cls (Bey wr), Calls Tryd.prog 24 #[.int .i64 c.frm] q.w fun e w' => e = .returned (.string T3) ∧ Below q.w.heap.size q.w w' := fun q => by rw [← hT3]; exact num_anyT c.frm hcw.out.2.2.1 q.w ((h5.n.tab hTH.out).later q.h)
                    have zc3 : ∀ q : Cls (Bey wr), q.w.cell? ⟨CB, 7, none⟩ = some (.int .i64 c.frm) := fun q => bey_cell (cell_ofG h5.c (chc_at hcw.out).2.2.2.1) q
                    obtain ⟨T4, hT4⟩ : ∃ T, spS c.val = T := ⟨_, rfl⟩
                    have hz4 : T4.size ≤ 22 := by rw [← hT4]; exact spS_size hcw.out.2.2.2.1
                    have cT4 : ∀ q : Cls (Bey wr), Calls Tryd.prog 23 #[.int .i64 c.val] q.w fun e w' => e = .returned (.string T4) ∧ Below q.w.heap.size q.w w' := fun q => by rw [← hT4]; exact wide_anyT c.val hcw.out.2.2.2.1 q.w ((h5.n.tab hTH.out).later q.h)
                    have zc4 : ∀ q : Cls (Bey wr), q.w.cell? ⟨CB, 8, none⟩ = some (.int .i64 c.val) := fun q => bey_cell (cell_ofG h5.c (chc_at hcw.out).2.2.2.2) q
                    have hS5 : Hid (Tx (S ++ T0 ++ T1 ++ T2 ++ T3 ++ T4) (L ++ c.buf ++ c.five)) := by (subst hT0 hT1 hT2 hT3 hT4; exact (((((hxF.out.put hcw.out.1).put (by unfold I64; omega)).put hcw.out.2.1).put hcw.out.2.2.1).put hcw.out.2.2.2.1).to (by simp [Chc.five, hbs, b01]))
                    have hnn := bey_some wr
                    clear hT0 hT1 hT2 hT3 hT4
                    refine wp_region_cls (Bey wr) (by kernel_rfl) (by kernel_rfl) (bey_drew wr) ?_
                    repeat (go_big_quiet_step (first | (go_at_call 24; first | exact calls_bey (cT0 _) | exact calls_bey (cT1 _) | exact calls_bey (cT2 _) | exact calls_bey (cT3 _)) | (go_at_call 23; first | exact calls_bey (cT4 _))))
                    refine wpQuiet_nil ?_
                    intro _ hw'
                    obtain ⟨sq, hw''⟩ := hw'
                    subst hw''
                    have hbq : Hid (DoC w sq.w s CB (objCh c)) := h5.later sq.h
                    clear cT0 cT1 cT2 cT3 cT4 zc0 zc2 zc3 zc4 hnn
                    generalize S ++ T0 ++ T1 ++ T2 ++ T3 ++ T4 = S5 at *
                    generalize sq.w = W1 at *
                    go_wp2_with fail
                    go_roundw
                    case rel => exact ⟨m + 1, S5, by omega, by go_num, rfl, hS5.out.to hNm.out, hbq.out.n⟩
                    case measure => simp [intOf]; omega
                  | true =>
                    go_upto_region 23 with fail
                    have h5 : DoC w wr s CB (objCh c) := hs.out
                    obtain ⟨T0, hT0⟩ : ∃ T, spS c.ln = T := ⟨_, rfl⟩
                    have hz0 : T0.size ≤ 22 := by rw [← hT0]; exact spS_size hcw.out.1
                    have cT0 : ∀ q : Cls (Bey wr), Calls Tryd.prog 24 #[.int .i64 c.ln] q.w fun e w' => e = .returned (.string T0) ∧ Below q.w.heap.size q.w w' := fun q => by rw [← hT0]; exact num_anyT c.ln hcw.out.1 q.w ((h5.n.tab hTH.out).later q.h)
                    have zc0 : ∀ q : Cls (Bey wr), q.w.cell? ⟨CB, 4, none⟩ = some (.int .i64 c.ln) := fun q => bey_cell (cell_ofG h5.c (chc_at hcw.out).1) q
                    obtain ⟨T1, hT1⟩ : ∃ T, spS 1 = T := ⟨_, rfl⟩
                    have hz1 : T1.size ≤ 22 := by rw [← hT1]; exact spS_size (by unfold I64; omega)
                    have cT1 : ∀ q : Cls (Bey wr), Calls Tryd.prog 24 #[.int .i64 1] q.w fun e w' => e = .returned (.string T1) ∧ Below q.w.heap.size q.w w' := fun q => by rw [← hT1]; exact num_anyT 1 (by unfold I64; omega) q.w ((h5.n.tab hTH.out).later q.h)
                    obtain ⟨T2, hT2⟩ : ∃ T, spS c.off = T := ⟨_, rfl⟩
                    have hz2 : T2.size ≤ 22 := by rw [← hT2]; exact spS_size hcw.out.2.1
                    have cT2 : ∀ q : Cls (Bey wr), Calls Tryd.prog 24 #[.int .i64 c.off] q.w fun e w' => e = .returned (.string T2) ∧ Below q.w.heap.size q.w w' := fun q => by rw [← hT2]; exact num_anyT c.off hcw.out.2.1 q.w ((h5.n.tab hTH.out).later q.h)
                    have zc2 : ∀ q : Cls (Bey wr), q.w.cell? ⟨CB, 6, none⟩ = some (.int .i64 c.off) := fun q => bey_cell (cell_ofG h5.c (chc_at hcw.out).2.2.1) q
                    obtain ⟨T3, hT3⟩ : ∃ T, spS c.frm = T := ⟨_, rfl⟩
                    have hz3 : T3.size ≤ 22 := by rw [← hT3]; exact spS_size hcw.out.2.2.1
                    have cT3 : ∀ q : Cls (Bey wr), Calls Tryd.prog 24 #[.int .i64 c.frm] q.w fun e w' => e = .returned (.string T3) ∧ Below q.w.heap.size q.w w' := fun q => by rw [← hT3]; exact num_anyT c.frm hcw.out.2.2.1 q.w ((h5.n.tab hTH.out).later q.h)
                    have zc3 : ∀ q : Cls (Bey wr), q.w.cell? ⟨CB, 7, none⟩ = some (.int .i64 c.frm) := fun q => bey_cell (cell_ofG h5.c (chc_at hcw.out).2.2.2.1) q
                    obtain ⟨T4, hT4⟩ : ∃ T, spS c.val = T := ⟨_, rfl⟩
                    have hz4 : T4.size ≤ 22 := by rw [← hT4]; exact spS_size hcw.out.2.2.2.1
                    have cT4 : ∀ q : Cls (Bey wr), Calls Tryd.prog 23 #[.int .i64 c.val] q.w fun e w' => e = .returned (.string T4) ∧ Below q.w.heap.size q.w w' := fun q => by rw [← hT4]; exact wide_anyT c.val hcw.out.2.2.2.1 q.w ((h5.n.tab hTH.out).later q.h)
                    have zc4 : ∀ q : Cls (Bey wr), q.w.cell? ⟨CB, 8, none⟩ = some (.int .i64 c.val) := fun q => bey_cell (cell_ofG h5.c (chc_at hcw.out).2.2.2.2) q
                    have hS5 : Hid (Tx (S ++ T0 ++ T1 ++ T2 ++ T3 ++ T4) (L ++ c.buf ++ c.five)) := by (subst hT0 hT1 hT2 hT3 hT4; exact (((((hxF.out.put hcw.out.1).put (by unfold I64; omega)).put hcw.out.2.1).put hcw.out.2.2.1).put hcw.out.2.2.2.1).to (by simp [Chc.five, hbs, b01]))
                    have hnn := bey_some wr
                    clear hT0 hT1 hT2 hT3 hT4
                    refine wp_region_cls (Bey wr) (by kernel_rfl) (by kernel_rfl) (bey_drew wr) ?_
                    repeat (go_big_quiet_step (first | (go_at_call 24; first | exact calls_bey (cT0 _) | exact calls_bey (cT1 _) | exact calls_bey (cT2 _) | exact calls_bey (cT3 _)) | (go_at_call 23; first | exact calls_bey (cT4 _))))
                    refine wpQuiet_nil ?_
                    intro _ hw'
                    obtain ⟨sq, hw''⟩ := hw'
                    subst hw''
                    have hbq : Hid (DoC w sq.w s CB (objCh c)) := h5.later sq.h
                    clear cT0 cT1 cT2 cT3 cT4 zc0 zc2 zc3 zc4 hnn
                    generalize S ++ T0 ++ T1 ++ T2 ++ T3 ++ T4 = S5 at *
                    generalize sq.w = W1 at *
                    go_wp2_with fail
                    go_roundw
                    case rel => exact ⟨m + 1, S5, by omega, by go_num, rfl, hS5.out.to hNm.out, hbq.out.n⟩
                    case measure => simp [intOf]; omega
            · have hme : m = 4 := by omega
              have hmI : ¬ (m : Int) < 4 := by omega
              have hx3 : Hid (Tx S (s.vars ++ s.own ++ (s.ch.map Chc.nums).flatten ++ ((s.gos.take 0).map Gr.nums).flatten)) := hx.out.to (by rw [hme, List.take_of_length_le (l := s.ch) (by rw [hw.out.lc]; omega)]; simp)
              have hrG : Hid (wr.rangeAt w.heap.size 48 GA) := rG.out wr hs.out.i
              clear hx hme hm
              go_wp2_with (first
                | ((with_reducible refine at_loadQ 36 _ rfl ?_); refine stopQ_out ?_; refine wpList_load_mid rfl 36 _ rfl w.heap.size 48 rfl GA _ hrG.out huG.out rfl iG.out ?_))
              clear hrG
              go_loopw [3, 77] (fun o u wr => ∃ (k : Nat) (S : ByteArray), k ≤ 6 ∧ u = .int .i64 (k : Int) ∧ o = .string S ∧ Hid (Tx S (s.vars ++ s.own ++ (s.ch.map Chc.nums).flatten ++ ((s.gos.take k).map Gr.nums).flatten)) ∧ Hid (DoS w wr s)) (fun _ u _ => 6 - (intOf u).toNat)
              case atStart => exact ⟨0, _, by omega, rfl, rfl, hx3, hs⟩
              case round =>
                clear hx3 hs
                obtain ⟨m, S, hm, rfl, rfl, hxF, hs⟩ := hrel
                by_cases hml : m < 6
                · have hmI : (m : Int) < 6 := by omega
                  obtain ⟨g, hg, hgm⟩ := get_lt s.gos m (by rw [hw.out.lg]; exact hml)
                  have hgw : Hid g.wf := hw.out.ag g hgm
                  have xk := xG.out m g hg
                  have hLl : (s.vars ++ s.own ++ (s.ch.map Chc.nums).flatten ++ ((s.gos.take m).map Gr.nums).flatten).length ≤ 120 := by rw [fg_len hw.out m hm]; omega
                  have hNm : Hid (s.vars ++ s.own ++ (s.ch.map Chc.nums).flatten ++ ((s.gos.take m).map Gr.nums).flatten ++ g.four ++ g.rg = s.vars ++ s.own ++ (s.ch.map Chc.nums).flatten ++ ((s.gos.take (m + 1)).map Gr.nums).flatten) := by (show _ = _; rw [fg_more hg])
                  obtain ⟨L, hL⟩ : ∃ L, Hid (s.vars ++ s.own ++ (s.ch.map Chc.nums).flatten ++ ((s.gos.take m).map Gr.nums).flatten = L) := ⟨_, rfl⟩
                  rw [hL.out] at hxF hLl hNm
                  have hrl : g.rg.length = 8 := hgw.out.2.2.2.2.1
                  have hzi : (wr.alloc (.cells ZG 35)).heap[wr.heap.size]? = some (.cells ZG 35) := heap_alloc_new wr _
                  have hi12 : Hid ((Tryd.prog.info? 35).map (·.size) = some g.cells.toArray.size) := infoG hrl
                  have hZs : Hid (ZG.size = g.cells.toArray.size) := by (show _ = _; rw [hZG, sizeG hrl])
                  have h3 : Hid (DoC w ((wr.alloc (.cells ZG 35)).setRow wr.heap.size g.cells.toArray) s wr.heap.size (objG g)) := ⟨hs.out.later ((boxed _ _).trans ⟨rfl, rfl, rfl, by rw [setRow_size]; exact Nat.le_refl _, fun q hq => setRow_other _ _ q _ (by omega)⟩), setRow_heap _ _ _ _ _ _ hzi⟩
                  clear hs hg hgm
                  go_upto_region 28 with (first
                    | ((with_reducible refine at_allocQ 35 rfl ?_); refine stopQ_out ?_; refine wpList_alloc_big rfl 35 rfl hzGH.out ?_)
                    | ((with_reducible refine at_storeQ 35 _ _ rfl ?_); refine stopQ_out ?_; refine wpList_store_row rfl 35 _ _ rfl wr.heap.size g.cells.toArray rfl rfl _ _ hzi hi12.out hZs.out (oneG g) ?_))
                  clear xk hzi hi12 hZs
                  generalize (wr.alloc (.cells ZG 35)).setRow wr.heap.size g.cells.toArray = W0 at *
                  generalize wr.heap.size = CB at *
                  try simp only [Act.put, List.getElem_toArray, List.getElem_cons_succ, List.getElem_cons_zero, List.setIfInBounds_toArray, List.set_cons_zero, List.set_cons_succ]
                  have hz5 : S.size ≤ 2640 := by (have h1 := hxF.out.z; omega)
                  have h5 : DoC w W0 s CB (objG g) := h3.out
                  obtain ⟨T0, hT0⟩ : ∃ T, spS g.st = T := ⟨_, rfl⟩
                  have hz0 : T0.size ≤ 22 := by rw [← hT0]; exact spS_size hgw.out.1
                  have cT0 : ∀ q : Cls (Bey W0), Calls Tryd.prog 24 #[.int .i64 g.st] q.w fun e w' => e = .returned (.string T0) ∧ Below q.w.heap.size q.w w' := fun q => by rw [← hT0]; exact num_anyT g.st hgw.out.1 q.w ((h5.n.tab hTH.out).later q.h)
                  have zc0 : ∀ q : Cls (Bey W0), q.w.cell? ⟨CB, 0, none⟩ = some (.int .i64 g.st) := fun q => bey_cell (cell_ofG h5.c rfl) q
                  obtain ⟨T1, hT1⟩ : ∃ T, spS g.fn = T := ⟨_, rfl⟩
                  have hz1 : T1.size ≤ 22 := by rw [← hT1]; exact spS_size hgw.out.2.1
                  have cT1 : ∀ q : Cls (Bey W0), Calls Tryd.prog 24 #[.int .i64 g.fn] q.w fun e w' => e = .returned (.string T1) ∧ Below q.w.heap.size q.w w' := fun q => by rw [← hT1]; exact num_anyT g.fn hgw.out.2.1 q.w ((h5.n.tab hTH.out).later q.h)
                  have zc1 : ∀ q : Cls (Bey W0), q.w.cell? ⟨CB, 1, none⟩ = some (.int .i64 g.fn) := fun q => bey_cell (cell_ofG h5.c rfl) q
                  obtain ⟨T2, hT2⟩ : ∃ T, spS g.pc = T := ⟨_, rfl⟩
                  have hz2 : T2.size ≤ 22 := by rw [← hT2]; exact spS_size hgw.out.2.2.1
                  have cT2 : ∀ q : Cls (Bey W0), Calls Tryd.prog 24 #[.int .i64 g.pc] q.w fun e w' => e = .returned (.string T2) ∧ Below q.w.heap.size q.w w' := fun q => by rw [← hT2]; exact num_anyT g.pc hgw.out.2.2.1 q.w ((h5.n.tab hTH.out).later q.h)
                  have zc2 : ∀ q : Cls (Bey W0), q.w.cell? ⟨CB, 2, none⟩ = some (.int .i64 g.pc) := fun q => bey_cell (cell_ofG h5.c rfl) q
                  obtain ⟨T3, hT3⟩ : ∃ T, spS g.why = T := ⟨_, rfl⟩
                  have hz3 : T3.size ≤ 22 := by rw [← hT3]; exact spS_size hgw.out.2.2.2.1
                  have cT3 : ∀ q : Cls (Bey W0), Calls Tryd.prog 24 #[.int .i64 g.why] q.w fun e w' => e = .returned (.string T3) ∧ Below q.w.heap.size q.w w' := fun q => by rw [← hT3]; exact num_anyT g.why hgw.out.2.2.2.1 q.w ((h5.n.tab hTH.out).later q.h)
                  have zc3 : ∀ q : Cls (Bey W0), q.w.cell? ⟨CB, 3, none⟩ = some (.int .i64 g.why) := fun q => bey_cell (cell_ofG h5.c rfl) q
                  have hS5 : Hid (Tx (S ++ T0 ++ T1 ++ T2 ++ T3) (L ++ g.four)) := by (subst hT0 hT1 hT2 hT3; exact ((((hxF.out.put hgw.out.1).put hgw.out.2.1).put hgw.out.2.2.1).put hgw.out.2.2.2.1).to (by simp [Gr.four]))
                  have hnn := bey_some W0
                  clear hT0 hT1 hT2 hT3
                  refine wp_region_cls (Bey W0) (by kernel_rfl) (by kernel_rfl) (bey_drew W0) ?_
                  repeat (go_big_quiet_step (first | (go_at_call 24; first | exact calls_bey (cT0 _) | exact calls_bey (cT1 _) | exact calls_bey (cT2 _) | exact calls_bey (cT3 _))))
                  refine wpQuiet_nil ?_
                  intro _ hw'
                  obtain ⟨sq, hw''⟩ := hw'
                  subst hw''
                  have hbq : Hid (DoC w sq.w s CB (objG g)) := h5.later sq.h
                  clear cT0 cT1 cT2 cT3 zc0 zc1 zc2 zc3 hnn
                  generalize S ++ T0 ++ T1 ++ T2 ++ T3 = S5 at *
                  generalize sq.w = W1 at *
                  obtain ⟨BA, hBA⟩ : ∃ BA, Hid (ints g.rg = BA) := ⟨_, rfl⟩
                  have rB : Hid (W1.rangeAt CB 4 BA) := by (rw [← hBA.out]; exact range_of hbq.out.c (a := [.int .i64 g.st, .int .i64 g.fn, .int .i64 g.pc, .int .i64 g.why]) (c := []) (by simp [Gr.cells]) rfl)
                  have iB : Hid ((Tryd.prog.info? 28).map (·.size) = some BA.length) := by (show _ = _; rw [← hBA.out, List.length_map, hrl]; kernel_rfl)
                  have xB : Hid (∀ (k : Nat) (x : Int), g.rg[k]? = some x → ∀ wx, (Instr.index 28 (.agg BA.toArray) (.int .i64 (k : Int))).run Tryd.prog wx = .ok (.int .i64 x) wx) := fun k x hk => by
                    rw [← hBA.out]
                    exact ix_ints Tryd.underlying28 (fun wx => Tryd.sizeOf2 wx) Tryd.underlying2 hrl hk
                  obtain ⟨L5, hL5⟩ : ∃ L5, Hid (L ++ g.four = L5) := ⟨_, rfl⟩
                  have hL5l : L5.length ≤ 124 := by (rw [← hL5.out, List.length_append]; show _ + 4 ≤ _; omega)
                  rw [hL5.out] at hS5 hNm
                  clear h5 h3 hxF hz5
                  go_wp2_with (first
                    | ((with_reducible refine at_loadQ 28 _ rfl ?_); refine stopQ_out ?_; refine wpList_load_mid rfl 28 _ rfl CB 4 rfl BA _ rB.out huV.out rfl iB.out ?_))
                  clear rB
                  go_loopw [3, 99] (fun o u wr => ∃ (k : Nat) (S : ByteArray), k ≤ 8 ∧ u = .int .i64 (k : Int) ∧ o = .string S ∧ Hid (Tx S (L5 ++ g.rg.take k)) ∧ Hid (DoC w wr s CB (objG g))) (fun _ u _ => 8 - (intOf u).toNat)
                  case atStart => exact ⟨0, _, by omega, rfl, rfl, (by simpa using hS5), hbq⟩
                  case round =>
                    clear hS5 hbq
                    obtain ⟨k, S, hk, rfl, rfl, hx, hs⟩ := hrel
                    by_cases hlt : k < 8
                    · have hkI : (k : Int) < 8 := by omega
                      obtain ⟨x, hxk, hxm⟩ := get_lt g.rg k (by rw [hrl]; exact hlt)
                      have xk := xB.out k x hxk
                      have hxI : I64 x := hgw.out.2.2.2.2.2 x hxm
                      have hz : S.size ≤ 3000 := by (have h1 := hx.out.z; have h2 := tl_b (p := L5) (l := g.rg) (b := 133) (by rw [hrl]; omega) k (by omega); omega)
                      have cT := wide_anyT x hxI wr (hs.out.n.tab hTH.out)
                      have hN : Hid (Tx (S ++ spS x) (L5 ++ g.rg.take (k + 1))) := (hx.out.put hxI).to (by rw [take_oneT hxk, List.append_assoc])
                      have hzS := spS_size hxI
                      clear hx hxk hxm hxI
                      generalize spS x = T at *
                      go_wp2_with (first
                        | (go_at_call 23; (with_reducible refine cT.mono ?_); rintro e w4 ⟨rfl, hb4⟩; (have h4 : Hid _ := hs.out.later hb4); clear hb4 cT hs xk))
                      go_roundw
                      case rel => exact ⟨k + 1, S ++ T, by omega, by go_num, rfl, hN, h4⟩
                      case measure => simp [intOf]; omega
                    · have hke : k = 8 := by omega
                      have hkI : ¬ (k : Int) < 8 := by omega
                      have hxF : Hid (Tx S (L5 ++ g.rg)) := hx.out.to (by rw [hke, List.take_of_length_le (by rw [hrl]; omega)])
                      clear hx hke hk
                      go_wp2_with fail
                      go_roundw
                      case rel => exact ⟨m + 1, S, by omega, by go_num, rfl, hxF.out.to hNm.out, hs.out.n⟩
                      case measure => simp [intOf]; omega
                · have hme : m = 6 := by omega
                  have hmI : ¬ (m : Int) < 6 := by omega
                  have hz6 : S.size ≤ 2800 := by (have h1 := hxF.out.z; rw [fg_len hw.out m hm] at h1; omega)
                  have cT := num_anyT s.cnt hw.out.cn wr (hs.out.tab hTH.out)
                  have kc := hs.out.i.cnt hw.out
                  have hF : Hid (Tx (S ++ spS s.cnt) s.nums) := (hxF.out.put hw.out.cn).to (by rw [hme, List.take_of_length_le (l := s.gos) (by rw [hw.out.lg]; omega)]; rfl)
                  have hzS := spS_size hw.out.cn
                  have hpos : 1 ≤ (S ++ spS s.cnt).size := by (rw [ByteArray.size_append]; have : 1 ≤ (spS s.cnt).size := (by rw [Lib.size_eq, spS_list]; simp); omega)
                  have xS := cut_str (S ++ spS s.cnt) hpos
                  have hE : Hid ((⟨((S ++ spS s.cnt).data.toList.drop 1).toArray⟩ : ByteArray) = ⟨(txB s.nums).toArray⟩) := by (show _ = _; rw [hF.out.e]; rfl)
                  rw [hE.out] at xS
                  clear hxF hpos hF hE
                  generalize spS s.cnt = T at *
                  go_wp2_with (first
                    | (go_at_call 24; (with_reducible refine cT.mono ?_); rintro e w4 ⟨rfl, hb4⟩; (have h4 : Hid (Below w.heap.size w w4) := bthen hs.out.b hb4); clear hb4 cT kc))
                  go_ret
                  exact ⟨rfl, h4.out⟩
end Go.Proofs.YtgmpdnmheiblpaaDoor.pg
/- A state that came in, opened; the argument that is a program, a state, a goroutine and fuel. -/
namespace Go.Proofs.YtgmpdnmheiblpaaDoor.pg
open Go.ChangeShapes Go.WideShapes Go.ChangeAt Go.RowKit
set_option linter.unusedVariables false
set_option linter.unusedSimpArgs false
set_option maxRecDepth 100000
section
variable {H : Type} {enc : TypeId × Value → H} {w : World} {base : Nat} {spare : Nat → Bool} {held : Bool}
/-- A part of a struct. -/
theorem part_of {t : TypeId} {fs : Array Field} {fuel : Nat} {cs : List Value} {x : DataW H × List MemPlace} (ht : Tryd.prog.underlying t = some (.struct fs)) (h : DataW.trod enc Tryd.prog w base spare held fuel t cs = some x)
    (i : Nat) (f : Field) (hi : fs[i]? = some f) (o k : Nat) (ho : f.offset = o) (hc : Tryd.prog.cellsOf f.type = k) : ∃ y n, DataW.trod enc Tryd.prog w base spare held n f.type ((cs.drop o).take k) = some y := by
  obtain ⟨xs, n, _, _, _, hlen, hf⟩ := DataW.trod_struct ht h
  have h1 := hf i f hi
  have hlt : i < xs.length := by rw [hlen]; exact (Array.getElem?_eq_some_iff.mp hi).1
  rw [ho, hc, List.getElem?_eq_getElem hlt] at h1
  exact ⟨_, n, h1⟩
/-- A list cut into parts of one length. -/
theorem cut_parts {α : Type} (C : α → List Value) (Q : α → Prop) (k : Nat) : ∀ (n : Nat) (cs : List Value), cs.length = n * k → (∀ i, i < n → ∃ x, (cs.drop (i * k)).take k = C x ∧ Q x) → ∃ l : List α, l.length = n ∧ cs = (l.map C).flatten ∧ ∀ x ∈ l, Q x
  | 0, cs, hl, _ => ⟨[], rfl, by have : cs = [] := List.length_eq_zero_iff.mp (by omega); rw [this]; rfl, by simp⟩
  | n + 1, cs, hl, h => by
    obtain ⟨x, hx, hq⟩ := h 0 (by omega)
    rw [Nat.zero_mul, List.drop_zero] at hx
    obtain ⟨l, h1, h2, h3⟩ := cut_parts C Q k n (cs.drop k) (by rw [List.length_drop, hl, Nat.add_mul]; omega) fun i hi => by
      obtain ⟨y, hy, hqy⟩ := h (i + 1) (by omega)
      refine ⟨y, ?_, hqy⟩
      rw [List.drop_drop, ← hy]
      congr 2
      rw [Nat.add_mul]; omega
    refine ⟨x :: l, by rw [List.length_cons, h1], ?_, fun y hy => ?_⟩
    · rw [List.map_cons, List.flatten_cons, ← h2, ← hx, List.take_append_drop]
    · rcases List.mem_cons.mp hy with rfl | hy
      · exact hq
      · exact h3 y hy
theorem array_in {α : Type} (C : α → List Value) (Q : α → Prop) {t e : TypeId} {n k fuel : Nat} {cs : List Value} {x : DataW H × List MemPlace} (ht : Tryd.prog.underlying t = some (.array n e)) (hce : Tryd.prog.cellsOf e = k) (hct : Tryd.prog.cellsOf t = n * k)
    (hel : ∀ m ds y, ds.length = k → DataW.trod enc Tryd.prog w base spare held m e ds = some y → ∃ z, ds = C z ∧ Q z)
    (h : DataW.trod enc Tryd.prog w base spare held fuel t cs = some x) : ∃ l : List α, l.length = n ∧ cs = (l.map C).flatten ∧ ∀ x ∈ l, Q x := by
  obtain ⟨xs, m, _, _, hl, hlen, hf⟩ := DataW.trod_array ht h
  rw [hct] at hl
  refine cut_parts C Q k n cs hl fun i hi => ?_
  have h1 := hf i hi
  rw [hce, List.getElem?_eq_getElem (by omega)] at h1
  refine hel m _ _ ?_ h1
  rw [List.length_take, List.length_drop, hl]
  have : (i + 1) * k ≤ n * k := Nat.mul_le_mul_right k hi
  rw [Nat.add_mul] at this
  omega
theorem ints_in {t e : TypeId} {n fuel : Nat} {cs : List Value} {x : DataW H × List MemPlace} (ht : Tryd.prog.underlying t = some (.array n e)) (he : Tryd.prog.underlying e = some (.int .i64)) (hce : Tryd.prog.cellsOf e = 1) (hct : Tryd.prog.cellsOf t = n)
    (h : DataW.trod enc Tryd.prog w base spare held fuel t cs = some x) : ∃ l : List Int, l.length = n ∧ cs = ints l ∧ AllI l := by
  obtain ⟨l, h1, h2, h3⟩ := array_in (fun z : Int => [Value.int .i64 z]) I64 ht hce (by rw [hct, Nat.mul_one]) (fun m ds y hl hd => by
    obtain ⟨v, rfl⟩ := List.length_eq_one_iff.mp hl
    obtain ⟨z, rfl, hz⟩ := int_in he hd
    exact ⟨z, rfl, hz⟩) h
  refine ⟨l, h1, ?_, h3⟩
  rw [h2]
  clear h1 h2 h3 h
  induction l with
  | nil => rfl
  | cons a l ih => rw [List.map_cons, List.flatten_cons, ih]; rfl
theorem one_at {cs : List Value} {o : Nat} (h : o < cs.length) : (cs.drop o).take 1 = [cs[o]] := by
  rw [List.drop_eq_getElem_cons h]; rfl
theorem go_in {n : Nat} {cs : List Value} {y : DataW H × List MemPlace} (hl : cs.length = 12) (h : DataW.trod enc Tryd.prog w base spare held n 35 cs = some y) : ∃ x : Gr, cs = x.cells ∧ x.wf := by
  obtain ⟨_, _, t0⟩ := part_of Tryd.underlying35 h 0 _ rfl 0 1 rfl (by kernel_rfl)
  obtain ⟨_, _, t1⟩ := part_of Tryd.underlying35 h 1 _ rfl 1 1 rfl (by kernel_rfl)
  obtain ⟨_, _, t2⟩ := part_of Tryd.underlying35 h 2 _ rfl 2 1 rfl (by kernel_rfl)
  obtain ⟨_, _, t3⟩ := part_of Tryd.underlying35 h 3 _ rfl 3 1 rfl (by kernel_rfl)
  obtain ⟨_, _, t4⟩ := part_of Tryd.underlying35 h 4 _ rfl 4 8 rfl (by kernel_rfl)
  rw [one_at (by omega)] at t0 t1 t2 t3
  obtain ⟨z0, e0, b0⟩ := int_in Tryd.underlying3 t0
  obtain ⟨z1, e1, b1⟩ := int_in Tryd.underlying3 t1
  obtain ⟨z2, e2, b2⟩ := int_in Tryd.underlying3 t2
  obtain ⟨z3, e3, b3⟩ := int_in Tryd.underlying3 t3
  obtain ⟨l, l1, l2, l3⟩ := ints_in Tryd.underlying28 Tryd.underlying2 (by kernel_rfl) (by kernel_rfl) t4
  refine ⟨⟨z0, z1, z2, z3, l⟩, ?_, b0, b1, b2, b3, l1, l3⟩
  show cs = [.int .i64 z0, .int .i64 z1, .int .i64 z2, .int .i64 z3] ++ ints l
  rw [← l2, ← e0, ← e1, ← e2, ← e3, List.take_of_length_le (by rw [List.length_drop]; omega)]
  have d0 := List.drop_eq_getElem_cons (l := cs) (i := 0) (by omega)
  have d1 := List.drop_eq_getElem_cons (l := cs) (i := 1) (by omega)
  have d2 := List.drop_eq_getElem_cons (l := cs) (i := 2) (by omega)
  have d3 := List.drop_eq_getElem_cons (l := cs) (i := 3) (by omega)
  rw [List.drop_zero] at d0
  exact d0.trans (by rw [d1, d2, d3]; rfl)
theorem ch_in {n : Nat} {cs : List Value} {y : DataW H × List MemPlace} (hl : cs.length = 9) (h : DataW.trod enc Tryd.prog w base spare held n 32 cs = some y) : ∃ x : Chc, cs = x.cells ∧ x.wf := by
  obtain ⟨_, _, t0⟩ := part_of Tryd.underlying32 h 0 _ rfl 0 4 rfl (by kernel_rfl)
  obtain ⟨_, _, t1⟩ := part_of Tryd.underlying32 h 1 _ rfl 4 1 rfl (by kernel_rfl)
  obtain ⟨_, _, t2⟩ := part_of Tryd.underlying32 h 2 _ rfl 5 1 rfl (by kernel_rfl)
  obtain ⟨_, _, t3⟩ := part_of Tryd.underlying32 h 3 _ rfl 6 1 rfl (by kernel_rfl)
  obtain ⟨_, _, t4⟩ := part_of Tryd.underlying32 h 4 _ rfl 7 1 rfl (by kernel_rfl)
  obtain ⟨_, _, t5⟩ := part_of Tryd.underlying32 h 5 _ rfl 8 1 rfl (by kernel_rfl)
  rw [one_at (by omega)] at t1 t2 t3 t4 t5
  obtain ⟨l, l1, l2, l3⟩ := ints_in Tryd.underlying30 Tryd.underlying2 (by kernel_rfl) (by kernel_rfl) t0
  obtain ⟨z1, e1, b1⟩ := int_in Tryd.underlying3 t1
  obtain ⟨z2, e2⟩ := bool_in Tryd.underlying4 t2
  obtain ⟨z3, e3, b3⟩ := int_in Tryd.underlying3 t3
  obtain ⟨z4, e4, b4⟩ := int_in Tryd.underlying3 t4
  obtain ⟨z5, e5, b5⟩ := int_in Tryd.underlying2 t5
  refine ⟨⟨l, z1, z2, z3, z4, z5⟩, ?_, b1, b3, b4, b5, l1, l3⟩
  show cs = ints l ++ [.int .i64 z1, .bool z2, .int .i64 z3, .int .i64 z4, .int .i64 z5]
  rw [← l2, ← e1, ← e2, ← e3, ← e4, ← e5, List.drop_zero]
  have d4 := List.drop_eq_getElem_cons (l := cs) (i := 4) (by omega)
  have d5 := List.drop_eq_getElem_cons (l := cs) (i := 5) (by omega)
  have d6 := List.drop_eq_getElem_cons (l := cs) (i := 6) (by omega)
  have d7 := List.drop_eq_getElem_cons (l := cs) (i := 7) (by omega)
  have d8 := List.drop_eq_getElem_cons (l := cs) (i := 8) (by omega)
  have d9 : cs.drop 9 = [] := List.drop_eq_nil_of_le (by omega)
  refine (List.take_append_drop 4 cs).symm.trans ?_
  rw [d4, d5, d6, d7, d8, d9]
theorem st_in {n : Nat} {cs : List Value} {y : DataW H × List MemPlace} (hl : cs.length = 121) (h : DataW.trod enc Tryd.prog w base spare held n 38 cs = some y) : ∃ x : Sts, cs = x.cells ∧ x.wf := by
  obtain ⟨_, _, t0⟩ := part_of Tryd.underlying38 h 0 _ rfl 0 8 rfl (by kernel_rfl)
  obtain ⟨_, _, t1⟩ := part_of Tryd.underlying38 h 1 _ rfl 8 4 rfl (by kernel_rfl)
  obtain ⟨_, _, t2⟩ := part_of Tryd.underlying38 h 2 _ rfl 12 36 rfl (by kernel_rfl)
  obtain ⟨_, _, t3⟩ := part_of Tryd.underlying38 h 3 _ rfl 48 72 rfl (by kernel_rfl)
  obtain ⟨_, _, t4⟩ := part_of Tryd.underlying38 h 4 _ rfl 120 1 rfl (by kernel_rfl)
  rw [one_at (by omega)] at t4
  obtain ⟨l0, a0, c0, w0⟩ := ints_in Tryd.underlying28 Tryd.underlying2 (by kernel_rfl) (by kernel_rfl) t0
  obtain ⟨l1, a1, c1, w1⟩ := ints_in Tryd.underlying29 Tryd.underlying3 (by kernel_rfl) (by kernel_rfl) t1
  obtain ⟨l2, a2, c2, w2⟩ := array_in Chc.cells Chc.wf Tryd.underlying33 (k := 9) (by kernel_rfl) (by kernel_rfl) (fun m ds y q1 q2 => ch_in q1 q2) t2
  obtain ⟨l3, a3, c3, w3⟩ := array_in Gr.cells Gr.wf Tryd.underlying36 (k := 12) (by kernel_rfl) (by kernel_rfl) (fun m ds y q1 q2 => go_in q1 q2) t3
  obtain ⟨z4, e4, b4⟩ := int_in Tryd.underlying3 t4
  refine ⟨⟨l0, l1, l2, l3, z4⟩, ?_, a0, a1, a2, a3, w0, w1, w2, w3, b4⟩
  show cs = ints l0 ++ (ints l1 ++ ((l2.map Chc.cells).flatten ++ ((l3.map Gr.cells).flatten ++ [.int .i64 z4])))
  rw [← c0, ← c1, ← c2, ← c3, ← e4, List.drop_zero]
  have d120 : cs.drop 120 = [cs[120]] := by rw [List.drop_eq_getElem_cons (l := cs) (i := 120) (by omega), List.drop_eq_nil_of_le (by omega)]
  have s1 : ∀ a k, cs.drop a = (cs.drop a).take k ++ cs.drop (a + k) := fun a k => by rw [← List.drop_drop]; exact (List.take_append_drop k _).symm
  have q0 := s1 0 8
  rw [List.drop_zero] at q0
  refine q0.trans ?_
  congr 1
  refine (s1 8 4).trans ?_
  congr 1
  refine (s1 12 36).trans ?_
  congr 1
  refine (s1 48 72).trans ?_
  congr 1
end
end Go.Proofs.YtgmpdnmheiblpaaDoor.pg
