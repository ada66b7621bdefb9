/- The writer of package code: all functions. -/
import Derived.Test.YtonkcnaijcpfdaaGreatDoorM13
import Derived.Lib.AppendStr
import Derived.Test.YtonkcnaijcpfdaaGreatDoorM10
import Derived.Handy
namespace Go.Proofs.YtonkcnaijcpfdaaGreatDoor.pg
open Go.ChangeShapes Go.WideShapes Go.ChangeAt Go.RowKit
set_option linter.unusedVariables false
set_option linter.unusedSimpArgs false
set_option maxRecDepth 100000
/-- The spans of a list of functions. -/
def spF (out : List Nat) (l : List MFn) : Nat → List Spn
  | 0 => []
  | j + 1 => spF out l j ++ (match l[j]? with | some f => fnSp j (out ++ (l.take j).flatMap fnB) f | none => [])
theorem spF_len (out : List Nat) (l : List MFn) (h : ∀ f ∈ l, f.code.length ≤ 1000) (j : Nat) : (spF out l j).length ≤ 1000 * j := by
  induction j with
  | zero => simp [spF]
  | succ j ih =>
    unfold spF
    split
    · rename_i f hf
      have h1 := spTo_len j (out ++ (l.take j).flatMap fnB ++ fnHead f ++ putB f.code.length) f.code f.code.length
      have h2 := h f (List.mem_of_getElem? hf)
      rw [List.length_append]
      unfold fnSp
      omega
    · rw [List.append_nil]; omega
section
variable {w : World} {lo g : Nat} {out : List Nat} {sp : List Spn}
set_option maxHeartbeats 4000000 in
theorem each_Func (h : WS w lo g out [] 0 0) (hF : ∀ wx, Below lo w wx → prog.Forms wx) (l : List MFn) (a : Option Addr) (cap : Nat) (hr : ∀ wx, Below lo w wx → Rows wx 4 a cap (l.map MFn.cells)) (hlf : ∀ f ∈ l, ∀ wx, Below lo w wx → f.lies wx) (hw : ∀ x ∈ l, fnOk x) (hn : out.length + ((putB l.length).length + (l.flatMap fnB).length) ≤ 1000000000) (hl5 : l.length ≤ 50) :
    Calls Tryz.prog 54 #[.pointer (some ⟨g, 0, none⟩), .slice a l.length cap, .func (.func 55) #[.pointer (some ⟨g, 0, none⟩)] #[]] w fun e w' => e = .returned (.tuple #[]) ∧ WS w' lo g (out ++ (putB l.length ++ l.flatMap fnB)) (spF (out ++ putB l.length) l l.length) l.length 0 ∧ Below lo w w' ∧ OthS w w' := by
  obtain ⟨s1, hW, hS⟩ := h
  have hlI : (l.length : Int) ≤ 9223372036854775807 := by omega
  have hl := hW.1
  have hcl : ∀ f ∈ l, f.code.length ≤ 1000 := fun f hf => (hw f hf).2.2.1
  have c1 : Calls Tryz.prog 52 #[.pointer (some ⟨g, 0, none⟩), .int .i64 (l.length : Int)] w _ := number_w hW l.length hlI (by omega)
  go_enter Tryz.func54, Tryz.ntmps54
  go_wp2_with (go_at_call 52; (with_reducible refine c1.mono ?_); rintro e w1 ⟨rfl, h1, hb1, ho1⟩)
  go_loopw [14] (fun u wr => ∃ j : Nat, j ≤ l.length ∧ u = .int .i64 j ∧ WS wr lo g (out ++ putB l.length ++ (l.take j).flatMap fnB) (spF (out ++ putB l.length) l j) j 0 ∧ Below lo w wr ∧ OthS w wr) (fun u _ => l.length - (intOf u).toNat)
  case atStart => exact ⟨0, Nat.zero_le _, rfl, ⟨s1, by simpa using h1, by simpa [spF] using hS.keep ho1⟩, hb1, ho1.s⟩
  case round =>
    clear h1 hb1 ho1 c1
    obtain ⟨j, hj, rfl, h1, hb1, ho1⟩ := hrel
    by_cases hlt : j < l.length
    · obtain ⟨x, hx, hxm⟩ := get_lt l j hlt
      obtain ⟨bb, o, hix, hbl, c0, c1, c2, c3⟩ := fn_ix (hr wr hb1) j x hx
      have hjI : (j : Int) < l.length := by omega
      have hfl := take_flat fnB l (j + 1)
      rw [take_flat_one fnB l j x hx, List.length_append] at hfl
      have hFl : Hid ((l.take (j + 1)).flatMap fnB = (l.take j).flatMap fnB ++ fnB x) := take_flat_one fnB l j x hx
      have hSpn : Hid (spF (out ++ putB l.length) l (j + 1) = spF (out ++ putB l.length) l j ++ fnSp j (out ++ putB l.length ++ (l.take j).flatMap fnB) x) := by
        show spF (out ++ putB l.length) l (j + 1) = _
        conv => lhs; unfold spF
        rw [hx]
      have hsl := spF_len (out ++ putB l.length) l hcl j
      have hbb := boxed wr (objF x)
      have hlo : lo ≤ wr.heap.size := by obtain ⟨_, q, _⟩ := h1; exact q.1
      have hB1 : Below lo w (wr.alloc (objF x)) := hb1.trans (hbb.mono hlo)
      have cc : Calls Tryz.prog 55 #[.pointer (some ⟨g, 0, none⟩), x.val] (wr.alloc (objF x)) _ := function_w (h1.later hbb) (fun wx hx => hF wx (hB1.trans hx)) x (fun wx hx => hlf x hxm wx (hB1.trans hx)) (hw x hxm) (by simp only [List.length_append] at *; omega) (by omega) (by omega)
      clear hfl h1 hsl
      go_wp2_with (go_at_call 55; (with_reducible refine cc.mono ?_); rintro e w2 ⟨rfl, h2, hb2, ho2⟩)
      go_roundw
      case rel => exact ⟨j + 1, by omega, by go_num, by rw [hFl.out, hSpn.out, ← List.append_assoc]; exact h2, hB1.trans hb2, (ho1.trans (Oth.of hbb).s).trans ho2⟩
      case measure => simp [intOf]; omega
    · have hj2 : j = l.length := by omega
      subst hj2
      rw [List.take_length] at h1
      go_wp2
      go_end0
      exact ⟨rfl, by rw [← List.append_assoc]; exact h1, hb1, ho1⟩
end
end Go.Proofs.YtonkcnaijcpfdaaGreatDoor.pg
/- The writer of package code: a program. -/
namespace Go.Proofs.YtonkcnaijcpfdaaGreatDoor.pg
open Go.ChangeShapes Go.WideShapes Go.ChangeAt Go.RowKit
set_option linter.unusedVariables false
set_option linter.unusedSimpArgs false
set_option maxRecDepth 100000
abbrev magicB : List Nat := [83, 67, 82, 66, 1]
/-- A program's bytes, ahead of the functions; all but the sum. -/
def encH (M : MPr) : List Nat := magicB ++ (putB M.vars.length ++ M.vars.flatMap varB) ++ putB M.locks.toNat ++ (putB M.chans.length ++ M.chans.flatMap chB)
def encB (M : MPr) : List Nat := encH M ++ (putB M.fns.length ++ M.fns.flatMap fnB)
def encSp (M : MPr) : List Spn := spF (encH M ++ putB M.fns.length) M.fns M.fns.length
theorem enc_len {M : MPr} (hn : (encB M).length ≤ 1000000000) : (encH M).length + ((putB M.fns.length).length + (M.fns.flatMap fnB).length) ≤ 1000000000 := by
  have : (encB M).length = (encH M).length + ((putB M.fns.length).length + (M.fns.flatMap fnB).length) := by simp only [encB, List.length_append]
  omega
abbrev prOk (M : MPr) : Prop := (∀ x ∈ M.vars, I64 x.init) ∧ (0 ≤ M.locks ∧ M.locks ≤ 1000) ∧ (∀ x ∈ M.chans, 0 ≤ x ∧ x ≤ 1000) ∧ M.fns.length ≤ 50 ∧ ∀ f ∈ M.fns, fnOk f
section
variable {w : World} {lo g : Nat}
set_option maxHeartbeats 4000000 in
theorem program_w (h : WS w lo g [] [] 0 0) (M : MPr) (hF : ∀ wx, Below lo w wx → prog.Forms wx) (hl : ∀ wx, Below lo w wx → M.lies wx) (hok : prOk M) (hn : (encB M).length ≤ 1000000000) :
    Calls Tryz.prog 31 #[.pointer (some ⟨g, 0, none⟩), M.val] w fun e w' => e = .returned (.tuple #[]) ∧ WS w' lo g (encB M) (encSp M) M.fns.length 0 ∧ Below lo w w' := by
  obtain ⟨s1, ⟨hlo, oa, oc, st⟩, hS⟩ := h
  obtain ⟨ok1, ok2, ok3, ok4, ok5⟩ := hok
  have hb := boxed w (objP M)
  have hbx : (w.alloc (objP M)).heap[w.heap.size]? = some (objP M) := heap_alloc_new _ _
  have hlw : Below lo w (w.alloc (objP M)) := hb.mono hlo
  have hlen : (encB M).length = 5 + ((putB M.vars.length).length + (M.vars.flatMap varB).length) + (putB M.locks.toNat).length + ((putB M.chans.length).length + (M.chans.flatMap chB).length) + ((putB M.fns.length).length + (M.fns.flatMap fnB).length) := by simp only [encB, encH, List.length_append]; rfl
  obtain ⟨i5, hi5, hz5, hs5, hb5⟩ := info_of infoB
  have hown : Hid ((w.alloc (objP M)).ownsRow lo 5 1 (.slice oa 0 oc) 0 []) := by
    have := own_keep st.ow fun b hbb => hb.block b (blk_lt st.ow b hbb).2
    exact this
  have z0 := whole_cell ((hb.block g (Array.getElem?_eq_some_iff.mp st.bx).1).trans st.bx) 0 _ rfl
  have zg : g < (w.alloc (objP M)).heap.size := Nat.lt_of_lt_of_le (Array.getElem?_eq_some_iff.mp st.bx).1 hb.size
  have hbsH : Hid (lo ≤ (w.alloc (objP M)).heap.size) := Nat.le_trans hlo hb.size
  have hstH : Hid (WSt w lo g oa oc [] s1 (.int .i64 0) (.int .i64 0)) := st
  have c1 : ∀ w1, Below lo w w1 → WOut w1 lo g magicB s1 (.int .i64 0) (.int .i64 0) → Calls Tryz.prog 50 #[.pointer (some ⟨g, 0, none⟩), .slice M.va M.vars.length M.vcap, .func (.func 51) #[.pointer (some ⟨g, 0, none⟩)] #[]] w1 _ := fun w1 hb1 h1 => each_Var h1 M.vars M.va M.vcap (fun wx hx => (hl wx (hb1.trans hx)).1) ok1 (by show 5 + _ ≤ _; omega)
  have c2 : ∀ w1, WOut w1 lo g (magicB ++ (putB M.vars.length ++ M.vars.flatMap varB)) s1 (.int .i64 0) (.int .i64 0) → Calls Tryz.prog 52 #[.pointer (some ⟨g, 0, none⟩), .int .i64 M.locks] w1 _ := fun w1 h1 => number_i h1 M.locks ok2.1 (by omega) (by rw [List.length_append, List.length_append]; show 5 + _ + _ ≤ _; omega)
  have c3 : ∀ w1, Below lo w w1 → WOut w1 lo g (magicB ++ (putB M.vars.length ++ M.vars.flatMap varB) ++ putB M.locks.toNat) s1 (.int .i64 0) (.int .i64 0) → Calls Tryz.prog 53 #[.pointer (some ⟨g, 0, none⟩), .slice M.cha M.chans.length M.chcap, .func (.func 52) #[.pointer (some ⟨g, 0, none⟩)] #[]] w1 _ := fun w1 hb1 h1 => each_Int h1 M.chans M.cha M.chcap (fun wx hx => (hl wx (hb1.trans hx)).2.1) ok3 (by rw [List.length_append, List.length_append, List.length_append]; show 5 + _ + _ + _ ≤ _; omega)
  have c4 : ∀ w1, Below lo w w1 → WS w1 lo g (encH M) [] 0 0 → Calls Tryz.prog 54 #[.pointer (some ⟨g, 0, none⟩), .slice M.fa M.fns.length M.fcap, .func (.func 55) #[.pointer (some ⟨g, 0, none⟩)] #[]] w1 _ := fun w1 hb1 h1 => each_Func h1 (fun wx hx => hF wx (hb1.trans hx)) M.fns M.fa M.fcap (fun wx hx => (hl wx (hb1.trans hx)).2.2.1) (fun f hf wx hx => (hl wx (hb1.trans hx)).2.2.2.2.2.2 f hf) ok5 (enc_len hn) ok4
  have hne1 : ¬ w.heap.size = g := by have := (Array.getElem?_eq_some_iff.mp st.bx).1; omega
  have hne2 : ¬ g = w.heap.size := fun q => hne1 q.symm
  clear st hlen hl ok1 ok3 ok5
  go_enter Tryz.func31, Tryz.ntmps31
  go_wp2_with (first
    | (at_builtin; (refine Go.Lib.wpList_append_own_string _ rfl (.tmp 8) _ 28 9 rfl lo 5 i5 Tryz.underlying28 Tryz.underlying9 hi5 hz5 hs5 hb5 (.slice oa 0 oc) 0 [] rfl hown.out ⟨#[83, 67, 82, 66, 1]⟩ rfl (by decide) (by decide) hbsH.out ?_); intro v' wm h2 h3 h5; obtain ⟨oa', oc', rfl, hg2, st2, hbm, hom⟩ := wst_grow (ys := magicB) hstH.out hb hlo h2 h3; (have st5 : WSt (wm.setCell ⟨g, 0, none⟩ (.slice oa' 5 oc')) lo g oa' oc' magicB s1 (.int .i64 0) (.int .i64 0) := st2); (have hbm5 : Below lo w (wm.setCell ⟨g, 0, none⟩ (.slice oa' 5 oc')) := hbm); (have hom5 : Oth w (wm.setCell ⟨g, 0, none⟩ (.slice oa' 5 oc')) := hom); clear st2 hbm hom; (have hWo : WOut (wm.setCell ⟨g, 0, none⟩ (.slice oa' 5 oc')) lo g magicB s1 (.int .i64 0) (.int .i64 0) := ⟨Nat.le_trans hlo hbm5.size, _, _, st5⟩); (have f0 := whole_cell (hg2.trans hstH.out.bx) 0 _ rfl); (have fz := fun o => whole_frozen (hg2.trans hstH.out.bx) o); (have f1 : g < wm.heap.size := (Array.getElem?_eq_some_iff.mp (hg2.trans hstH.out.bx)).1); (have qm0 : wm.heap[w.heap.size]? = some (objP M) := (h3.block _ (by rw [World.size_alloc]; omega) (fun q => by have := blk_lt hstH.out.ow _ ((ownBlock_blk oa 0 oc _).mp q.symm); omega)).trans hbx); (have qm := (heap_setCell_other wm ⟨g, 0, none⟩ w.heap.size (.slice oa' 5 oc') (by have := (Array.getElem?_eq_some_iff.mp hstH.out.bx).1; show w.heap.size ≠ g; omega)).trans qm0); (have m0 := whole_cell qm0 0 _ rfl); (have m1 := whole_cell qm0 1 _ rfl); (have m2 := whole_cell qm0 2 _ rfl); (have m3 := whole_cell qm0 3 _ rfl); (have mz : w.heap.size < wm.heap.size := (Array.getElem?_eq_some_iff.mp qm0).1))
    | (go_at_call 50; (with_reducible refine (c1 _ hbm5 hWo).mono ?_); rintro e w1 ⟨rfl, h1, hb1, ho1⟩; (have hB1 := hbm5.trans hb1); (have hO1 := hom5.trans ho1); (have q := (ho1 _ _ _ _ qm (by decide) (by decide))); (have q0 := whole_cell q 0 _ rfl); (have q1 := whole_cell q 1 _ rfl); (have q2 := whole_cell q 2 _ rfl); (have q3 := whole_cell q 3 _ rfl))
    | (go_at_call 52; (with_reducible refine (c2 _ h1).mono ?_); rintro e w2 ⟨rfl, h2, hb2, ho2⟩; (have hB2 := hB1.trans hb2); (have hO2 := hO1.trans ho2); (have r := (ho2 _ _ _ _ q (by decide) (by decide))); (have r0 := whole_cell r 0 _ rfl); (have r1 := whole_cell r 1 _ rfl); (have r2 := whole_cell r 2 _ rfl); (have r3 := whole_cell r 3 _ rfl))
    | (go_at_call 53; (with_reducible refine (c3 _ hB2 h2).mono ?_); rintro e w3 ⟨rfl, h3, hb3, ho3⟩; (have hB3 := hB2.trans hb3); (have hO3 := hO2.trans ho3); (have t := (ho3 _ _ _ _ r (by decide) (by decide))); (have t0 := whole_cell t 0 _ rfl); (have t1 := whole_cell t 1 _ rfl); (have t2 := whole_cell t 2 _ rfl); (have t3 := whole_cell t 3 _ rfl); (have hS3 : WS w3 lo g (encH M) [] 0 0 := ⟨s1, h3, hS.keep hO3⟩))
    | (go_at_call 54; (with_reducible refine (c4 _ hB3 hS3).mono ?_); rintro e w4 ⟨rfl, h4, hb4, ho4⟩))
  go_end0
  exact ⟨rfl, h4, hB3.trans hb4⟩
end
end Go.Proofs.YtonkcnaijcpfdaaGreatDoor.pg
/- Contracts of package octet's Zag and Fixed, and of the document's own Zig, Zag and Fixed. -/
namespace Go.Proofs.YtonkcnaijcpfdaaGreatDoor.octet
open Go.ChangeShapes Go.WideShapes Go.ChangeAt Go.RowKit
open wrapped
set_option linter.unusedVariables false
/-- Zigzag, back. -/
def zb (u : Int) : Int := if u % 2 = 1 then -(u / 2) - 1 else u / 2
theorem zag_any (u : Int) (h0 : 0 ≤ u) (h1 : u < 18446744073709551616) (w : World) : Calls Tryz.prog 126 #[.int .u64 u] w fun e w' => e = .returned (.int .i64 (zb u)) ∧ w' = w := by
  have e1 : bits .and .u64 u 1 = u % 2 := by
    obtain ⟨n, rfl⟩ := Int.eq_ofNat_of_zero_le h0
    have e := u64_and_nat n 1 (by omega) (by omega)
    rw [Nat.and_one_is_mod] at e
    exact e.trans (by omega)
  rcases (by omega : u % 2 = 0 ∨ u % 2 = 1) with hp | hp
  · rw [hp] at e1
    have e2 : bits .xor .i64 (u / 2) 0 = u / 2 := by
      have e := wrap64_toInt (u / 2)
      rw [wrap64_id _ (by omega) (by omega)] at e
      rw [bits_xor_eq, show BitVec.ofInt 64 0 = 0#64 from by decide, BitVec.xor_zero, ← e]
    have e3 : Hid (zb u = u / 2) := by show zb u = _; unfold zb; rw [if_neg (by omega)]
    clear hp
    go_enter Tryz.func126, Tryz.ntmps126
    go_wp2
    go_ret
    exact ⟨ret_int e3.out.symm, rfl⟩
  · rw [hp] at e1
    have e2 : bits .xor .i64 (u / 2) (-1) = -1 - u / 2 := by
      have e1 : BitVec.ofInt 64 (u / 2) ^^^ BitVec.ofInt 64 (-1) = ~~~ (BitVec.ofInt 64 (u / 2)) := by
        have : BitVec.ofInt 64 (-1) = BitVec.allOnes 64 := by decide
        rw [this, BitVec.xor_allOnes]
      rw [bits_xor_eq, e1, BitVec.toInt_not, BitVec.toNat_ofInt, Int.bmod_def]
      simp only [show (2 ^ 64 : Nat) = 18446744073709551616 from by decide, show (2 ^ 64 : Int) = 18446744073709551616 from by decide]
      split <;> omega
    have e3 : Hid (zb u = -1 - u / 2) := by show zb u = _; unfold zb; rw [if_pos hp]; omega
    clear hp
    go_enter Tryz.func126, Tryz.ntmps126
    go_wp2
    go_ret
    exact ⟨ret_int e3.out.symm, rfl⟩
theorem refzig_any (x : Int) (h : -9223372036854775808 ≤ x) (g : x ≤ 9223372036854775807) (w : World) : Calls Tryz.prog 60 #[.int .i64 x] w fun e w' => e = .returned (.int .u64 (zg x)) ∧ w' = w := by
  by_cases hx : x < 0
  · have e3 : Hid (zg x = -2 * x - 1) := by show zg x = _; unfold zg; rw [if_pos hx]
    go_enter Tryz.func60, Tryz.ntmps60
    go_wp2
    go_ret
    exact ⟨ret_int (by rw [e3.out]; try simp only [IntKind.wrap_u64]
                       omega), rfl⟩
  · have e3 : Hid (zg x = 2 * x) := by show zg x = _; unfold zg; rw [if_neg hx]
    go_enter Tryz.func60, Tryz.ntmps60
    go_wp2
    go_ret
    exact ⟨ret_int (by rw [e3.out]; try simp only [IntKind.wrap_u64]
                       try omega), rfl⟩
end Go.Proofs.YtonkcnaijcpfdaaGreatDoor.octet
