/- When two of a program's plain parts are the same. -/
import Derived.Test.YtofeohhnfnnifaaDoorM6
import Derived.Laws.StructEq
namespace Go.Proofs.YtofeohhnfnnifaaDoor.pg
open Go.ChangeShapes Go.WideShapes Go.ChangeAt Go.RowKit
set_option linter.unusedVariables false
set_option linter.unusedSimpArgs false
abbrev Vr.val (x : Vr) : Value := .agg #[.bool x.atomic, .int .i64 x.init]
def eqV (x y : Vr) : Bool := x.atomic == y.atomic && x.init == y.init
theorem eqV_iff (x y : Vr) : eqV x y = true ↔ x = y := by
  cases x; cases y; simp [eqV, Bool.and_eq_true, beq_iff_eq, and_assoc]
theorem run_eqV (x y : Vr) (w : World) : (binOp .eql 68 x.val y.val).run Tryd.prog w = .ok (.bool (eqV x y)) w := by
  have u0 := Tryd.underlying4
  have a0 := Tryd.isAgg4
  have z0 := Tryd.sizeOf4
  have u1 := Tryd.underlying2
  have a1 := Tryd.isAgg2
  have z1 := Tryd.sizeOf2
  have hS : Tryd.prog.underlying 68 = some (.struct (Tryd.prog.fieldsOf 68)) := by kernel_rfl
  have hp : Tryd.prog.stoodInHeld 68 = false := by kernel_rfl
  rw [run_eql_struct, show (10000 : Nat) = 9999 + 1 from rfl, run_equalIn_agg w 9999 68 _ _ hS hp]
  simp only [Program.fieldsOf, Tryd.underlying68]
  go_simp
  by_cases h0 : x.atomic = y.atomic <;> by_cases h1 : x.init = y.init <;> simp [eqV, h0, h1]
theorem run_neV (x y : Vr) (w : World) : (binOp .neq 68 x.val y.val).run Tryd.prog w = .ok (.bool (!eqV x y)) w := by
  have u0 := Tryd.underlying4
  have a0 := Tryd.isAgg4
  have z0 := Tryd.sizeOf4
  have u1 := Tryd.underlying2
  have a1 := Tryd.isAgg2
  have z1 := Tryd.sizeOf2
  have hS : Tryd.prog.underlying 68 = some (.struct (Tryd.prog.fieldsOf 68)) := by kernel_rfl
  have hp : Tryd.prog.stoodInHeld 68 = false := by kernel_rfl
  rw [run_neq_struct, show (10000 : Nat) = 9999 + 1 from rfl, run_equalIn_agg w 9999 68 _ _ hS hp]
  simp only [Program.fieldsOf, Tryd.underlying68]
  go_simp
  by_cases h0 : x.atomic = y.atomic <;> by_cases h1 : x.init = y.init <;> simp [eqV, h0, h1]
def eqI (x y : Ins) : Bool := x.op == y.op && x.a == y.a && x.b == y.b && x.c == y.c && x.n == y.n
theorem eqI_iff (x y : Ins) : eqI x y = true ↔ x = y := by
  cases x; cases y; simp [eqI, Bool.and_eq_true, beq_iff_eq, and_assoc]
theorem run_eqI (x y : Ins) (w : World) : (binOp .eql 74 x.val y.val).run Tryd.prog w = .ok (.bool (eqI x y)) w := by
  have u0 := Tryd.underlying72
  have a0 := Tryd.isAgg72
  have z0 := Tryd.sizeOf72
  have u1 := Tryd.underlying3
  have a1 := Tryd.isAgg3
  have z1 := Tryd.sizeOf3
  have u2 := Tryd.underlying2
  have a2 := Tryd.isAgg2
  have z2 := Tryd.sizeOf2
  have hS : Tryd.prog.underlying 74 = some (.struct (Tryd.prog.fieldsOf 74)) := by kernel_rfl
  have hp : Tryd.prog.stoodInHeld 74 = false := by kernel_rfl
  rw [run_eql_struct, show (10000 : Nat) = 9999 + 1 from rfl, run_equalIn_agg w 9999 74 _ _ hS hp]
  simp only [Program.fieldsOf, Tryd.underlying74]
  go_simp
  by_cases h0 : x.op = y.op <;> by_cases h1 : x.a = y.a <;> by_cases h2 : x.b = y.b <;> by_cases h3 : x.c = y.c <;> by_cases h4 : x.n = y.n <;> simp [eqI, h0, h1, h2, h3, h4]
theorem run_neI (x y : Ins) (w : World) : (binOp .neq 74 x.val y.val).run Tryd.prog w = .ok (.bool (!eqI x y)) w := by
  have u0 := Tryd.underlying72
  have a0 := Tryd.isAgg72
  have z0 := Tryd.sizeOf72
  have u1 := Tryd.underlying3
  have a1 := Tryd.isAgg3
  have z1 := Tryd.sizeOf3
  have u2 := Tryd.underlying2
  have a2 := Tryd.isAgg2
  have z2 := Tryd.sizeOf2
  have hS : Tryd.prog.underlying 74 = some (.struct (Tryd.prog.fieldsOf 74)) := by kernel_rfl
  have hp : Tryd.prog.stoodInHeld 74 = false := by kernel_rfl
  rw [run_neq_struct, show (10000 : Nat) = 9999 + 1 from rfl, run_equalIn_agg w 9999 74 _ _ hS hp]
  simp only [Program.fieldsOf, Tryd.underlying74]
  go_simp
  by_cases h0 : x.op = y.op <;> by_cases h1 : x.a = y.a <;> by_cases h2 : x.b = y.b <;> by_cases h3 : x.c = y.c <;> by_cases h4 : x.n = y.n <;> simp [eqI, h0, h1, h2, h3, h4]
def eqC (x y : Cas) : Bool := x.send == y.send && x.ch == y.ch && x.reg == y.reg && x.to == y.to
theorem eqC_iff (x y : Cas) : eqC x y = true ↔ x = y := by
  cases x; cases y; simp [eqC, Bool.and_eq_true, beq_iff_eq, and_assoc]
theorem run_eqC (x y : Cas) (w : World) : (binOp .eql 90 x.val y.val).run Tryd.prog w = .ok (.bool (eqC x y)) w := by
  have u0 := Tryd.underlying4
  have a0 := Tryd.isAgg4
  have z0 := Tryd.sizeOf4
  have u1 := Tryd.underlying3
  have a1 := Tryd.isAgg3
  have z1 := Tryd.sizeOf3
  have hS : Tryd.prog.underlying 90 = some (.struct (Tryd.prog.fieldsOf 90)) := by kernel_rfl
  have hp : Tryd.prog.stoodInHeld 90 = false := by kernel_rfl
  rw [run_eql_struct, show (10000 : Nat) = 9999 + 1 from rfl, run_equalIn_agg w 9999 90 _ _ hS hp]
  simp only [Program.fieldsOf, Tryd.underlying90]
  go_simp
  by_cases h0 : x.send = y.send <;> by_cases h1 : x.ch = y.ch <;> by_cases h2 : x.reg = y.reg <;> by_cases h3 : x.to = y.to <;> simp [eqC, h0, h1, h2, h3]
theorem run_neC (x y : Cas) (w : World) : (binOp .neq 90 x.val y.val).run Tryd.prog w = .ok (.bool (!eqC x y)) w := by
  have u0 := Tryd.underlying4
  have a0 := Tryd.isAgg4
  have z0 := Tryd.sizeOf4
  have u1 := Tryd.underlying3
  have a1 := Tryd.isAgg3
  have z1 := Tryd.sizeOf3
  have hS : Tryd.prog.underlying 90 = some (.struct (Tryd.prog.fieldsOf 90)) := by kernel_rfl
  have hp : Tryd.prog.stoodInHeld 90 = false := by kernel_rfl
  rw [run_neq_struct, show (10000 : Nat) = 9999 + 1 from rfl, run_equalIn_agg w 9999 90 _ _ hS hp]
  simp only [Program.fieldsOf, Tryd.underlying90]
  go_simp
  by_cases h0 : x.send = y.send <;> by_cases h1 : x.ch = y.ch <;> by_cases h2 : x.reg = y.reg <;> by_cases h3 : x.to = y.to <;> simp [eqC, h0, h1, h2, h3]
theorem list_eq {α : Type} {l m : List α} (hl : l.length = m.length) (h : ∀ (i : Nat) x y, l[i]? = some x → m[i]? = some y → x = y) : l = m := by
  apply List.ext_getElem? 
  intro i
  by_cases hi : i < l.length
  · rw [List.getElem?_eq_getElem hi, List.getElem?_eq_getElem (by omega)]
    rw [h i _ _ (List.getElem?_eq_getElem hi) (List.getElem?_eq_getElem (by omega))]
  · rw [List.getElem?_eq_none (by omega), List.getElem?_eq_none (by omega)]
end Go.Proofs.YtofeohhnfnnifaaDoor.pg
/- The contract of the document's own look at two functions: are they the same? -/
namespace Go.Proofs.YtofeohhnfnnifaaDoor.pg
open Go.ChangeShapes Go.WideShapes Go.ChangeAt Go.RowKit
set_option linter.unusedVariables false
set_option linter.unusedSimpArgs false
set_option maxRecDepth 100000
theorem sel_mem {l : List MSel} {k : Nat} {x : MSel} (h : l[k]? = some x) : x ∈ l := List.mem_of_getElem? h
theorem fn_eq {f g : MFn} (h1 : f.params = g.params) (h2 : f.regs = g.regs) (h3 : f.code = g.code) (h4 : f.sels.map MSel.sel = g.sels.map MSel.sel) : f.fn = g.fn := by unfold MFn.fn; rw [h1, h2, h3, h4]
theorem not_same {r : Bool} {p : Prop} (hr : Hid (r = true ↔ p)) (hn : ¬ p) : Hid (r = false) := by
  show r = false
  cases r with
  | false => rfl
  | true => exact absurd (hr.out.mp rfl) hn
theorem is_same {r : Bool} {p : Prop} (hr : Hid (r = true ↔ p)) (hp : p) : Hid (r = true) := hr.out.mpr hp
set_option maxHeartbeats 8000000 in
theorem rsameFunc_any (f g : MFn) (w : World) (hf : f.lies w) (hg : g.lies w) (r : Bool) (hr : Hid (r = true ↔ f.fn = g.fn)) :
    Calls Tryd.prog 23 #[f.val, g.val] w fun e w' => e = .returned (.bool r) ∧ Below w.heap.size w w' := by
  by_cases h1 : f.params = g.params
  · by_cases h2 : f.regs = g.regs
    · by_cases h3 : f.code.length = g.code.length
      · by_cases h4 : f.sels.length = g.sels.length
        · have hb := boxed2 w (objF f) (objF g)
          have hb2 := boxed (w.alloc (objF f)) (objF g)
          have bF := (boxF_new w f).later hb2
          have bG := boxF_new (w.alloc (objF f)) g
          simp only [World.size_alloc] at bG
          have hfL := hf.later hb
          have hgL := hg.later hb
          have hln := rows_len hf.1
          have hlns := rows_len hf.2.1
          have hz : w.heap.size + 1 < ((w.alloc (objF f)).alloc (objF g)).heap.size := by simp only [World.size_alloc]; omega
          clear hb2 hf hg
          obtain ⟨pa, ra, ca, cc, code, sa, sc, sels⟩ := f
          obtain ⟨pb, rb, cb, cd, code2, sb, sd, sels2⟩ := g
          simp only at h1 h2 h3 h4 hln hlns
          subst h1
          subst h2
          simp only [objF] at bF bG hfL hgL hz hb
          rw [h3] at hb hz hfL hgL bF bG hln
          rw [h4] at hb hz hfL hgL bF bG hlns
          show Calls Tryd.prog 23 #[.agg #[.int .i64 pa, .int .i64 ra, .slice ca code.length cc, .slice sa sels.length sc], .agg #[.int .i64 pa, .int .i64 ra, .slice cb code2.length cd, .slice sb sels2.length sd]] w _
          rw [h3, h4]
          have H3 : Hid (code.length = code2.length) := h3
          have H4 : Hid (sels.length = sels2.length) := h4
          clear h3 h4
          go_enter Tryd.func23, Tryd.ntmps23
          go_wp2
          generalize (w.alloc (.cells #[.int .i64 pa, .int .i64 ra, .slice ca code2.length cc, .slice sa sels2.length sc] 58)).alloc (.cells #[.int .i64 pa, .int .i64 ra, .slice cb code2.length cd, .slice sb sels2.length sd] 58) = W at *
          have C2 : Hid (W.cell? ⟨w.heap.size, 2, none⟩ = some (.slice ca code2.length cc)) := by have q := bF.2.2.1; simp only at q; rw [H3.out] at q; exact q
          have C3 : Hid (W.cell? ⟨w.heap.size, 3, none⟩ = some (.slice sa sels2.length sc)) := by have q := bF.2.2.2; simp only at q; rw [H4.out] at q; exact q
          have D2 : Hid (W.cell? ⟨w.heap.size + 1, 2, none⟩ = some (.slice cb code2.length cd)) := bG.2.2.1
          have D3 : Hid (W.cell? ⟨w.heap.size + 1, 3, none⟩ = some (.slice sb sels2.length sd)) := bG.2.2.2
          have hfL : Hid (MFn.lies W ⟨pa, ra, ca, cc, code, sa, sc, sels⟩) := hfL
          have hgL : Hid (MFn.lies W ⟨pa, ra, cb, cd, code2, sb, sd, sels2⟩) := hgL
          clear bF bG
          go_loopw [43] (fun u wr => ∃ k : Nat, k ≤ code2.length ∧ u = .int .i64 k ∧ (∀ j x y, j < k → code[j]? = some x → code2[j]? = some y → x = y) ∧ Below W.heap.size W wr) (fun u _ => code2.length - (intOf u).toNat)
          case atStart => exact ⟨0, Nat.zero_le _, rfl, fun j x y hj => by omega, Below.refl _ _⟩
          case round =>
            obtain ⟨k, hk, rfl, hall, hbr⟩ := hrel
            have a2 := cell_later hbr C2.out
            have b2 := cell_later hbr D2.out
            have a3 := cell_later hbr C3.out
            have b3 := cell_later hbr D3.out
            have hbw : Below w.heap.size w wr := bthen hb hbr
            by_cases hlt : k < code2.length
            · obtain ⟨x, hx, hxm⟩ := get_lt code k (by have := H3.out; omega)
              obtain ⟨y, hy, hym⟩ := get_lt code2 k hlt
              obtain ⟨bx, ox, hix, _, c0, c1, c2, c3, c4⟩ := ins_ix (hfL.out.later hbr).1 k x hx
              obtain ⟨bz, oy, hiy, _, e0, e1, e2, e3, e4⟩ := ins_ix (hgL.out.later hbr).1 k y hy
              rw [H3.out] at hix
              have hklI : (k : Int) < (code2.length : Int) := by omega
              have hne := run_neI x y
              cases hq : eqI x y with
              | true =>
                rw [hq] at hne
                have hxy : Hid (x = y) := (eqI_iff x y).mp hq
                clear hq a3 b3
                go_wp2_with fail
                go_quiet (fail)
                go_wp2
                go_roundw
                case rel => exact ⟨k + 1, by omega, by go_num, (fun j x' y' hj hx' hy' => by
                  by_cases hjk : j = k
                  · subst hjk; rw [hx] at hx'; rw [hy] at hy'; cases hx'; cases hy'; exact hxy.out
                  · exact hall j x' y' (by omega) hx' hy'), below_drewN hbr _⟩
                case measure => simp [intOf]; omega
              | false =>
                rw [hq] at hne
                have hv := not_same hr (fun q => by
                  have q2 : code = code2 := congrArg Fn.code q
                  subst q2
                  rw [hx] at hy
                  cases hy
                  have := (eqI_iff x x).mpr rfl
                  rw [hq] at this
                  exact absurd this (by decide))
                clear hq a3 b3
                go_wp2_with fail
                go_quiet (fail)
                go_wp2
                go_ret
                exact ⟨ret_b hv.out.symm, below_drewN hbw _⟩
            · have hcode : Hid (code = code2) := list_eq H3.out (fun i x y hx hy => hall i x y (by have := (List.getElem?_eq_some_iff.mp hy).1; omega) hx hy)
              clear hall a2 b2
              go_wp2
              generalize wr = W2 at *
              go_loopw [61] (fun u wr => ∃ k : Nat, k ≤ sels2.length ∧ u = .int .i64 k ∧ (∀ j x y, j < k → sels[j]? = some x → sels2[j]? = some y → x.sel = y.sel) ∧ Below W.heap.size W wr) (fun u _ => sels2.length - (intOf u).toNat)
              case atStart => exact ⟨0, Nat.zero_le _, rfl, fun j x y hj => by omega, hbr⟩
              case round =>
                clear a3 b3 hbw hbr
                obtain ⟨k, hk, rfl, hall, hbr⟩ := hrel
                have a3 := cell_later hbr C3.out
                have b3 := cell_later hbr D3.out
                have hbw : Below w.heap.size w wr := bthen hb hbr
                have z := hbr.size
                have z0 : w.heap.size < wr.heap.size := by omega
                have z1 : w.heap.size + 1 < wr.heap.size := by omega
                have z2 : w.heap.size + 1 < wr.heap.size + 1 := by omega
                by_cases hlt : k < sels2.length
                · obtain ⟨x, hx, hxm⟩ := get_lt sels k (by have := H4.out; omega)
                  obtain ⟨y, hy, hym⟩ := get_lt sels2 k hlt
                  have hfr := hfL.out.later hbr
                  have hgr := hgL.out.later hbr
                  obtain ⟨bx, ox, hix, hbx, c0, c1⟩ := sel_ix hfr.2.1 k x hx
                  obtain ⟨bz, oy, hiy, hbz, e0, e1⟩ := sel_ix hgr.2.1 k y hy
                  have hxl := hfr.2.2.2.1 x hxm
                  have hyl := hgr.2.2.2.1 y hym
                  have hz1 : bz < wr.heap.size + 1 := by omega
                  rw [H4.out] at hix
                  obtain ⟨xa, xcap, xcases, xels⟩ := x
                  obtain ⟨ya, ycap, ycases, yels⟩ := y
                  simp only at hix hiy c0 c1 e0 e1
                  clear hfr hgr
                  have diff : ¬ (Sel.mk xcases xels = Sel.mk ycases yels) → Hid (r = false) := fun hd => not_same hr (fun q => hd (by
                    have q2 : sels.map MSel.sel = sels2.map MSel.sel := congrArg Fn.sels q
                    have q3 := congrArg (fun l => l[k]?) q2
                    simp only [List.getElem?_map, hx, hy, Option.map_some, Option.some.injEq] at q3
                    exact q3))
                  by_cases h5 : xels = yels
                  · by_cases h6 : xcases.length = ycases.length
                    · subst h5
                      have hlnx := rows_len hyl.1
                      simp only at hlnx
                      rw [h6] at c0
                      have H6 : Hid (xcases.length = ycases.length) := h6
                      clear h6
                      have hb3 := bthen hbr (boxed2 wr (.cells #[.slice xa ycases.length xcap, .int .i64 xels] 61) (.cells #[.slice ya ycases.length ycap, .int .i64 xels] 61))
                      have xl := hxl.later (boxed2 wr (.cells #[.slice xa ycases.length xcap, .int .i64 xels] 61) (.cells #[.slice ya ycases.length ycap, .int .i64 xels] 61))
                      have yl := hyl.later (boxed2 wr (.cells #[.slice xa ycases.length xcap, .int .i64 xels] 61) (.cells #[.slice ya ycases.length ycap, .int .i64 xels] 61))
                      have bX : Hid ((((wr.alloc (.cells #[.slice xa ycases.length xcap, .int .i64 xels] 61)).alloc (.cells #[.slice ya ycases.length ycap, .int .i64 xels] 61)).cell? ⟨wr.heap.size, 0, none⟩ = some (.slice xa ycases.length xcap))) := by
                        refine cell_later (boxed _ _) ?_
                        exact World.cell?_alloc_at _ _ _ _ rfl
                      have bY : Hid ((((wr.alloc (.cells #[.slice xa ycases.length xcap, .int .i64 xels] 61)).alloc (.cells #[.slice ya ycases.length ycap, .int .i64 xels] 61)).cell? ⟨wr.heap.size + 1, 0, none⟩ = some (.slice ya ycases.length ycap))) := by
                        exact World.cell?_alloc_at _ _ _ _ (World.size_alloc _ _).symm
                      clear hxl hyl
                      go_wp2
                      generalize (wr.alloc (.cells #[.slice xa ycases.length xcap, .int .i64 xels] 61)).alloc (.cells #[.slice ya ycases.length ycap, .int .i64 xels] 61) = W3 at *
                      clear hix hiy c0 c1 e0 e1 hbx hbz a3 b3 z0 z1 z2 hz1 z hbw hbr
                      generalize wr.heap.size = BX at *
                      go_loopw [91] (fun u wr => ∃ q : Nat, q ≤ ycases.length ∧ u = .int .i64 q ∧ (∀ j x y, j < q → xcases[j]? = some x → ycases[j]? = some y → x = y) ∧ Below W3.heap.size W3 wr) (fun u _ => ycases.length - (intOf u).toNat)
                      case atStart => exact ⟨0, Nat.zero_le _, rfl, fun j x y hj => by omega, Below.refl _ _⟩
                      case round =>
                        obtain ⟨q, hq, rfl, hallc, hbq⟩ := hrel
                        have x0 := cell_later hbq bX.out
                        have y0 := cell_later hbq bY.out
                        have hb4 := bthen hb3 hbq
                        by_cases hlq : q < ycases.length
                        · obtain ⟨x, hxx, _⟩ := get_lt xcases q (by have := H6.out; omega)
                          obtain ⟨y, hyy, _⟩ := get_lt ycases q hlq
                          obtain ⟨bx, ox, hix, _, c0, c1, c2, c3⟩ := cas_ix (xl.later hbq).1 q x hxx
                          obtain ⟨bz, oy, hiy, _, e0, e1, e2, e3⟩ := cas_ix (yl.later hbq).1 q y hyy
                          rw [H6.out] at hix
                          have hqlI : (q : Int) < (ycases.length : Int) := by omega
                          have hne := run_neC x y
                          cases hqe : eqC x y with
                          | true =>
                            rw [hqe] at hne
                            have hxy : Hid (x = y) := (eqC_iff x y).mp hqe
                            clear hqe
                            go_wp2_with fail
                            go_quiet (fail)
                            go_wp2
                            go_roundw
                            case rel => exact ⟨q + 1, by omega, by go_num, (fun j x' y' hj hx' hy' => by
                              by_cases hjk : j = q
                              · subst hjk; rw [hxx] at hx'; rw [hyy] at hy'; cases hx'; cases hy'; exact hxy.out
                              · exact hallc j x' y' (by omega) hx' hy'), below_drewN hbq _⟩
                            case measure => simp [intOf]; omega
                          | false =>
                            rw [hqe] at hne
                            have hv := diff (fun t => by
                              have t2 : xcases = ycases := congrArg Sel.cases t
                              subst t2
                              rw [hxx] at hyy
                              cases hyy
                              have := (eqC_iff x x).mpr rfl
                              rw [hqe] at this
                              exact absurd this (by decide))
                            clear hqe
                            go_wp2_with fail
                            go_quiet (fail)
                            go_wp2
                            go_ret
                            exact ⟨ret_b hv.out.symm, below_drewN (bthen hb hb4) _⟩
                        · have hcs : xcases = ycases := list_eq H6.out (fun i x y hx hy => hallc i x y (by have := (List.getElem?_eq_some_iff.mp hy).1; omega) hx hy)
                          have hcs' : Hid (Sel.mk xcases xels = Sel.mk ycases xels) := by show _ = _; rw [hcs]
                          clear hcs hallc x0 y0
                          go_wp2
                          go_roundw
                          case rel => exact ⟨k + 1, by omega, by go_num, (fun j x' y' hj hx' hy' => by
                            by_cases hjk : j = k
                            · subst hjk; rw [hx] at hx'; rw [hy] at hy'; cases hx'; cases hy'; exact hcs'.out
                            · exact hall j x' y' (by omega) hx' hy'), hb4⟩
                          case measure => simp [intOf]; omega
                    · have hv := diff (fun t => h6 (congrArg (fun s => s.cases.length) t))
                      subst h5
                      clear hxl hyl diff
                      have h6I : ¬ (xcases.length : Int) = ycases.length := by omega
                      clear h6
                      go_wp2
                      go_ret
                      exact ⟨ret_b hv.out.symm, bthen hbw (boxed2 _ _ _)⟩
                  · have hv := diff (fun t => h5 (congrArg Sel.els t))
                    clear hxl hyl diff
                    go_wp2
                    go_ret
                    exact ⟨ret_b hv.out.symm, bthen hbw (boxed2 _ _ _)⟩
                · have hsl : sels.map MSel.sel = sels2.map MSel.sel := list_eq (by simp only [List.length_map]; exact H4.out) (fun i x y hx hy => by
                    simp only [List.getElem?_map, Option.map_eq_some_iff] at hx hy
                    obtain ⟨x', hx', rfl⟩ := hx
                    obtain ⟨y', hy', rfl⟩ := hy
                    exact hall i x' y' (by have := (List.getElem?_eq_some_iff.mp hy').1; omega) hx' hy')
                  have hv := is_same hr (fn_eq rfl rfl hcode.out hsl)
                  clear hsl hall a3 b3
                  go_wp2
                  go_ret
                  exact ⟨ret_b hv.out.symm, hbw⟩
        · have hv := not_same hr (fun q => h4 (by have := congrArg (fun f => f.sels.length) q; simpa [MFn.fn] using this))
          have hI : ¬ (f.sels.length : Int) = g.sels.length := by omega
          clear h4 hf hg
          obtain ⟨pa, ra, ca, cc, code, sa, sc, sels⟩ := f
          obtain ⟨pb, rb, cb, cd, code2, sb, sd, sels2⟩ := g
          simp only at h1 h2 h3 hI
          subst h1
          subst h2
          have hIb : ((sels.length : Int) != (sels2.length : Int)) = true := by simpa using hI
          have h3I : (code.length : Int) = code2.length := by omega
          go_enter Tryd.func23, Tryd.ntmps23
          go_wp2
          go_ret
          exact ⟨ret_b hv.out.symm, boxed2 _ _ _⟩
      · have hv := not_same hr (fun q => h3 (congrArg (fun f => f.code.length) q))
        have hI : ¬ (f.code.length : Int) = g.code.length := by omega
        clear h3 hf hg
        obtain ⟨pa, ra, ca, cc, code, sa, sc, sels⟩ := f
        obtain ⟨pb, rb, cb, cd, code2, sb, sd, sels2⟩ := g
        simp only at h1 h2 hI
        subst h1
        subst h2
        go_enter Tryd.func23, Tryd.ntmps23
        go_wp2
        go_ret
        exact ⟨ret_b hv.out.symm, boxed2 _ _ _⟩
    · have hv := not_same hr (fun q => h2 (congrArg Fn.regs q))
      clear hf hg
      obtain ⟨pa, ra, ca, cc, code, sa, sc, sels⟩ := f
      obtain ⟨pb, rb, cb, cd, code2, sb, sd, sels2⟩ := g
      simp only at h1 h2
      subst h1
      go_enter Tryd.func23, Tryd.ntmps23
      go_wp2
      go_ret
      exact ⟨ret_b hv.out.symm, boxed2 _ _ _⟩
  · have hv := not_same hr (fun q => h1 (congrArg Fn.params q))
    go_enter Tryd.func23, Tryd.ntmps23
    go_wp2
    go_ret
    exact ⟨ret_b hv.out.symm, boxed2 _ _ _⟩
end Go.Proofs.YtofeohhnfnnifaaDoor.pg
