/- What stands ahead of an instruction hangs on the program alone, not on its places. -/
import Derived.Test.YtonkcnaijcpfdaaGreatDoorM26
import Derived.Test.YtonkcnaijcpfdaaGreatDoorM29
namespace Go.Proofs.YtonkcnaijcpfdaaGreatDoor.pg
set_option linter.unusedVariables false
set_option linter.unusedSimpArgs false
set_option maxRecDepth 100000
theorem ahead_eq {m M : MPr} (h : m.pr = M.pr) {F : Nat} {f' f : MFn} (hf : f'.fn = f.fn) (pc : Nat) : aheadB m F f' pc = aheadB M F f pc := by
  have e1 : m.vars = M.vars := congrArg Pr.vars h
  have e2 : m.locks = M.locks := congrArg Pr.locks h
  have e3 : m.chans = M.chans := congrArg Pr.chans h
  have e4 : m.fns.map MFn.fn = M.fns.map MFn.fn := congrArg Pr.fns h
  have e5 : m.fns.length = M.fns.length := by have := congrArg List.length e4; simpa using this
  have f1 : f'.params = f.params := congrArg Fn.params hf
  have f2 : f'.regs = f.regs := congrArg Fn.regs hf
  have f3 : f'.code = f.code := congrArg Fn.code hf
  have f4 : f'.sels.map MSel.sel = f.sels.map MSel.sel := congrArg Fn.sels hf
  have f5 : f'.sels.length = f.sels.length := by have := congrArg List.length f4; simpa using this
  have g1 : (m.fns.take F).flatMap fnB = (M.fns.take F).flatMap fnB := by
    have q : ∀ l : List MFn, (l.take F).flatMap fnB = ((l.map MFn.fn).take F).flatMap fnBp := fun l => by
      rw [← List.map_take, List.flatMap_map]
      congr 1
      exact funext fnB_fn
    rw [q, q, e4]
  have g2 : fnHead f' = fnHead f := by
    unfold fnHead
    have q : ∀ l : List MSel, (l.flatMap fun y : MSel => selB y.sel) = (l.map MSel.sel).flatMap selB := fun l => by rw [List.flatMap_map]
    rw [f1, f2, f5, q, q, f4]
  have g3 : encH m = encH M := by unfold encH; rw [e1, e2, e3]
  unfold aheadB
  rw [g1, g2, g3, e5, f3]
end Go.Proofs.YtonkcnaijcpfdaaGreatDoor.pg
/- The document's own Where. -/
namespace Go.Proofs.YtonkcnaijcpfdaaGreatDoor.pg
open Go.ChangeShapes Go.WideShapes Go.ChangeAt Go.RowKit
set_option linter.unusedVariables false
set_option linter.unusedSimpArgs false
set_option maxRecDepth 100000
section
variable {w : World}
theorem rwhere_bad (M : MPr) (hl : M.lies w) (f pc : Int) (hr : ¬ (chk insP M.pr).1 = 0) : Calls Tryz.prog 12 #[M.val, .int .i64 f, .int .i64 pc] w fun e w' => e = .returned (.tuple #[.int .i64 0, .int .i64 3]) ∧ Below w.heap.size w w' := by
  have hb := boxed w (objP M)
  have hrr : Hid (decide ((chk insR M.pr).1 = 0) = false) := by show decide _ = false; exact decide_eq_false (fun q => hr ((right_iff M.pr).mpr q))
  have c1 : Calls Tryz.prog 22 #[M.val] (w.alloc (objP M)) _ := rright4 M _ (hl.later hb) false hrr
  clear hl hr hrr
  go_enter Tryz.func12, Tryz.ntmps12
  go_wp2_with (go_at_call 22; (with_reducible refine c1.mono ?_); rintro e w2 ⟨rfl, hb2⟩)
  go_ret2
  exact ⟨rfl, bthen hb hb2⟩
theorem rright4_ok (M : MPr) (hl : M.lies w) (hr : (chk insP M.pr).1 = 0) : Calls Tryz.prog 22 #[M.val] (w.alloc (objP M)) fun e w' => e = .returned (.bool true) ∧ Below (w.alloc (objP M)).heap.size (w.alloc (objP M)) w' := by
  have hrr : Hid (decide ((chk insR M.pr).1 = 0) = true) := by show decide _ = true; exact decide_eq_true ((right_iff M.pr).mp hr)
  exact rright4 M _ (hl.later (boxed _ _)) true hrr
theorem rwhere_n1 (M : MPr) (hl : M.lies w) (f pc : Int) (hr : (chk insP M.pr).1 = 0) (h1 : f < 0) : Calls Tryz.prog 12 #[M.val, .int .i64 f, .int .i64 pc] w fun e w' => e = .returned (.tuple #[.int .i64 0, .int .i64 1]) ∧ Below w.heap.size w w' := by
  have hb := boxed w (objP M)
  have c1 := rright4_ok M hl hr
  clear hl hr
  go_enter Tryz.func12, Tryz.ntmps12
  go_wp2_with (go_at_call 22; (with_reducible refine c1.mono ?_); rintro e w2 ⟨rfl, hb2⟩)
  go_ret2
  exact ⟨rfl, bthen hb hb2⟩
theorem rwhere_n2 (M : MPr) (hl : M.lies w) (f pc : Int) (hr : (chk insP M.pr).1 = 0) (h1 : 0 ≤ f) (h2 : (M.fns.length : Int) ≤ f) : Calls Tryz.prog 12 #[M.val, .int .i64 f, .int .i64 pc] w fun e w' => e = .returned (.tuple #[.int .i64 0, .int .i64 1]) ∧ Below w.heap.size w w' := by
  have hb := boxed w (objP M)
  have bP := boxP_new w M
  have c1 := rright4_ok M hl hr
  have hz : w.heap.size < (w.alloc (objP M)).heap.size := by simp only [World.size_alloc]; omega
  clear hl hr
  go_enter Tryz.func12, Tryz.ntmps12
  go_wp2_with (go_at_call 22; (with_reducible refine c1.mono ?_); rintro e w2 ⟨rfl, hb2⟩; obtain ⟨p0, p1, p2, p3⟩ := bP.later hb2; (have z2 := hb2.size))
  go_ret2
  exact ⟨rfl, bthen hb hb2⟩
theorem rwhere_n3 (M : MPr) (hl : M.lies w) (F : Nat) (pc : Int) (hr : (chk insP M.pr).1 = 0) (h2 : F < M.fns.length) (h3 : pc < 0) : Calls Tryz.prog 12 #[M.val, .int .i64 (F : Int), .int .i64 pc] w fun e w' => e = .returned (.tuple #[.int .i64 0, .int .i64 1]) ∧ Below w.heap.size w w' := by
  have hb := boxed w (objP M)
  have bP := boxP_new w M
  have c1 := rright4_ok M hl hr
  have hz : w.heap.size < (w.alloc (objP M)).heap.size := by simp only [World.size_alloc]; omega
  have hFI : (F : Int) < M.fns.length := by omega
  have hfn : (M.fns.length : Int) ≤ 9223372036854775807 := rows_len hl.2.2.1
  clear hl hr
  go_enter Tryz.func12, Tryz.ntmps12
  go_wp2_with (go_at_call 22; (with_reducible refine c1.mono ?_); rintro e w2 ⟨rfl, hb2⟩; obtain ⟨p0, p1, p2, p3⟩ := bP.later hb2; (have z2 := hb2.size))
  go_ret2
  exact ⟨rfl, bthen hb hb2⟩
theorem rwhere_n4 (M : MPr) (hl : M.lies w) (F : Nat) (fn : MFn) (pc : Int) (hr : (chk insP M.pr).1 = 0) (hx : M.fns[F]? = some fn) (h3 : 0 ≤ pc) (h4 : (fn.code.length : Int) ≤ pc) : Calls Tryz.prog 12 #[M.val, .int .i64 (F : Int), .int .i64 pc] w fun e w' => e = .returned (.tuple #[.int .i64 0, .int .i64 1]) ∧ Below w.heap.size w w' := by
  have hb := boxed w (objP M)
  have bP := boxP_new w M
  have c1 := rright4_ok M hl hr
  have hz : w.heap.size < (w.alloc (objP M)).heap.size := by simp only [World.size_alloc]; omega
  have hlt := (List.getElem?_eq_some_iff.mp hx).1
  have hFI : (F : Int) < M.fns.length := by omega
  have hfn : (M.fns.length : Int) ≤ 9223372036854775807 := rows_len hl.2.2.1
  obtain ⟨bb, o, hix, hbl, k0, k1, k2, k3⟩ := fn_ix hl.2.2.1 F fn hx
  have hKB : ∀ wx, Below w.heap.size w wx → wx.cell? ⟨bb, o + 2, none⟩ = some (.slice fn.ca fn.code.length fn.ccap) ∧ bb < wx.heap.size := fun wx h => ⟨cell_later h k2, Nat.lt_of_lt_of_le hbl h.size⟩
  clear hl hr k0 k1 k2 k3
  go_enter Tryz.func12, Tryz.ntmps12
  go_wp2_with (go_at_call 22; (with_reducible refine c1.mono ?_); rintro e w2 ⟨rfl, hb2⟩; obtain ⟨p0, p1, p2, p3⟩ := bP.later hb2; (have z2 := hb2.size); obtain ⟨kk, kl⟩ := hKB _ (bthen hb hb2))
  go_ret2
  exact ⟨rfl, bthen hb hb2⟩
theorem rwhere_ok (M : MPr) (hl : M.lies w) (F : Nat) (fn : MFn) (p : Nat) (i : Ins) (hr : (chk insP M.pr).1 = 0) (hx : M.fns[F]? = some fn) (hy : fn.code[p]? = some i) : Calls Tryz.prog 12 #[M.val, .int .i64 (F : Int), .int .i64 (p : Int)] w fun e w' => e = .returned (.tuple #[.int .i64 (((aheadB M F fn p).length : Nat) : Int), .int .i64 0]) ∧ Below w.heap.size w w' := by
  have hb := boxed w (objP M)
  have bP := boxP_new w M
  have c1 := rright4_ok M hl hr
  have hz : w.heap.size < (w.alloc (objP M)).heap.size := by simp only [World.size_alloc]; omega
  have hlt := (List.getElem?_eq_some_iff.mp hx).1
  have hlp := (List.getElem?_eq_some_iff.mp hy).1
  have hFI : (F : Int) < M.fns.length := by omega
  have hpI : (p : Int) < fn.code.length := by omega
  have hfn : (M.fns.length : Int) ≤ 9223372036854775807 := rows_len hl.2.2.1
  have hcd : (fn.code.length : Int) ≤ 9223372036854775807 := rows_len (hl.2.2.2.2.2.2 fn (List.mem_of_getElem? hx)).1
  obtain ⟨bb, o, hix, hbl, k0, k1, k2, k3⟩ := fn_ix hl.2.2.1 F fn hx
  have hKB : ∀ wx, Below w.heap.size w wx → wx.cell? ⟨bb, o + 2, none⟩ = some (.slice fn.ca fn.code.length fn.ccap) ∧ bb < wx.heap.size := fun wx h => ⟨cell_later h k2, Nat.lt_of_lt_of_le hbl h.size⟩
  have hok := right_mem hr hl
  have hsm := enc_small hok
  have hA : Hid (∀ A, Plc M (F : Int) (p : Int) M.fns.length 0 A → A = (((aheadB M F fn p).length : Nat) : Int)) := fun A h => by
    rcases h with ⟨F', fn', p', i', h1, h2, h3, h4, h5, h6⟩ | ⟨h1, h2⟩
    · have e1 : F' = F := by omega
      have e2 : p' = p := by omega
      subst e1
      subst e2
      rw [hx] at h3
      simp only [Option.some.injEq] at h3
      subst h3
      exact h6
    · exact absurd (.inl hlt) (h2 F fn p i rfl rfl hx hy)
  have c2 : ∀ wx, Below w.heap.size w wx → Calls Tryz.prog 23 #[M.val, .int .i64 (F : Int), .int .i64 (p : Int)] wx _ := fun wx hx => rbytes_b M (hl.later hx) (pr_ok hok) (by omega) (F : Int) (p : Int) (by omega) (by omega) (by omega) (by omega)
  generalize encB M ++ sumB (sumOf (fl (encB M)) (encB M).length) = G at *
  clear hl hr k0 k1 k2 k3 hok hsm
  go_enter Tryz.func12, Tryz.ntmps12
  go_wp2_with (first
    | (go_at_call 22; (with_reducible refine c1.mono ?_); rintro e w2 ⟨rfl, hb2⟩; obtain ⟨p0, p1, p2, p3⟩ := bP.later hb2; (have z2 := hb2.size); (have B2 := bthen hb hb2); obtain ⟨kk, kl⟩ := hKB _ B2)
    | (go_at_call 23; (with_reducible refine (c2 _ B2).mono ?_); rintro e w3 ⟨v3, A3, rfl, hP3, h3, hb3⟩; (have hA3 : Hid (A3 = (((aheadB M F fn p).length : Nat) : Int)) := hA.out _ hP3); clear hP3))
  go_ret2
  exact ⟨by rw [← hA3.out]; rfl, bthen B2 hb3⟩
/-- Both tell the same place, and the same error. -/
theorem where_both2 (M : MPr) (w0 : World) (hl : M.lies w0) (hr : (chk insP M.pr).1 = 0) (f pc : Int) (hf1 : -9223372036854775808 ≤ f) (hp1 : -9223372036854775808 ≤ pc) :
    ∃ R E : Int, (∀ (m : MPr) (wx : World), m.pr = M.pr → m.lies wx → prog.Forms wx → Calls Tryz.prog 11 #[m.val, .int .i64 f, .int .i64 pc] wx fun e w' => e = .returned (.tuple #[.int .i64 R, .int .i64 E]) ∧ Below wx.heap.size wx w') ∧
      (∀ wx, M.lies wx → Calls Tryz.prog 12 #[M.val, .int .i64 f, .int .i64 pc] wx fun e w' => e = .returned (.tuple #[.int .i64 R, .int .i64 E]) ∧ Below wx.heap.size wx w') := by
  obtain ⟨B, C, hA⟩ : ∃ B C, chk insP M.pr = (0, B, C) := ⟨_, _, by rw [← hr]⟩
  have hA2 : ∀ m : MPr, m.pr = M.pr → chk insP m.pr = (0, B, C) := fun m hp => by rw [hp]; exact hA
  have hget : ∀ m : MPr, m.pr = M.pr → ∀ F : Nat, (m.fns[F]?).map MFn.fn = (M.fns[F]?).map MFn.fn := fun m hp F => by
    have e4 : m.fns.map MFn.fn = M.fns.map MFn.fn := congrArg Pr.fns hp
    have := congrArg (fun l : List Fn => l[F]?) e4
    simpa using this
  by_cases hex : 0 ≤ f ∧ ∃ fn, M.fns[f.toNat]? = some fn ∧ 0 ≤ pc ∧ pc < fn.code.length
  · obtain ⟨h0, fn, hx, h1, h2⟩ := hex
    obtain ⟨F, rfl⟩ : ∃ F : Nat, f = (F : Int) := ⟨f.toNat, by omega⟩
    obtain ⟨p, rfl⟩ : ∃ p : Nat, pc = (p : Int) := ⟨pc.toNat, by omega⟩
    rw [Int.toNat_natCast] at hx
    obtain ⟨i, hy, _⟩ := get_lt fn.code p (by omega)
    refine ⟨(((aheadB M F fn p).length : Nat) : Int), 0, fun m wx hp hm hF => ?_, fun wx hM => rwhere_ok M hM F fn p i hr hx hy⟩
    have hg := hget m hp F
    rw [hx] at hg
    obtain ⟨fn', hx', hfn⟩ : ∃ fn', m.fns[F]? = some fn' ∧ fn'.fn = fn.fn := by
      cases hc : m.fns[F]? with
      | none => rw [hc] at hg; simp at hg
      | some fn' => rw [hc] at hg; exact ⟨fn', rfl, by simpa using hg⟩
    have hy' : fn'.code[p]? = some i := by rw [show fn'.code = fn.code from congrArg Fn.code hfn]; exact hy
    obtain ⟨pre, post, hsp, hpre⟩ := enc_at m F fn' hx' p i hy'
    refine where_ok m hm hF F p B C (hA2 m hp) _ 0 (.inl ⟨pre, _, post, hsp, fun s hs => (hpre s hs).1, ⟨rfl, rfl⟩, ?_, rfl⟩)
    show _ = (((aheadB m F fn' p).length : Nat) : Int)
    rw [ahead_eq hp hfn]
  · refine ⟨0, 1, fun m wx hp hm hF => where_ok m hm hF f pc B C (hA2 m hp) 0 1 (.inr ⟨?_, rfl, rfl⟩), fun wx hM => ?_⟩
    · refine enc_none m f pc fun q => hex ?_
      obtain ⟨q0, fn', q1, q2, q3⟩ := q
      have hg := hget m hp f.toNat
      rw [q1] at hg
      cases hc : M.fns[f.toNat]? with
      | none => rw [hc] at hg; simp at hg
      | some fn =>
        rw [hc] at hg
        have hfn : fn'.fn = fn.fn := by simpa using hg
        exact ⟨q0, fn, rfl, q2, by rw [← show fn'.code = fn.code from congrArg Fn.code hfn]; exact q3⟩
    · by_cases h1 : f < 0
      · exact rwhere_n1 M hM f pc hr h1
      · by_cases h2 : (M.fns.length : Int) ≤ f
        · exact rwhere_n2 M hM f pc hr (by omega) h2
        · obtain ⟨F, rfl⟩ : ∃ F : Nat, f = (F : Int) := ⟨f.toNat, by omega⟩
          by_cases h3 : pc < 0
          · exact rwhere_n3 M hM F pc hr (by omega) h3
          · obtain ⟨fn, hx, _⟩ := get_lt M.fns F (by omega)
            exact rwhere_n4 M hM F fn pc hr hx (by omega) (by
              have : ¬ pc < fn.code.length := fun q => hex ⟨by omega, fn, by rw [Int.toNat_natCast]; exact hx, by omega, q⟩
              omega)
end
end Go.Proofs.YtonkcnaijcpfdaaGreatDoor.pg
/- CodeEncodes: what the program tells of a program's bytes is what the document's own tells. -/
namespace Go.Proofs.YtonkcnaijcpfdaaGreatDoor.pg
open Go.ChangeShapes Go.WideShapes Go.ChangeAt Go.RowKit
set_option linter.unusedVariables false
set_option linter.unusedSimpArgs false
set_option maxRecDepth 100000
section
variable {w : World}
set_option maxHeartbeats 4000000 in
theorem encodes_walk (M : MPr) (hl : M.lies w) (hs : M.sz) (hF : prog.Forms w) (f pc X R E T : Int) (L : List Nat) (hbt : Bt L) (n : Nat) (hn : L.length = n) (hnI : (n : Int) ≤ 1000000)
    (cE : ∀ (m : MPr) (wx : World), m.pr = M.pr → m.lies wx → prog.Forms wx → Calls Tryz.prog 6 #[m.val] wx fun e w' => ∃ va vc, e = .returned (.tuple #[.slice va n vc, .int .i64 X]) ∧ Rows w' 1 va vc (L.map u8c) ∧ Below wx.heap.size wx w')
    (cR : ∀ wx, M.lies wx → Calls Tryz.prog 7 #[M.val] wx fun e w' => ∃ va vc, e = .returned (.tuple #[.slice va n vc, .int .i64 X]) ∧ Rows w' 1 va vc (L.map u8c) ∧ Below wx.heap.size wx w')
    (cL : ∀ (m : MPr) (wx : World), m.pr = M.pr → m.lies wx → prog.Forms wx → Calls Tryz.prog 8 #[m.val] wx fun e w' => e = .returned (.tuple #[.int .i64 (n : Int), .int .i64 X]) ∧ Below wx.heap.size wx w')
    (cS : ∀ (m : MPr) (wx : World), m.pr = M.pr → m.lies wx → prog.Forms wx → Calls Tryz.prog 9 #[m.val] wx fun e w' => e = .returned (.tuple #[.int .u32 T, .int .i64 X]) ∧ Below wx.heap.size wx w')
    (cT : ∀ wx, M.lies wx → Calls Tryz.prog 10 #[M.val] wx fun e w' => e = .returned (.tuple #[.int .u32 T, .int .i64 X]) ∧ Below wx.heap.size wx w')
    (cW : ∀ (m : MPr) (wx : World), m.pr = M.pr → m.lies wx → prog.Forms wx → Calls Tryz.prog 11 #[m.val, .int .i64 f, .int .i64 pc] wx fun e w' => e = .returned (.tuple #[.int .i64 R, .int .i64 E]) ∧ Below wx.heap.size wx w')
    (cV : ∀ wx, M.lies wx → Calls Tryz.prog 12 #[M.val, .int .i64 f, .int .i64 pc] wx fun e w' => e = .returned (.tuple #[.int .i64 R, .int .i64 E]) ∧ Below wx.heap.size wx w') :
    Calls Tryz.prog 3 #[M.val, .int .i64 f, .int .i64 pc] w fun e w' => e = .returned (.bool true) ∧ Below w.heap.size w w' := by
  have hb := boxed w (objP M)
  have bP := boxP_new w M
  have hz : w.heap.size < (w.alloc (objP M)).heap.size := by simp only [World.size_alloc]; omega
  have c1 : Calls Tryz.prog 5 #[M.val] (w.alloc (objP M)) fun e w' => ∃ m : MPr, e = .returned m.val ∧ m.pr = M.pr ∧ m.lies w' ∧ Below (w.alloc (objP M)).heap.size (w.alloc (objP M)) w' :=
    (copy_any M _ (hl.later hb) hs).mono fun e w' ⟨N, he, hc, hb'⟩ => ⟨N, he, hc.pr.symm, hc.lies (hl.later hb), hb'⟩
  have cB : ∀ wx va vc va' vc', Rows wx 1 va vc (L.map u8c) → Rows wx 1 va' vc' (L.map u8c) → Calls Tryz.prog 13 #[.slice va n vc, .slice va' n vc'] wx fun e w' => e = .returned (.bool true) ∧ w' = wx := fun wx va vc va' vc' h1 h2 => by
    have h3 := rows_row h1 hbt
    have h4 := rows_row h2 hbt
    rw [hn] at h3 h4
    exact octet.same_any va va' n n vc vc' _ _ wx h3 h4 true ((octet.sameB_iff _ _ _ _ (fl_lt hbt) (fl_lt hbt)).mpr ⟨rfl, fun _ _ => rfl⟩)
  have cQ : ∀ (m : MPr) (wx : World), m.pr = M.pr → m.lies wx → M.lies wx → Calls Tryz.prog 14 #[m.val, M.val] wx _ := fun m wx h1 h2 h3 => rsame_any m M wx h2 h3 true ⟨fun _ => h1, fun _ => rfl⟩
  have cP : ∀ wx, prog.Forms wx → Calls Tryz.prog 15 #[] wx _ := fun wx h => speaks_any h
  have hlH : Hid (∀ wx, Below w.heap.size w wx → M.lies wx) := fun wx h => hl.later h
  have hFH : Hid (∀ wx, Below w.heap.size w wx → prog.Forms wx) := fun wx h => hF.later h
  clear hl hs hF hbt hn
  go_enter Tryz.func3, Tryz.ntmps3
  go_wp2_with (first
    | (go_at_call 5; (with_reducible refine c1.mono ?_); rintro e w1 ⟨m, rfl, hm, hl1, b1⟩; (have hmH : Hid (m.pr = M.pr) := hm); clear hm; (have B1 : Hid (Below w.heap.size w (w1.alloc (objP m))) := bthen (bthen hb b1) (boxed _ _)); (have hl2 : Hid (m.lies (w1.alloc (objP m))) := hl1.later (boxed _ _)); clear hl1; (have bM := boxP_new w1 m); (have bQ := (bP.later b1).later (boxed w1 (objP m))); (have z1 := b1.size); (have zz : w1.heap.size < (w1.alloc (objP m)).heap.size := by simp only [World.size_alloc]; omega))
    | (go_at_call 6; (with_reducible refine (cE m _ hmH.out hl2.out (hFH.out _ B1.out)).mono ?_); rintro e w2 ⟨va, vc, rfl, hR2, b2⟩; (have hRa : Hid (Rows w2 1 va vc (L.map u8c)) := hR2); clear hR2; (have D2 := b2); (have C2 := bthen B1.out D2); obtain ⟨p0, p1, p2, p3⟩ := bQ.later D2; obtain ⟨q0, q1, q2, q3⟩ := bM.later D2; (have y2 := D2.size))
    | (go_at_call 7; (with_reducible refine (cR _ (hlH.out _ C2)).mono ?_); rintro e w3 ⟨va', vc', rfl, hR3, b3⟩; (have hRb : Hid (Rows w3 1 va' vc' (L.map u8c)) := hR3); clear hR3; (have hRc : Hid (Rows w3 1 va vc (L.map u8c)) := hRa.out.later b3); (have D3 := bthen D2 b3); (have C3 := bthen B1.out D3); clear p0 p1 p2 p3 q0 q1 q2 q3; obtain ⟨p0, p1, p2, p3⟩ := bQ.later D3; obtain ⟨q0, q1, q2, q3⟩ := bM.later D3; (have y3 := D3.size))
    | (go_at_call 8; (with_reducible refine (cL m _ hmH.out (hl2.out.later D3) (hFH.out _ C3)).mono ?_); rintro e w4 ⟨rfl, b4⟩; (have D4 := bthen D3 b4); (have C4 := bthen B1.out D4); clear p0 p1 p2 p3 q0 q1 q2 q3; obtain ⟨p0, p1, p2, p3⟩ := bQ.later D4; obtain ⟨q0, q1, q2, q3⟩ := bM.later D4; (have y4 := D4.size))
    | (go_at_call 9; (with_reducible refine (cS m _ hmH.out (hl2.out.later D4) (hFH.out _ C4)).mono ?_); rintro e w5 ⟨rfl, b5⟩; (have D5 := bthen D4 b5); (have C5 := bthen B1.out D5); clear p0 p1 p2 p3 q0 q1 q2 q3; obtain ⟨p0, p1, p2, p3⟩ := bQ.later D5; obtain ⟨q0, q1, q2, q3⟩ := bM.later D5; (have y5 := D5.size))
    | (go_at_call 10; (with_reducible refine (cT _ (hlH.out _ C5)).mono ?_); rintro e w6 ⟨rfl, b6⟩; (have D6 := bthen D5 b6); (have C6 := bthen B1.out D6); clear p0 p1 p2 p3 q0 q1 q2 q3; obtain ⟨p0, p1, p2, p3⟩ := bQ.later D6; obtain ⟨q0, q1, q2, q3⟩ := bM.later D6; (have y6 := D6.size))
    | (go_at_call 11; (with_reducible refine (cW m _ hmH.out (hl2.out.later D6) (hFH.out _ C6)).mono ?_); rintro e w7 ⟨rfl, b7⟩; (have D7 := bthen D6 b7); (have C7 := bthen B1.out D7); clear p0 p1 p2 p3 q0 q1 q2 q3; obtain ⟨p0, p1, p2, p3⟩ := bQ.later D7; obtain ⟨q0, q1, q2, q3⟩ := bM.later D7; (have y7 := D7.size))
    | (go_at_call 12; (with_reducible refine (cV _ (hlH.out _ C7)).mono ?_); rintro e w8 ⟨rfl, b8⟩; (have D8 := bthen D7 b8); (have C8 := bthen B1.out D8); clear p0 p1 p2 p3 q0 q1 q2 q3; obtain ⟨p0, p1, p2, p3⟩ := bQ.later D8; obtain ⟨q0, q1, q2, q3⟩ := bM.later D8; (have y8 := D8.size); (have t8 := bthen (bthen (bthen (bthen b4 b5) b6) b7) b8); (have hRd : Hid (Rows w8 1 va vc (L.map u8c)) := hRc.out.later t8); (have hRe : Hid (Rows w8 1 va' vc' (L.map u8c)) := hRb.out.later t8))
    | (go_at_call 13; (with_reducible refine (cB _ _ _ _ _ hRd.out hRe.out).mono ?_); rintro e w9 ⟨rfl, hw9⟩; replace hw9 := hw9.symm; subst hw9)
    | (go_at_call 14; (with_reducible refine (cQ m _ hmH.out (hl2.out.later D8) (hlH.out _ C8)).mono ?_); rintro e w10 ⟨rfl, b10⟩; (have C10 := bthen C8 b10))
    | (go_at_call 15; (with_reducible refine (cP _ (hFH.out _ C10)).mono ?_); rintro e w11 ⟨rfl, b11⟩; (have C11 := bthen C10 b11)))
  go_ret
  exact ⟨rfl, C11⟩
theorem encodes_any (M : MPr) (hl : M.lies w) (hs : M.sz) (hF : prog.Forms w) (f pc : Int) (hf1 : -9223372036854775808 ≤ f) (hp1 : -9223372036854775808 ≤ pc) :
    Calls Tryz.prog 3 #[M.val, .int .i64 f, .int .i64 pc] w fun e w' => e = .returned (.bool true) ∧ Below w.heap.size w w' := by
  by_cases hr : (chk insP M.pr).1 = 0
  · have hok := right_mem hr hl
    have hsm := enc_small hok
    have hEm : ∀ m : MPr, m.pr = M.pr → encB m = encB M := fun m h => by rw [encB_pr, encB_pr, h]
    have hrm : ∀ m : MPr, m.pr = M.pr → (chk insP m.pr).1 = 0 := fun m h => by rw [h]; exact hr
    obtain ⟨B, C, hA⟩ : ∃ B C, chk insP M.pr = (0, B, C) := ⟨_, _, by rw [← hr]⟩
    have hlen : (fullB M.pr).length = (encB M).length + 4 := by rw [← full_M, List.length_append]; rfl
    have hwb : ∃ R E : Int, (∀ (m : MPr) (wx : World), m.pr = M.pr → m.lies wx → prog.Forms wx → Calls Tryz.prog 11 #[m.val, .int .i64 f, .int .i64 pc] wx fun e w' => e = .returned (.tuple #[.int .i64 R, .int .i64 E]) ∧ Below wx.heap.size wx w') ∧
        (∀ wx, M.lies wx → Calls Tryz.prog 12 #[M.val, .int .i64 f, .int .i64 pc] wx fun e w' => e = .returned (.tuple #[.int .i64 R, .int .i64 E]) ∧ Below wx.heap.size wx w') := where_both2 M w hl hr f pc hf1 hp1
    obtain ⟨R, E, hW, hV⟩ := hwb
    refine encodes_walk M hl hs hF f pc 0 R E ((sumOf (fl (encB M)) (encB M).length : Nat) : Int) (fullB M.pr) (full_bt _) ((encB M).length + 4) hlen (by omega) ?_ ?_ ?_ ?_ ?_ hW hV
    · intro m wx h1 h2 h3
      refine (encode_full m h2 h3 M.pr h1 B C hA ((encB M).length + 4) hlen).mono fun e w' ⟨va, vc, he, hR, _, hb⟩ => ⟨va, vc, he, hR, hb⟩
    · intro wx h1
      refine (rencode_ok M h1 hr).mono fun e w' ⟨v, he, hv, hb⟩ => ?_
      rw [full_M] at hv
      obtain ⟨_, _, va, vc, rfl, ho⟩ := hv
      exact ⟨va, vc, by rw [he, hlen], own_rows ho (u8_len _), hb⟩
    · intro m wx h1 h2 h3
      have := length_ok m h2 h3 (hrm m h1)
      rw [hEm m h1] at this
      exact this
    · intro m wx h1 h2 h3
      have := csum_ok m h2 h3 (hrm m h1)
      rw [hEm m h1] at this
      exact this
    · intro wx h1
      exact rsum_ok M h1 hr
  · have hrm : ∀ m : MPr, m.pr = M.pr → ¬ (chk insP m.pr).1 = 0 := fun m h => by rw [h]; exact hr
    obtain ⟨A, B, C, hA⟩ : ∃ A B C, chk insP M.pr = (A, B, C) := ⟨_, _, _, rfl⟩
    have hA0 : A ≠ 0 := fun q => hr (by rw [hA]; exact q)
    have nil : ∀ w' : World, Rows w' 1 none 0 (([] : List Nat).map u8c) := fun w' => ⟨by simp, by decide, by simp, .inl rfl⟩
    refine encodes_walk M hl hs hF f pc 3 0 3 0 [] (fun b hb => by simp at hb) 0 rfl (by decide) ?_ ?_ ?_ ?_ ?_ ?_ ?_
    · intro m wx h1 h2 h3
      exact (encode_bad h2 h3 A B C (by rw [h1]; exact hA) hA0).mono fun e w' ⟨he, hb⟩ => ⟨none, 0, he, nil _, hb⟩
    · intro wx h1
      exact (rencode_bad M h1 hr).mono fun e w' ⟨he, hb⟩ => ⟨none, 0, he, nil _, hb⟩
    · intro m wx h1 h2 h3
      exact length_bad m h2 h3 (hrm m h1)
    · intro m wx h1 h2 h3
      exact csum_bad m h2 h3 (hrm m h1)
    · intro wx h1
      exact rsum_bad M h1 hr
    · intro m wx h1 h2 h3
      exact where_bad m h2 h3 f pc A B C (by rw [h1]; exact hA) hA0
    · intro wx h1
      exact rwhere_bad M h1 f pc hr
end
end Go.Proofs.YtonkcnaijcpfdaaGreatDoor.pg
