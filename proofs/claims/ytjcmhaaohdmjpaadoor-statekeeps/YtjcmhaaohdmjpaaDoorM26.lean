/- Can a goroutine be so where it stands: the document's own goroutine. -/
import Derived.Test.YtjcmhaaohdmjpaaDoorM22
import Derived.Test.YtjcmhaaohdmjpaaDoorM25
namespace Go.Proofs.YtjcmhaaohdmjpaaDoor.pg
open Go.ChangeShapes Go.WideShapes Go.ChangeAt Go.RowKit
set_option linter.unusedVariables false
set_option linter.unusedSimpArgs false
set_option maxRecDepth 100000
set_option maxHeartbeats 4000000 in
theorem rgor_any (M : MPr) (g : Gr) (hok : (chk insP M.pr).1 = 0) (hg : g.wf) (w : World) (hM : M.lies w) (R : Bool) (hR : Hid (R = true ↔ stands M.pr g)) :
    Calls Tryd.prog 29 #[M.val, g.val] w fun e w' => e = .returned (.bool R) ∧ Below w.heap.size w w' := by
  have hlen := rows_len hM.2.2.1
  have hlenM : ((M.fns.map MFn.fn).length : Int) = M.fns.length := by rw [List.length_map]
  have hE := pg_new w M g
  have hMH : Hid (M.lies w) := hM
  have hl := hg.2.2.2.2.1
  go_enter Tryd.func29, Tryd.ntmps29
  go_upto_region 1 with fail
  generalize (w.alloc (objP M)).alloc (objG g) = W at *
  have hEH : Hid (PG w W M g) := hE
  obtain ⟨p0, p1, p2, p3⟩ := hE.p
  have z0 := hE.gb.c0
  have z1 := hE.gb.c1
  have z2 := hE.gb.c2
  have s0 := fun s => bey_cell z0 s
  have s1 := fun s => bey_cell z1 s
  have s2 := fun s => bey_cell z2 s
  have s3 := fun s => bey_cell p3 s
  have hne := bey_some W
  clear hE hM hg p0 p1 p2
  by_cases t0 : g.st < 1
  · have e := Rfalse hR fun q => by rcases q.2.2.2.2 with z | z | z | z <;> omega
    subst e
    have d0 : decide (g.st < 1) = true := decide_eq_true (by omega)
    clear hR
    go_wp2_with fail
    refine wp_region_cls (Bey W) (by kernel_rfl) (by kernel_rfl) (bey_drew W) ?_
    repeat (go_big_quiet_step (fail))
    refine wpQuiet_nil ?_
    intro _ hw'
    obtain ⟨sq, hw''⟩ := hw'
    subst hw''
    clear s0 s1 s2 s3 hne
    go_wp2
    go_ret
    exact ⟨rfl, bthen hEH.out.b sq.h⟩
  by_cases t1 : 5 < g.st
  · have e := Rfalse hR fun q => by rcases q.2.2.2.2 with z | z | z | z <;> omega
    subst e
    have d0 : decide (g.st < 1) = false := decide_eq_false (by omega)
    have d1 : decide (5 < g.st) = true := decide_eq_true (by omega)
    clear hR
    go_wp2_with fail
    refine wp_region_cls (Bey W) (by kernel_rfl) (by kernel_rfl) (bey_drew W) ?_
    repeat (go_big_quiet_step (fail))
    refine wpQuiet_nil ?_
    intro _ hw'
    obtain ⟨sq, hw''⟩ := hw'
    subst hw''
    clear s0 s1 s2 s3 hne
    go_wp2
    go_ret
    exact ⟨rfl, bthen hEH.out.b sq.h⟩
  by_cases t2 : g.fn < 0
  · have e := Rfalse hR fun q => by have := q.1; omega
    subst e
    have d0 : decide (g.st < 1) = false := decide_eq_false (by omega)
    have d1 : decide (5 < g.st) = false := decide_eq_false (by omega)
    have d2 : decide (g.fn < 0) = true := decide_eq_true (by omega)
    clear hR
    go_wp2_with fail
    refine wp_region_cls (Bey W) (by kernel_rfl) (by kernel_rfl) (bey_drew W) ?_
    repeat (go_big_quiet_step (fail))
    refine wpQuiet_nil ?_
    intro _ hw'
    obtain ⟨sq, hw''⟩ := hw'
    subst hw''
    clear s0 s1 s2 s3 hne
    go_wp2
    go_ret
    exact ⟨rfl, bthen hEH.out.b sq.h⟩
  by_cases t3 : (M.fns.length : Int) ≤ g.fn
  · have e := Rfalse hR fun q => by have := q.2.1; have h2 : g.fn < ((M.fns.map MFn.fn).length : Int) := this; omega
    subst e
    have d0 : decide (g.st < 1) = false := decide_eq_false (by omega)
    have d1 : decide (5 < g.st) = false := decide_eq_false (by omega)
    have d2 : decide (g.fn < 0) = false := decide_eq_false (by omega)
    have d3 : decide ((M.fns.length : Int) ≤ g.fn) = true := decide_eq_true (by omega)
    clear hR
    go_wp2_with fail
    refine wp_region_cls (Bey W) (by kernel_rfl) (by kernel_rfl) (bey_drew W) ?_
    repeat (go_big_quiet_step (fail))
    refine wpQuiet_nil ?_
    intro _ hw'
    obtain ⟨sq, hw''⟩ := hw'
    subst hw''
    clear s0 s1 s2 s3 hne
    go_wp2
    go_ret
    exact ⟨rfl, bthen hEH.out.b sq.h⟩
  by_cases t4 : g.pc < 0
  · have e := Rfalse hR fun q => by have := q.2.2.1; omega
    subst e
    have d0 : decide (g.st < 1) = false := decide_eq_false (by omega)
    have d1 : decide (5 < g.st) = false := decide_eq_false (by omega)
    have d2 : decide (g.fn < 0) = false := decide_eq_false (by omega)
    have d3 : decide ((M.fns.length : Int) ≤ g.fn) = false := decide_eq_false (by omega)
    have d4 : decide (g.pc < 0) = true := decide_eq_true (by omega)
    clear hR
    go_wp2_with fail
    refine wp_region_cls (Bey W) (by kernel_rfl) (by kernel_rfl) (bey_drew W) ?_
    repeat (go_big_quiet_step (fail))
    refine wpQuiet_nil ?_
    intro _ hw'
    obtain ⟨sq, hw''⟩ := hw'
    subst hw''
    clear s0 s1 s2 s3 hne
    go_wp2
    go_ret
    exact ⟨rfl, bthen hEH.out.b sq.h⟩
  obtain ⟨F, hFi, hFm⟩ : ∃ F, M.fns[g.fn.toNat]? = some F ∧ F ∈ M.fns := get_lt _ _ (by omega)
  have eF := fnAt_M hFi
  have hc : GoodC F.regs F.code := good_of hok F.fn (List.mem_map.mpr ⟨F, hFm, rfl⟩)
  have hR2 : Hid (R = true ↔ standF F.fn g) := by
    show _ ↔ _
    rw [hR.out]
    unfold stands
    rw [eF]
    exact ⟨fun q => q.2.2, fun q => ⟨by omega, by show g.fn < ((M.fns.map MFn.fn).length : Int); omega, q⟩⟩
  have hlF := hMH.out.2.2.2.2.2.2 F hFm
  have hclen := rows_len hlF.1
  obtain ⟨fb, fo, hfix, hfb, fc0, fc1, fc2, fc3⟩ := fn_ix hMH.out.2.2.1 g.fn.toNat F hFi
  rw [show ((g.fn.toNat : Nat) : Int) = g.fn by omega] at hfix
  have lat : ∀ {b q : Nat} {v : Value}, b < w.heap.size → w.cell? ⟨b, q, none⟩ = some v → ∀ w', Below w.heap.size w w' → w'.cell? ⟨b, q, none⟩ = some v := fun {b q v} hb hv w' hw' => (hw'.cell (p := ⟨b, q, none⟩) hb).trans hv
  have f1 := lat hfb fc1 W hEH.out.b
  have f2 := lat hfb fc2 W hEH.out.b
  have s4 := fun s => bey_cell f2 s
  have r0 := hc.r0
  have r8 := hc.r8
  have d0 : decide (g.st < 1) = false := decide_eq_false (by omega)
  have d1 : decide (5 < g.st) = false := decide_eq_false (by omega)
  have d2 : decide (g.fn < 0) = false := decide_eq_false (by omega)
  have d3 : decide ((M.fns.length : Int) ≤ g.fn) = false := decide_eq_false (by omega)
  have d4 : decide (g.pc < 0) = false := decide_eq_false (by omega)
  by_cases t5 : (F.code.length : Int) ≤ g.pc
  · have e := Rfalse hR2 fun q => by have := q.2.1; have h2 : g.pc < (F.code.length : Int) := this; omega
    subst e
    have d5 : decide ((F.code.length : Int) ≤ g.pc) = true := decide_eq_true t5
    clear hR hR2 lat hc hlF
    go_wp2_with fail
    refine wp_region_cls (Bey W) (by kernel_rfl) (by kernel_rfl) (bey_drew W) ?_
    repeat (go_big_quiet_step (fail))
    refine wpQuiet_nil ?_
    intro _ hw'
    obtain ⟨sq, hw''⟩ := hw'
    subst hw''
    clear s0 s1 s2 s3 s4 hne
    go_wp2
    go_ret
    exact ⟨rfl, bthen hEH.out.b sq.h⟩
  have d5 : decide ((F.code.length : Int) ≤ g.pc) = false := decide_eq_false t5
  obtain ⟨m1, m2⟩ := insAt_mem (code := F.code) (pc := g.pc) (by omega) (by omega)
  obtain ⟨ib, io, hix, hib, ic0, _⟩ := ins_ix hlF.1 g.pc.toNat _ m1
  rw [show ((g.pc.toNat : Nat) : Int) = g.pc by omega] at hix
  have hop := (hlF.2.2.1 _ m2).1
  have hR3 : Hid (R = true ↔ (((g.st = 1 ∨ g.st = 2) ∧ g.why = 0 ∧ tz g.rg F.regs.toNat) ∨ (g.st = 5 ∧ g.why = 0 ∧ tz g.rg F.regs.toNat ∧ locP (insAt F.code g.pc).op) ∨ (g.st = 3 ∧ g.why = 0 ∧ tz g.rg 0 ∧ (insAt F.code g.pc).op = 45) ∨ (g.st = 4 ∧ tz g.rg 0 ∧ failB (insAt F.code g.pc).op g.why))) := by
    show _ ↔ _
    rw [hR2.out]
    exact ⟨fun q => q.2.2, fun q => ⟨by omega, by show g.pc < (F.code.length : Int); omega, q⟩⟩
  have latH : Hid (∀ {b q : Nat} {v : Value}, b < w.heap.size → w.cell? ⟨b, q, none⟩ = some v → ∀ w', Below w.heap.size w w' → w'.cell? ⟨b, q, none⟩ = some v) := lat
  have fc1H : Hid (w.cell? ⟨fb, fo + 1, none⟩ = some (.int .i64 F.regs)) := fc1
  have fc2H : Hid (w.cell? ⟨fb, fo + 2, none⟩ = some (.slice F.ca F.code.length F.ccap)) := fc2
  have ic0H : Hid (w.cell? ⟨ib, io, none⟩ = some (.int .i64 (insAt F.code g.pc).op)) := ic0
  have opH : Hid (I64 (insAt F.code g.pc).op) := hop
  clear hR hR2 lat hc hlF hFi hFm eF hok m1 m2 ic0 fc0 fc1 fc2 fc3 hop hMH
  go_wp2_with fail
  refine wp_region_cls (Bey W) (by kernel_rfl) (by kernel_rfl) (bey_drew W) ?_
  repeat (go_big_quiet_step (fail))
  refine wpQuiet_nil ?_
  intro _ hw'
  obtain ⟨sq, hw''⟩ := hw'
  subst hw''
  have hV : Hid (PG w sq.w M g) := hEH.out.later sq.h
  clear s0 s1 s2 s3 s4 hne p3 z0 z1 z2 f1 f2 d0 d1 d2 d3 d4 d5 hEH
  generalize sq.w = V at *
  obtain ⟨p0, p1, p2, p3⟩ := hV.out.p
  have z0 := hV.out.gb.c0
  have z1 := hV.out.gb.c1
  have z2 := hV.out.gb.c2
  have z3 := hV.out.gb.c3
  have f1 := latH.out hfb fc1H.out V hV.out.b
  have f2 := latH.out hfb fc2H.out V hV.out.b
  generalize hop0 : (insAt F.code g.pc).op = op at *
  clear hop0
  obtain ⟨r, hr, hrr⟩ : ∃ r : Nat, r ≤ 8 ∧ Hid (((g.st = 3 ∨ g.st = 4) ∧ r = 0) ∨ (¬ (g.st = 3 ∨ g.st = 4) ∧ r = F.regs.toNat)) := by
    by_cases c : g.st = 3 ∨ g.st = 4
    · exact ⟨0, by omega, .inl ⟨c, rfl⟩⟩
    · exact ⟨F.regs.toNat, by omega, .inr ⟨c, rfl⟩⟩
  have hR4 : Hid (R = true ↔ (tz g.rg r ∧ (((g.st = 1 ∨ g.st = 2) ∧ g.why = 0) ∨ (g.st = 5 ∧ g.why = 0 ∧ locP op) ∨ (g.st = 3 ∧ g.why = 0 ∧ op = 45) ∨ (g.st = 4 ∧ failB op g.why)))) := by
    show _ ↔ _
    rw [hR3.out]
    rcases hrr.out with ⟨c, e⟩ | ⟨c, e⟩
    · rw [e]
      constructor
      · rintro (q | q | q | q)
        · omega
        · omega
        · exact ⟨q.2.2.1, .inr (.inr (.inl ⟨q.1, q.2.1, q.2.2.2⟩))⟩
        · exact ⟨q.2.1, .inr (.inr (.inr ⟨q.1, q.2.2⟩))⟩
      · rintro ⟨z, q | q | q | q⟩
        · omega
        · omega
        · exact .inr (.inr (.inl ⟨q.1, q.2.1, z, q.2.2⟩))
        · exact .inr (.inr (.inr ⟨q.1, z, q.2⟩))
    · rw [e]
      constructor
      · rintro (q | q | q | q)
        · exact ⟨q.2.2, .inl ⟨q.1, q.2.1⟩⟩
        · exact ⟨q.2.2.1, .inr (.inl ⟨q.1, q.2.1, q.2.2.2⟩)⟩
        · omega
        · omega
      · rintro ⟨z, q | q | q | q⟩
        · exact .inl ⟨q.1, q.2, z⟩
        · exact .inr (.inl ⟨q.1, q.2.1, z, q.2.2⟩)
        · omega
        · omega
  have hslot : Hid (∀ (v : Int), v = r → True) := fun _ _ => trivial
  clear hR3
  have hFr : Hid (F.regs = (F.regs.toNat : Int)) := by show _ = _; omega
  clear hlenM hslot
  by_cases hq1 : g.st = 1
  · have er : Hid (r = F.regs.toNat) := by show _ = _; rcases hrr.out with q | q <;> omega
    rw [hq1] at z0
    clear hrr
    go_upto_region 7 with fail
    have hcl : ∀ k : Nat, k < 8 → V.cell? ⟨w.heap.size + 1, 4 + k, none⟩ = some (.int .i64 (g.rg.getD k 0)) := fun k hk => by
      have := hV.out.gb.reg hl (k : Int) (by omega) (by omega)
      rwa [Int.toNat_natCast] at this
    have hclH : Hid _ := hcl
    have hix8 : Hid (∀ k : Nat, k < 8 → ∀ wx, (Instr.indexAt 28 (.pointer (some ⟨w.heap.size + 1, 4, none⟩)) (.int .i64 (k : Int))).run Tryd.prog wx = .ok (.pointer (some ⟨w.heap.size + 1, 4 + k, none⟩)) wx) := fun k hk => by
      have := ix8 (w.heap.size + 1) (k : Int) (by omega) (by omega)
      rwa [Int.toNat_natCast] at this
    clear hcl
    go_loopw [6] (fun u wr => ∃ k : Nat, r ≤ k ∧ k ≤ 8 ∧ u = .int .i64 (k : Int) ∧ wr = V ∧ Hid (∀ i, r ≤ i → i < k → g.rg.getD i 0 = 0)) (fun u _ => 8 - (intOf u).toNat)
    case atStart => exact ⟨r, Nat.le_refl _, hr, by rw [er.out, ← hFr.out], rfl, fun i h1 h2 => by omega⟩
    case round =>
      obtain ⟨k, hrk, hk, rfl, rfl, hd⟩ := hrel
      by_cases hlt : k < 8
      · have hkI : (k : Int) < 8 := by omega
        have hcx := hclH.out k hlt
        have hxx := hix8.out k hlt
        by_cases q0 : g.rg.getD k 0 = 0
        · have hd2 : Hid (∀ i, r ≤ i → i < k + 1 → g.rg.getD i 0 = 0) := fun i h1 h2 => by
            by_cases e : i = k
            · rw [e]; exact q0
            · exact hd.out i h1 (by omega)
          rw [q0] at hcx
          clear q0 hd
          go_wp2
          go_roundw
          case rel => exact ⟨k + 1, by omega, by omega, by go_num, trivial, hd2⟩
          case measure => simp [intOf]; omega
        · have e := Rfalse hR4 fun z => q0 (z.1 k hrk)
          subst e
          have d : (g.rg.getD k 0 != 0) = true := by simpa using q0
          generalize g.rg.getD k 0 = v at *
          clear hR4 q0 hd
          go_wp2
          go_ret
          exact ⟨rfl, hV.out.b⟩
      · have hk8 : k = 8 := by omega
        subst hk8
        have htz : Hid (tz g.rg r) := fun i hi => by
          by_cases c : i < 8
          · exact hd.out i hi c
          · rw [List.getD_eq_getElem?_getD, List.getElem?_eq_none (by omega)]; rfl
        have hkI : ¬ (((8 : Nat) : Int) < 8) := by omega
        have hR5 : Hid (R = true ↔ (((g.st = 1 ∨ g.st = 2) ∧ g.why = 0) ∨ (g.st = 5 ∧ g.why = 0 ∧ locP op) ∨ (g.st = 3 ∧ g.why = 0 ∧ op = 45) ∨ (g.st = 4 ∧ failB op g.why))) := by
          show _ ↔ _
          rw [hR4.out]
          exact ⟨fun q => q.2, fun q => ⟨htz.out, q⟩⟩
        have i0 := latH.out hib ic0H.out wr hV.out.b
        have s0 := fun s => bey_cell p3 s
        have s1 := fun s => bey_cell z1 s
        have s2 := fun s => bey_cell z2 s
        have s3 := fun s => bey_cell f2 s
        have s4 := fun s => bey_cell i0 s
        have hne := bey_some wr
        clear hR4 hd htz hlt hk hrk hclH hix8
        go_wp2_with fail
        refine wp_region_cls (Bey wr) (by kernel_rfl) (by kernel_rfl) (bey_drew wr) ?_
        repeat (go_big_quiet_step (fail))
        refine wpQuiet_nil ?_
        intro _ hw'
        obtain ⟨sq2, hw''⟩ := hw'
        subst hw''
        have hU : Hid (PG w sq2.w M g) := hV.out.later sq2.h
        clear s0 s1 s2 s3 s4 hne z0 z1 z2 z3 p0 p1 p2 p3 f1 f2 i0 hV
        generalize sq2.w = U at *
        have z0 := hU.out.gb.c0
        have z3 := hU.out.gb.c3
        have cL : ∀ Q, prog.loc op = Q → Calls Tryd.prog 36 #[.int .i64 op] U _ := fun Q hQ => prog.reflocal_any op opH.out.1 opH.out.2 U Q hQ
        have cF : ∀ (Q : Bool), Hid (Q = true ↔ failB op g.why) → Calls Tryd.prog 45 #[.int .i64 op, .int .i64 g.why] U fun e w' => e = .returned (.bool Q) ∧ w' = U := fun Q hQ => failing_any _ _ Q hQ U
        generalize g.why = why at *
        rw [hq1] at hR5 z0
        clear hq1
        by_cases y0 : why = 0
        · subst y0
          have e := Rtrue hR5 (.inl ⟨by omega, rfl⟩)
          subst e
          clear hR5 cF cL
          go_wp2
          go_ret
          exact ⟨rfl, hU.out.b⟩
        · have e := Rfalse hR5 fun q => by rcases q with q | q | q | q <;> omega
          subst e
          have d : (why == 0) = false := by simpa using y0
          clear hR5 cF cL y0
          go_wp2
          go_ret
          exact ⟨rfl, hU.out.b⟩
  by_cases hq2 : g.st = 2
  · have er : Hid (r = F.regs.toNat) := by show _ = _; rcases hrr.out with q | q <;> omega
    rw [hq2] at z0
    clear hrr
    go_upto_region 7 with fail
    have hcl : ∀ k : Nat, k < 8 → V.cell? ⟨w.heap.size + 1, 4 + k, none⟩ = some (.int .i64 (g.rg.getD k 0)) := fun k hk => by
      have := hV.out.gb.reg hl (k : Int) (by omega) (by omega)
      rwa [Int.toNat_natCast] at this
    have hclH : Hid _ := hcl
    have hix8 : Hid (∀ k : Nat, k < 8 → ∀ wx, (Instr.indexAt 28 (.pointer (some ⟨w.heap.size + 1, 4, none⟩)) (.int .i64 (k : Int))).run Tryd.prog wx = .ok (.pointer (some ⟨w.heap.size + 1, 4 + k, none⟩)) wx) := fun k hk => by
      have := ix8 (w.heap.size + 1) (k : Int) (by omega) (by omega)
      rwa [Int.toNat_natCast] at this
    clear hcl
    go_loopw [6] (fun u wr => ∃ k : Nat, r ≤ k ∧ k ≤ 8 ∧ u = .int .i64 (k : Int) ∧ wr = V ∧ Hid (∀ i, r ≤ i → i < k → g.rg.getD i 0 = 0)) (fun u _ => 8 - (intOf u).toNat)
    case atStart => exact ⟨r, Nat.le_refl _, hr, by rw [er.out, ← hFr.out], rfl, fun i h1 h2 => by omega⟩
    case round =>
      obtain ⟨k, hrk, hk, rfl, rfl, hd⟩ := hrel
      by_cases hlt : k < 8
      · have hkI : (k : Int) < 8 := by omega
        have hcx := hclH.out k hlt
        have hxx := hix8.out k hlt
        by_cases q0 : g.rg.getD k 0 = 0
        · have hd2 : Hid (∀ i, r ≤ i → i < k + 1 → g.rg.getD i 0 = 0) := fun i h1 h2 => by
            by_cases e : i = k
            · rw [e]; exact q0
            · exact hd.out i h1 (by omega)
          rw [q0] at hcx
          clear q0 hd
          go_wp2
          go_roundw
          case rel => exact ⟨k + 1, by omega, by omega, by go_num, trivial, hd2⟩
          case measure => simp [intOf]; omega
        · have e := Rfalse hR4 fun z => q0 (z.1 k hrk)
          subst e
          have d : (g.rg.getD k 0 != 0) = true := by simpa using q0
          generalize g.rg.getD k 0 = v at *
          clear hR4 q0 hd
          go_wp2
          go_ret
          exact ⟨rfl, hV.out.b⟩
      · have hk8 : k = 8 := by omega
        subst hk8
        have htz : Hid (tz g.rg r) := fun i hi => by
          by_cases c : i < 8
          · exact hd.out i hi c
          · rw [List.getD_eq_getElem?_getD, List.getElem?_eq_none (by omega)]; rfl
        have hkI : ¬ (((8 : Nat) : Int) < 8) := by omega
        have hR5 : Hid (R = true ↔ (((g.st = 1 ∨ g.st = 2) ∧ g.why = 0) ∨ (g.st = 5 ∧ g.why = 0 ∧ locP op) ∨ (g.st = 3 ∧ g.why = 0 ∧ op = 45) ∨ (g.st = 4 ∧ failB op g.why))) := by
          show _ ↔ _
          rw [hR4.out]
          exact ⟨fun q => q.2, fun q => ⟨htz.out, q⟩⟩
        have i0 := latH.out hib ic0H.out wr hV.out.b
        have s0 := fun s => bey_cell p3 s
        have s1 := fun s => bey_cell z1 s
        have s2 := fun s => bey_cell z2 s
        have s3 := fun s => bey_cell f2 s
        have s4 := fun s => bey_cell i0 s
        have hne := bey_some wr
        clear hR4 hd htz hlt hk hrk hclH hix8
        go_wp2_with fail
        refine wp_region_cls (Bey wr) (by kernel_rfl) (by kernel_rfl) (bey_drew wr) ?_
        repeat (go_big_quiet_step (fail))
        refine wpQuiet_nil ?_
        intro _ hw'
        obtain ⟨sq2, hw''⟩ := hw'
        subst hw''
        have hU : Hid (PG w sq2.w M g) := hV.out.later sq2.h
        clear s0 s1 s2 s3 s4 hne z0 z1 z2 z3 p0 p1 p2 p3 f1 f2 i0 hV
        generalize sq2.w = U at *
        have z0 := hU.out.gb.c0
        have z3 := hU.out.gb.c3
        have cL : ∀ Q, prog.loc op = Q → Calls Tryd.prog 36 #[.int .i64 op] U _ := fun Q hQ => prog.reflocal_any op opH.out.1 opH.out.2 U Q hQ
        have cF : ∀ (Q : Bool), Hid (Q = true ↔ failB op g.why) → Calls Tryd.prog 45 #[.int .i64 op, .int .i64 g.why] U fun e w' => e = .returned (.bool Q) ∧ w' = U := fun Q hQ => failing_any _ _ Q hQ U
        generalize g.why = why at *
        rw [hq2] at hR5 z0
        clear hq2
        by_cases y0 : why = 0
        · subst y0
          have e := Rtrue hR5 (.inl ⟨by omega, rfl⟩)
          subst e
          clear hR5 cF cL
          go_wp2
          go_ret
          exact ⟨rfl, hU.out.b⟩
        · have e := Rfalse hR5 fun q => by rcases q with q | q | q | q <;> omega
          subst e
          have d : (why == 0) = false := by simpa using y0
          clear hR5 cF cL y0
          go_wp2
          go_ret
          exact ⟨rfl, hU.out.b⟩
  by_cases hq5 : g.st = 5
  · have er : Hid (r = F.regs.toNat) := by show _ = _; rcases hrr.out with q | q <;> omega
    rw [hq5] at z0
    clear hrr
    go_upto_region 7 with fail
    have hcl : ∀ k : Nat, k < 8 → V.cell? ⟨w.heap.size + 1, 4 + k, none⟩ = some (.int .i64 (g.rg.getD k 0)) := fun k hk => by
      have := hV.out.gb.reg hl (k : Int) (by omega) (by omega)
      rwa [Int.toNat_natCast] at this
    have hclH : Hid _ := hcl
    have hix8 : Hid (∀ k : Nat, k < 8 → ∀ wx, (Instr.indexAt 28 (.pointer (some ⟨w.heap.size + 1, 4, none⟩)) (.int .i64 (k : Int))).run Tryd.prog wx = .ok (.pointer (some ⟨w.heap.size + 1, 4 + k, none⟩)) wx) := fun k hk => by
      have := ix8 (w.heap.size + 1) (k : Int) (by omega) (by omega)
      rwa [Int.toNat_natCast] at this
    clear hcl
    go_loopw [6] (fun u wr => ∃ k : Nat, r ≤ k ∧ k ≤ 8 ∧ u = .int .i64 (k : Int) ∧ wr = V ∧ Hid (∀ i, r ≤ i → i < k → g.rg.getD i 0 = 0)) (fun u _ => 8 - (intOf u).toNat)
    case atStart => exact ⟨r, Nat.le_refl _, hr, by rw [er.out, ← hFr.out], rfl, fun i h1 h2 => by omega⟩
    case round =>
      obtain ⟨k, hrk, hk, rfl, rfl, hd⟩ := hrel
      by_cases hlt : k < 8
      · have hkI : (k : Int) < 8 := by omega
        have hcx := hclH.out k hlt
        have hxx := hix8.out k hlt
        by_cases q0 : g.rg.getD k 0 = 0
        · have hd2 : Hid (∀ i, r ≤ i → i < k + 1 → g.rg.getD i 0 = 0) := fun i h1 h2 => by
            by_cases e : i = k
            · rw [e]; exact q0
            · exact hd.out i h1 (by omega)
          rw [q0] at hcx
          clear q0 hd
          go_wp2
          go_roundw
          case rel => exact ⟨k + 1, by omega, by omega, by go_num, trivial, hd2⟩
          case measure => simp [intOf]; omega
        · have e := Rfalse hR4 fun z => q0 (z.1 k hrk)
          subst e
          have d : (g.rg.getD k 0 != 0) = true := by simpa using q0
          generalize g.rg.getD k 0 = v at *
          clear hR4 q0 hd
          go_wp2
          go_ret
          exact ⟨rfl, hV.out.b⟩
      · have hk8 : k = 8 := by omega
        subst hk8
        have htz : Hid (tz g.rg r) := fun i hi => by
          by_cases c : i < 8
          · exact hd.out i hi c
          · rw [List.getD_eq_getElem?_getD, List.getElem?_eq_none (by omega)]; rfl
        have hkI : ¬ (((8 : Nat) : Int) < 8) := by omega
        have hR5 : Hid (R = true ↔ (((g.st = 1 ∨ g.st = 2) ∧ g.why = 0) ∨ (g.st = 5 ∧ g.why = 0 ∧ locP op) ∨ (g.st = 3 ∧ g.why = 0 ∧ op = 45) ∨ (g.st = 4 ∧ failB op g.why))) := by
          show _ ↔ _
          rw [hR4.out]
          exact ⟨fun q => q.2, fun q => ⟨htz.out, q⟩⟩
        have i0 := latH.out hib ic0H.out wr hV.out.b
        have s0 := fun s => bey_cell p3 s
        have s1 := fun s => bey_cell z1 s
        have s2 := fun s => bey_cell z2 s
        have s3 := fun s => bey_cell f2 s
        have s4 := fun s => bey_cell i0 s
        have hne := bey_some wr
        clear hR4 hd htz hlt hk hrk hclH hix8
        go_wp2_with fail
        refine wp_region_cls (Bey wr) (by kernel_rfl) (by kernel_rfl) (bey_drew wr) ?_
        repeat (go_big_quiet_step (fail))
        refine wpQuiet_nil ?_
        intro _ hw'
        obtain ⟨sq2, hw''⟩ := hw'
        subst hw''
        have hU : Hid (PG w sq2.w M g) := hV.out.later sq2.h
        clear s0 s1 s2 s3 s4 hne z0 z1 z2 z3 p0 p1 p2 p3 f1 f2 i0 hV
        generalize sq2.w = U at *
        have z0 := hU.out.gb.c0
        have z3 := hU.out.gb.c3
        have cL : ∀ Q, prog.loc op = Q → Calls Tryd.prog 36 #[.int .i64 op] U _ := fun Q hQ => prog.reflocal_any op opH.out.1 opH.out.2 U Q hQ
        have cF : ∀ (Q : Bool), Hid (Q = true ↔ failB op g.why) → Calls Tryd.prog 45 #[.int .i64 op, .int .i64 g.why] U fun e w' => e = .returned (.bool Q) ∧ w' = U := fun Q hQ => failing_any _ _ Q hQ U
        generalize g.why = why at *
        rw [hq5] at hR5 z0
        clear hq5
        by_cases y0 : why = 0
        · subst y0
          have e5 : lcB op = R := by
            rw [Bool.eq_iff_iff, hR5.out]
            show decide (locP op) = true ↔ _
            rw [decide_eq_true_iff]
            exact ⟨fun q => .inr (.inl ⟨rfl, rfl, q⟩), fun q => by rcases q with q | q | q | q <;> first | omega | exact q.2.2⟩
          have xL := cL R (by rw [loc_lcB]; exact e5)
          clear hR5 cF cL e5
          go_wp2_with (go_at_call 36; (with_reducible refine xL.mono ?_); rintro e w3 ⟨rfl, rfl⟩)
          go_ret
          exact ⟨rfl, hU.out.b⟩
        · have e := Rfalse hR5 fun q => by rcases q with q | q | q | q <;> omega
          subst e
          have d : (why == 0) = false := by simpa using y0
          clear hR5 cF cL y0
          go_wp2
          go_ret
          exact ⟨rfl, hU.out.b⟩
  by_cases hq3 : g.st = 3
  · have er : Hid (r = 0) := by show _ = _; rcases hrr.out with q | q <;> omega
    rw [hq3] at z0
    clear hrr
    go_upto_region 7 with fail
    have hcl : ∀ k : Nat, k < 8 → V.cell? ⟨w.heap.size + 1, 4 + k, none⟩ = some (.int .i64 (g.rg.getD k 0)) := fun k hk => by
      have := hV.out.gb.reg hl (k : Int) (by omega) (by omega)
      rwa [Int.toNat_natCast] at this
    have hclH : Hid _ := hcl
    have hix8 : Hid (∀ k : Nat, k < 8 → ∀ wx, (Instr.indexAt 28 (.pointer (some ⟨w.heap.size + 1, 4, none⟩)) (.int .i64 (k : Int))).run Tryd.prog wx = .ok (.pointer (some ⟨w.heap.size + 1, 4 + k, none⟩)) wx) := fun k hk => by
      have := ix8 (w.heap.size + 1) (k : Int) (by omega) (by omega)
      rwa [Int.toNat_natCast] at this
    clear hcl
    go_loopw [6] (fun u wr => ∃ k : Nat, r ≤ k ∧ k ≤ 8 ∧ u = .int .i64 (k : Int) ∧ wr = V ∧ Hid (∀ i, r ≤ i → i < k → g.rg.getD i 0 = 0)) (fun u _ => 8 - (intOf u).toNat)
    case atStart => exact ⟨r, Nat.le_refl _, hr, by rw [er.out]; rfl, rfl, fun i h1 h2 => by omega⟩
    case round =>
      obtain ⟨k, hrk, hk, rfl, rfl, hd⟩ := hrel
      by_cases hlt : k < 8
      · have hkI : (k : Int) < 8 := by omega
        have hcx := hclH.out k hlt
        have hxx := hix8.out k hlt
        by_cases q0 : g.rg.getD k 0 = 0
        · have hd2 : Hid (∀ i, r ≤ i → i < k + 1 → g.rg.getD i 0 = 0) := fun i h1 h2 => by
            by_cases e : i = k
            · rw [e]; exact q0
            · exact hd.out i h1 (by omega)
          rw [q0] at hcx
          clear q0 hd
          go_wp2
          go_roundw
          case rel => exact ⟨k + 1, by omega, by omega, by go_num, trivial, hd2⟩
          case measure => simp [intOf]; omega
        · have e := Rfalse hR4 fun z => q0 (z.1 k hrk)
          subst e
          have d : (g.rg.getD k 0 != 0) = true := by simpa using q0
          generalize g.rg.getD k 0 = v at *
          clear hR4 q0 hd
          go_wp2
          go_ret
          exact ⟨rfl, hV.out.b⟩
      · have hk8 : k = 8 := by omega
        subst hk8
        have htz : Hid (tz g.rg r) := fun i hi => by
          by_cases c : i < 8
          · exact hd.out i hi c
          · rw [List.getD_eq_getElem?_getD, List.getElem?_eq_none (by omega)]; rfl
        have hkI : ¬ (((8 : Nat) : Int) < 8) := by omega
        have hR5 : Hid (R = true ↔ (((g.st = 1 ∨ g.st = 2) ∧ g.why = 0) ∨ (g.st = 5 ∧ g.why = 0 ∧ locP op) ∨ (g.st = 3 ∧ g.why = 0 ∧ op = 45) ∨ (g.st = 4 ∧ failB op g.why))) := by
          show _ ↔ _
          rw [hR4.out]
          exact ⟨fun q => q.2, fun q => ⟨htz.out, q⟩⟩
        have i0 := latH.out hib ic0H.out wr hV.out.b
        have s0 := fun s => bey_cell p3 s
        have s1 := fun s => bey_cell z1 s
        have s2 := fun s => bey_cell z2 s
        have s3 := fun s => bey_cell f2 s
        have s4 := fun s => bey_cell i0 s
        have hne := bey_some wr
        clear hR4 hd htz hlt hk hrk hclH hix8
        go_wp2_with fail
        refine wp_region_cls (Bey wr) (by kernel_rfl) (by kernel_rfl) (bey_drew wr) ?_
        repeat (go_big_quiet_step (fail))
        refine wpQuiet_nil ?_
        intro _ hw'
        obtain ⟨sq2, hw''⟩ := hw'
        subst hw''
        have hU : Hid (PG w sq2.w M g) := hV.out.later sq2.h
        clear s0 s1 s2 s3 s4 hne z0 z1 z2 z3 p0 p1 p2 p3 f1 f2 i0 hV
        generalize sq2.w = U at *
        have z0 := hU.out.gb.c0
        have z3 := hU.out.gb.c3
        have cL : ∀ Q, prog.loc op = Q → Calls Tryd.prog 36 #[.int .i64 op] U _ := fun Q hQ => prog.reflocal_any op opH.out.1 opH.out.2 U Q hQ
        have cF : ∀ (Q : Bool), Hid (Q = true ↔ failB op g.why) → Calls Tryd.prog 45 #[.int .i64 op, .int .i64 g.why] U fun e w' => e = .returned (.bool Q) ∧ w' = U := fun Q hQ => failing_any _ _ Q hQ U
        generalize g.why = why at *
        rw [hq3] at hR5 z0
        clear hq3
        by_cases y0 : why = 0
        · subst y0
          by_cases o : op = 45
          · subst o
            have e := Rtrue hR5 (.inr (.inr (.inl ⟨rfl, rfl, rfl⟩)))
            subst e
            clear hR5 cF cL
            go_wp2
            go_ret
            exact ⟨rfl, hU.out.b⟩
          · have e := Rfalse hR5 fun q => by rcases q with q | q | q | q <;> first | omega | exact o q.2.2
            subst e
            have d : (op == 45) = false := by simpa using o
            clear hR5 cF cL o
            go_wp2
            go_ret
            exact ⟨rfl, hU.out.b⟩
        · have e := Rfalse hR5 fun q => by rcases q with q | q | q | q <;> omega
          subst e
          have d : (why == 0) = false := by simpa using y0
          clear hR5 cF cL y0
          go_wp2
          go_ret
          exact ⟨rfl, hU.out.b⟩
  by_cases hq4 : g.st = 4
  · have er : Hid (r = 0) := by show _ = _; rcases hrr.out with q | q <;> omega
    rw [hq4] at z0
    clear hrr
    go_upto_region 7 with fail
    have hcl : ∀ k : Nat, k < 8 → V.cell? ⟨w.heap.size + 1, 4 + k, none⟩ = some (.int .i64 (g.rg.getD k 0)) := fun k hk => by
      have := hV.out.gb.reg hl (k : Int) (by omega) (by omega)
      rwa [Int.toNat_natCast] at this
    have hclH : Hid _ := hcl
    have hix8 : Hid (∀ k : Nat, k < 8 → ∀ wx, (Instr.indexAt 28 (.pointer (some ⟨w.heap.size + 1, 4, none⟩)) (.int .i64 (k : Int))).run Tryd.prog wx = .ok (.pointer (some ⟨w.heap.size + 1, 4 + k, none⟩)) wx) := fun k hk => by
      have := ix8 (w.heap.size + 1) (k : Int) (by omega) (by omega)
      rwa [Int.toNat_natCast] at this
    clear hcl
    go_loopw [6] (fun u wr => ∃ k : Nat, r ≤ k ∧ k ≤ 8 ∧ u = .int .i64 (k : Int) ∧ wr = V ∧ Hid (∀ i, r ≤ i → i < k → g.rg.getD i 0 = 0)) (fun u _ => 8 - (intOf u).toNat)
    case atStart => exact ⟨r, Nat.le_refl _, hr, by rw [er.out]; rfl, rfl, fun i h1 h2 => by omega⟩
    case round =>
      obtain ⟨k, hrk, hk, rfl, rfl, hd⟩ := hrel
      by_cases hlt : k < 8
      · have hkI : (k : Int) < 8 := by omega
        have hcx := hclH.out k hlt
        have hxx := hix8.out k hlt
        by_cases q0 : g.rg.getD k 0 = 0
        · have hd2 : Hid (∀ i, r ≤ i → i < k + 1 → g.rg.getD i 0 = 0) := fun i h1 h2 => by
            by_cases e : i = k
            · rw [e]; exact q0
            · exact hd.out i h1 (by omega)
          rw [q0] at hcx
          clear q0 hd
          go_wp2
          go_roundw
          case rel => exact ⟨k + 1, by omega, by omega, by go_num, trivial, hd2⟩
          case measure => simp [intOf]; omega
        · have e := Rfalse hR4 fun z => q0 (z.1 k hrk)
          subst e
          have d : (g.rg.getD k 0 != 0) = true := by simpa using q0
          generalize g.rg.getD k 0 = v at *
          clear hR4 q0 hd
          go_wp2
          go_ret
          exact ⟨rfl, hV.out.b⟩
      · have hk8 : k = 8 := by omega
        subst hk8
        have htz : Hid (tz g.rg r) := fun i hi => by
          by_cases c : i < 8
          · exact hd.out i hi c
          · rw [List.getD_eq_getElem?_getD, List.getElem?_eq_none (by omega)]; rfl
        have hkI : ¬ (((8 : Nat) : Int) < 8) := by omega
        have hR5 : Hid (R = true ↔ (((g.st = 1 ∨ g.st = 2) ∧ g.why = 0) ∨ (g.st = 5 ∧ g.why = 0 ∧ locP op) ∨ (g.st = 3 ∧ g.why = 0 ∧ op = 45) ∨ (g.st = 4 ∧ failB op g.why))) := by
          show _ ↔ _
          rw [hR4.out]
          exact ⟨fun q => q.2, fun q => ⟨htz.out, q⟩⟩
        have i0 := latH.out hib ic0H.out wr hV.out.b
        have s0 := fun s => bey_cell p3 s
        have s1 := fun s => bey_cell z1 s
        have s2 := fun s => bey_cell z2 s
        have s3 := fun s => bey_cell f2 s
        have s4 := fun s => bey_cell i0 s
        have hne := bey_some wr
        clear hR4 hd htz hlt hk hrk hclH hix8
        go_wp2_with fail
        refine wp_region_cls (Bey wr) (by kernel_rfl) (by kernel_rfl) (bey_drew wr) ?_
        repeat (go_big_quiet_step (fail))
        refine wpQuiet_nil ?_
        intro _ hw'
        obtain ⟨sq2, hw''⟩ := hw'
        subst hw''
        have hU : Hid (PG w sq2.w M g) := hV.out.later sq2.h
        clear s0 s1 s2 s3 s4 hne z0 z1 z2 z3 p0 p1 p2 p3 f1 f2 i0 hV
        generalize sq2.w = U at *
        have z0 := hU.out.gb.c0
        have z3 := hU.out.gb.c3
        have cL : ∀ Q, prog.loc op = Q → Calls Tryd.prog 36 #[.int .i64 op] U _ := fun Q hQ => prog.reflocal_any op opH.out.1 opH.out.2 U Q hQ
        have cF : ∀ (Q : Bool), Hid (Q = true ↔ failB op g.why) → Calls Tryd.prog 45 #[.int .i64 op, .int .i64 g.why] U fun e w' => e = .returned (.bool Q) ∧ w' = U := fun Q hQ => failing_any _ _ Q hQ U
        generalize g.why = why at *
        rw [hq4] at hR5 z0
        clear hq4
        have xF := cF R (by show _ ↔ _; rw [hR5.out]; exact ⟨fun q => by rcases q with q | q | q | q <;> first | omega | exact q.2, fun q => .inr (.inr (.inr ⟨rfl, q⟩))⟩)
        clear hR5 cF cL
        go_wp2_with (go_at_call 45; (with_reducible refine xF.mono ?_); rintro e w3 ⟨rfl, rfl⟩)
        go_ret
        exact ⟨rfl, hU.out.b⟩
  omega
end Go.Proofs.YtjcmhaaohdmjpaaDoor.pg
/- Can a channel be so, and its offer: the document's own channel. -/
namespace Go.Proofs.YtjcmhaaohdmjpaaDoor.pg
open Go.ChangeShapes Go.WideShapes Go.ChangeAt Go.RowKit
set_option linter.unusedVariables false
set_option linter.unusedSimpArgs false
set_option maxRecDepth 100000
/-- What the document's own channel asks. -/
def chanR (P : Pr) (s : Sts) (n : Nat) : Prop := holdsC (chAt s n) (P.chans.getD n 0) ∧ off1 P s n
/-- Three boxes: a program, a state, a channel of it. -/
structure PC (w V : World) (M : MPr) (s : Sts) (CB : Nat) (c : Chc) : Prop where
  ps : PS w V M s
  cb : InC V CB c
theorem PC.later {w V V' : World} {M : MPr} {s : Sts} {CB : Nat} {c : Chc} (h : PC w V M s CB c) (hb : Below V.heap.size V V') : PC w V' M s CB c := ⟨h.ps.later hb, h.cb.later hb⟩
set_option maxHeartbeats 4000000 in
theorem rchan_any (M : MPr) (s : Sts) (n : Nat) (hn : n < M.chans.length) (hok : (chk insP M.pr).1 = 0) (hs : s.wf) (c6 : s.cnt ≤ 6) (hst : ∀ i, i < s.cnt.toNat → stands M.pr (s.gos.getD i zeroG)) (w : World) (hM : M.lies w) (R : Bool) (hR : Hid (R = true ↔ chanR M.pr s n)) :
    Calls Tryd.prog 30 #[M.val, s.val, .int .i64 (n : Int)] w fun e w' => e = .returned (.bool R) ∧ Below w.heap.size w w' := by
  have hc4 : M.chans.length ≤ 4 := (sizes_ok (chk_sizes0 hok)).2.2.1
  obtain ⟨room, hrm, hrmm⟩ := get_lt M.chans n hn
  have hroom : M.chans.getD n 0 = room := by rw [List.getD_eq_getElem?_getD, hrm]; rfl
  have hr04 : 0 ≤ room ∧ room ≤ 4 := by have := rooms hok n; rw [show M.pr.chans.getD n 0 = room from hroom] at this; exact this
  obtain ⟨c, hc, hcm⟩ := get_lt s.ch n (by rw [hs.lc]; omega)
  have ec := ch_getD hc
  have hcw := hs.ac c hcm
  have hR1 : Hid (R = true ↔ (holdsC c room ∧ (c.off ≠ 0 → 0 ≤ c.frm ∧ c.frm < s.cnt ∧ sendsC M.pr (goAt s c.frm) n))) := by
    show _ ↔ _
    rw [hR.out]
    unfold chanR off1
    rw [ec, show M.pr.chans.getD n 0 = room from hroom]
  have hE := ps_new w M s
  have hrix0 := ch_ix hM.2.1 n room hrm
  obtain ⟨rb, ro, hrix, hrb, hrc0⟩ := hrix0
  have latH : Hid (∀ {b q : Nat} {v : Value}, b < w.heap.size → w.cell? ⟨b, q, none⟩ = some v → ∀ w', Below w.heap.size w w' → w'.cell? ⟨b, q, none⟩ = some v) := fun {b q v} hb hv w' hw' => (hw'.cell (p := ⟨b, q, none⟩) hb).trans hv
  have hrcH : Hid (w.cell? ⟨rb, ro, none⟩ = some (.int .i64 room)) := hrc0
  have hMH : Hid (M.lies w) := hM
  have hsH : Hid s.wf := hs
  have hcwH : Hid c.wf := hcw
  have hstH : Hid (∀ i, i < s.cnt.toNat → stands M.pr (s.gos.getD i zeroG)) := hst
  have huc : Hid (Tryd.prog.underlying 32 = _) := Tryd.underlying32
  have hpx := ixp (t := 33) Tryd.underlying33 (fun wx => Tryd.sizeOf32 wx) (w.heap.size + 1) 12 (n : Int) (by omega) (by omega)
  rw [Int.toNat_natCast] at hpx
  have hinf : Hid ((Tryd.prog.info? 32).map (·.size) = some c.cells.length) := by have := infoC hcw; rwa [List.size_toArray] at this
  have hinfA : Hid ((Tryd.prog.info? 32).map (·.size) = some c.cells.toArray.size) := infoC hcw
  have hone := oneC c
  obtain ⟨ZI, hZ1, hZ2, _⟩ := zero_big (P := Tryd.prog) (t := 32) (n := 9) (by kernel_rfl)
  have hsz : Hid (ZI.size = c.cells.toArray.size) := by show _ = _; rw [hZ2, List.size_toArray, Chc.len hcw]
  have hcr := fun (W : World) (h : PS w W M s) => ((h.sb.chs hs).row (i := n) (row := c.cells) (by rw [List.getElem?_map, hc]; rfl))
  have hcR : Hid (∀ W, PS w W M s → W.rangeAt (w.heap.size + 1) (12 + n * 9) c.cells) := fun W hW => by
    obtain ⟨b, off, ha, _, hc'⟩ := hcr W hW
    simp only [Option.some.injEq, Addr.mk.injEq, and_true] at ha
    obtain ⟨rfl, rfl⟩ := ha
    intro j u hj
    rw [Nat.add_assoc]
    exact hc' j u hj
  have hbl := hcw.2.2.2.2.1
  clear hR hM hs hst hcr hcw hrmm hcm hZ2 hrc0 hok hroom hrm
  go_enter Tryd.func30, Tryd.ntmps30
  go_upto_region 1 with fail
  generalize (w.alloc (objP M)).alloc (objSt s) = W at *
  have hEH : Hid (PS w W M s) := hE
  have hrg : Hid (W.rangeAt (w.heap.size + 1) (12 + n * 9) c.cells) := hcR.out W hE
  have hzi : (W.alloc (.cells ZI 32)).heap[W.heap.size]? = some (.cells ZI 32) := heap_alloc_new W _
  have hbw : Below W.heap.size W ((W.alloc (.cells ZI 32)).setRow W.heap.size c.cells.toArray) := below_setRowG (boxed _ _) (Nat.le_refl _) _
  have hV : Hid (PC w ((W.alloc (.cells ZI 32)).setRow W.heap.size c.cells.toArray) M s W.heap.size c) := ⟨hE.later hbw, setRow_heap _ _ _ _ _ _ hzi⟩
  clear hE hbw hcR
  go_upto_region 2 with (first
    | (refine wpList_load_mid rfl 32 _ rfl (w.heap.size + 1) (12 + n * 9) rfl c.cells _ hrg.out huc.out rfl hinf.out ?_)
    | (refine wpList_alloc_big rfl 32 rfl hZ1 ?_)
    | (refine wpList_store_row rfl 32 _ _ rfl W.heap.size c.cells.toArray rfl rfl _ _ hzi hinfA.out hsz.out hone ?_))
  try simp only [Act.put, List.setIfInBounds_toArray, List.set_cons_zero, List.set_cons_succ]
  generalize (W.alloc (.cells ZI 32)).setRow W.heap.size c.cells.toArray = V at *
  generalize W.heap.size = CB at *
  clear hzi hZ1 hsz hone hrg hinf hinfA hEH hpx
  obtain ⟨p0, p1, p2, p3⟩ := hV.out.ps.p
  have z4 := hV.out.cb.at hcwH.out 0 _ rfl
  have z6 := hV.out.cb.at hcwH.out 2 _ rfl
  simp only [Nat.reduceAdd] at z4 z6
  have rc := latH.out hrb hrcH.out V hV.out.ps.b
  have s0 := fun s => bey_cell z4 s
  have s1 := fun s => bey_cell z6 s
  have s2 := fun s => bey_cell p2 s
  have s3 := fun s => bey_cell rc s
  have hne := bey_some V
  clear p0 p1 p2 p3
  by_cases t0 : c.ln < 0
  · have e := Rfalse hR1 fun q => by have := q.1.1; omega
    subst e
    have d0 : decide (c.ln < 0) = true := decide_eq_true (by omega)
    clear hR1
    go_wp2_with fail
    refine wp_region_cls (Bey V) (by kernel_rfl) (by kernel_rfl) (bey_drew V) ?_
    repeat (go_big_quiet_step (fail))
    refine wpQuiet_nil ?_
    intro _ hw'
    obtain ⟨sq, hw''⟩ := hw'
    subst hw''
    clear s0 s1 s2 s3 hne
    go_wp2
    go_ret
    exact ⟨rfl, bthen hV.out.ps.b sq.h⟩
  by_cases t1 : room < c.ln
  · have e := Rfalse hR1 fun q => by have := q.1.2.1; omega
    subst e
    have d0 : decide (c.ln < 0) = false := decide_eq_false (by omega)
    have d1 : decide (room < c.ln) = true := decide_eq_true (by omega)
    clear hR1
    go_wp2_with fail
    refine wp_region_cls (Bey V) (by kernel_rfl) (by kernel_rfl) (bey_drew V) ?_
    repeat (go_big_quiet_step (fail))
    refine wpQuiet_nil ?_
    intro _ hw'
    obtain ⟨sq, hw''⟩ := hw'
    subst hw''
    clear s0 s1 s2 s3 hne
    go_wp2
    go_ret
    exact ⟨rfl, bthen hV.out.ps.b sq.h⟩
  by_cases t2 : c.off < 0
  · have e := Rfalse hR1 fun q => by rcases q.1.2.2.2 with z | z | z | z <;> omega
    subst e
    have d0 : decide (c.ln < 0) = false := decide_eq_false (by omega)
    have d1 : decide (room < c.ln) = false := decide_eq_false (by omega)
    have d2 : decide (c.off < 0) = true := decide_eq_true (by omega)
    clear hR1
    go_wp2_with fail
    refine wp_region_cls (Bey V) (by kernel_rfl) (by kernel_rfl) (bey_drew V) ?_
    repeat (go_big_quiet_step (fail))
    refine wpQuiet_nil ?_
    intro _ hw'
    obtain ⟨sq, hw''⟩ := hw'
    subst hw''
    clear s0 s1 s2 s3 hne
    go_wp2
    go_ret
    exact ⟨rfl, bthen hV.out.ps.b sq.h⟩
  by_cases t3 : 3 < c.off
  · have e := Rfalse hR1 fun q => by rcases q.1.2.2.2 with z | z | z | z <;> omega
    subst e
    have d0 : decide (c.ln < 0) = false := decide_eq_false (by omega)
    have d1 : decide (room < c.ln) = false := decide_eq_false (by omega)
    have d2 : decide (c.off < 0) = false := decide_eq_false (by omega)
    have d3 : decide (3 < c.off) = true := decide_eq_true (by omega)
    clear hR1
    go_wp2_with fail
    refine wp_region_cls (Bey V) (by kernel_rfl) (by kernel_rfl) (bey_drew V) ?_
    repeat (go_big_quiet_step (fail))
    refine wpQuiet_nil ?_
    intro _ hw'
    obtain ⟨sq, hw''⟩ := hw'
    subst hw''
    clear s0 s1 s2 s3 hne
    go_wp2
    go_ret
    exact ⟨rfl, bthen hV.out.ps.b sq.h⟩
  by_cases t4 : room ≠ 0 ∧ c.off ≠ 0
  · have e := Rfalse hR1 fun q => by rcases q.1.2.2.2 with z | z | z | z <;> omega
    subst e
    have d0 : decide (c.ln < 0) = false := decide_eq_false (by omega)
    have d1 : decide (room < c.ln) = false := decide_eq_false (by omega)
    have d2 : decide (c.off < 0) = false := decide_eq_false (by omega)
    have d3 : decide (3 < c.off) = false := decide_eq_false (by omega)
    have d4 : (room != 0) = true := by simpa using t4.1
    have d5 : (c.off != 0) = true := by simpa using t4.2
    clear hR1
    go_wp2_with fail
    refine wp_region_cls (Bey V) (by kernel_rfl) (by kernel_rfl) (bey_drew V) ?_
    repeat (go_big_quiet_step (fail))
    refine wpQuiet_nil ?_
    intro _ hw'
    obtain ⟨sq, hw''⟩ := hw'
    subst hw''
    clear s0 s1 s2 s3 hne
    go_wp2
    go_ret
    exact ⟨rfl, bthen hV.out.ps.b sq.h⟩
  have hgo : Hid (∀ (K : Nat), K = K) := fun _ => rfl
  have d0 : decide (c.ln < 0) = false := decide_eq_false (by omega)
  have d1 : decide (room < c.ln) = false := decide_eq_false (by omega)
  have d2 : decide (c.off < 0) = false := decide_eq_false (by omega)
  have d3 : decide (3 < c.off) = false := decide_eq_false (by omega)
  by_cases o0 : c.off = 0
  · rw [o0] at z6
    clear s1
    have s1 := fun s => bey_cell z6 s
    by_cases m0 : room = 0
    · rw [m0] at rc d1
      clear s3
      have s3 := fun s => bey_cell rc s
      have m0H : Hid (room = 0) := m0
      clear m0
      go_wp2_with fail
      refine wp_region_cls (Bey V) (by kernel_rfl) (by kernel_rfl) (bey_drew V) ?_
      repeat (go_big_quiet_step (fail))
      refine wpQuiet_nil ?_
      intro _ hw'
      obtain ⟨sq, hw''⟩ := hw'
      subst hw''
      have hU : Hid (PC w sq.w M s CB c) := hV.out.later sq.h
      clear s0 s1 s2 s3 hne z4 z6 rc hV d0 d1 d2 d3
      generalize sq.w = U at *
      have z4 := hU.out.cb.at hcwH.out 0 _ rfl
      simp only [Nat.reduceAdd] at z4
      obtain ⟨ln, hln⟩ : ∃ ln : Nat, (ln : Int) = c.ln := ⟨c.ln.toNat, by omega⟩
      rw [← hln] at z4
      have hlnH : Hid (c.ln.toNat = ln) := by show _ = _; omega
      have hln4 : ln ≤ 4 := by omega
      clear hln
      go_upto_region 5 with fail
      have hcl : Hid (∀ k : Nat, k < 4 → U.cell? ⟨CB, k, none⟩ = some (.int .i64 (c.buf.getD k 0))) := fun k hk => by
        obtain ⟨x, hx, _⟩ := get_lt c.buf k (by omega)
        have e : c.buf.getD k 0 = x := by rw [List.getD_eq_getElem?_getD, hx]; rfl
        rw [e]
        obtain ⟨b, off, ha, _, hc'⟩ := (hU.out.cb.bufs hbl).row (i := k) (row := chCells x) (by rw [List.getElem?_map, hx]; rfl)
        simp only [Option.some.injEq, Addr.mk.injEq, and_true] at ha
        obtain ⟨rfl, rfl⟩ := ha
        have := hc' 0 _ rfl
        simpa using this
      have hix4 : Hid (∀ k : Nat, k < 4 → ∀ wx, (Instr.indexAt 30 (.pointer (some ⟨CB, 0, none⟩)) (.int .i64 (k : Int))).run Tryd.prog wx = .ok (.pointer (some ⟨CB, k, none⟩)) wx) := fun k hk => by
        have := ixp (t := 30) Tryd.underlying30 (fun wx => Tryd.sizeOf2 wx) CB 0 (k : Int) (by omega) (by omega)
        rwa [show 0 + ((k : Int)).toNat * 1 = k by omega] at this
      clear z4
      go_loopw [8] (fun u wr => ∃ k : Nat, ln ≤ k ∧ k ≤ 4 ∧ u = .int .i64 (k : Int) ∧ wr = U ∧ Hid (∀ i, ln ≤ i → i < k → c.buf.getD i 0 = 0)) (fun u _ => 4 - (intOf u).toNat)
      case atStart => exact ⟨ln, Nat.le_refl _, hln4, rfl, rfl, fun i h1 h2 => by omega⟩
      case round =>
        obtain ⟨k, hrk, hk, rfl, rfl, hd⟩ := hrel
        by_cases hlt : k < 4
        · have hkI : (k : Int) < 4 := by omega
          have hcx := hcl.out k hlt
          have hxx := hix4.out k hlt
          by_cases q0 : c.buf.getD k 0 = 0
          · have hd2 : Hid (∀ i, ln ≤ i → i < k + 1 → c.buf.getD i 0 = 0) := fun i h1 h2 => by
              by_cases e : i = k
              · rw [e]; exact q0
              · exact hd.out i h1 (by omega)
            rw [q0] at hcx
            clear q0 hd
            go_wp2
            go_roundw
            case rel => exact ⟨k + 1, by omega, by omega, by go_num, trivial, hd2⟩
            case measure => simp [intOf]; omega
          · have e := Rfalse hR1 fun z => q0 (z.1.2.2.1 k (by rw [hlnH.out]; exact hrk))
            subst e
            have d : (c.buf.getD k 0 != 0) = true := by simpa using q0
            generalize c.buf.getD k 0 = v at *
            clear hR1 q0 hd
            go_wp2
            go_ret
            exact ⟨rfl, hU.out.ps.b⟩
        · have hk4 : k = 4 := by omega
          subst hk4
          have htz : Hid (tz c.buf c.ln.toNat) := fun i hi => by
            by_cases q : i < 4
            · exact hd.out i (by rw [← hlnH.out]; exact hi) q
            · rw [List.getD_eq_getElem?_getD, List.getElem?_eq_none (by omega)]; rfl
          have hkI : ¬ (((4 : Nat) : Int) < 4) := by omega
          have z5 := hU.out.cb.at hcwH.out 1 _ rfl
          have z6 := hU.out.cb.at hcwH.out 2 _ rfl
          have z7 := hU.out.cb.at hcwH.out 3 _ rfl
          have z8 := hU.out.cb.at hcwH.out 4 _ rfl
          simp only [Nat.reduceAdd] at z5 z6 z7 z8
          have hR2 : Hid (R = true ↔ (((c.off = 0 ∧ c.frm = 0 ∧ c.val = 0) ∨ (c.off = 1 ∧ room = 0 ∧ c.shut = false) ∨ (c.off = 2 ∧ room = 0 ∧ c.val = 0) ∨ (c.off = 3 ∧ room = 0 ∧ c.val = 0 ∧ c.shut = true)) ∧ (c.off ≠ 0 → 0 ≤ c.frm ∧ c.frm < s.cnt ∧ sendsC M.pr (goAt s c.frm) n))) := by
            show _ ↔ _
            rw [hR1.out]
            exact ⟨fun q => ⟨q.1.2.2.2, q.2⟩, fun q => ⟨⟨by omega, by omega, htz.out, q.1⟩, q.2⟩⟩
          clear hR1 hd htz hlt hk hrk hcl hix4
          rw [show (((4 : Nat) : Int)) = 4 from rfl]
          generalize c.frm = frm at *
          generalize c.val = val at *
          rw [o0] at hR2
          rw [o0] at z6
          by_cases f0 : frm = 0
          · subst f0
            by_cases v0 : val = 0
            · subst v0
              have e := Rtrue hR2 ⟨.inl ⟨rfl, rfl, rfl⟩, fun q => absurd rfl q⟩
              subst e
              clear hR2 o0
              go_wp2
              go_ret
              exact ⟨rfl, hU.out.ps.b⟩
            · have e := Rfalse hR2 fun q => by rcases q.1 with z | z | z | z <;> omega
              subst e
              have d : (val == 0) = false := by simpa using v0
              clear hR2 v0 o0
              go_wp2
              go_ret
              exact ⟨rfl, hU.out.ps.b⟩
          · have e := Rfalse hR2 fun q => by rcases q.1 with z | z | z | z <;> omega
            subst e
            have d : (frm == 0) = false := by simpa using f0
            clear hR2 f0 o0
            go_wp2
            go_ret
            exact ⟨rfl, hU.out.ps.b⟩
    · have dm : (room != 0) = true := by simpa using m0
      go_wp2_with fail
      refine wp_region_cls (Bey V) (by kernel_rfl) (by kernel_rfl) (bey_drew V) ?_
      repeat (go_big_quiet_step (fail))
      refine wpQuiet_nil ?_
      intro _ hw'
      obtain ⟨sq, hw''⟩ := hw'
      subst hw''
      have hU : Hid (PC w sq.w M s CB c) := hV.out.later sq.h
      clear s0 s1 s2 s3 hne z4 z6 rc hV d0 d1 d2 d3 dm
      generalize sq.w = U at *
      have z4 := hU.out.cb.at hcwH.out 0 _ rfl
      simp only [Nat.reduceAdd] at z4
      obtain ⟨ln, hln⟩ : ∃ ln : Nat, (ln : Int) = c.ln := ⟨c.ln.toNat, by omega⟩
      rw [← hln] at z4
      have hlnH : Hid (c.ln.toNat = ln) := by show _ = _; omega
      have hln4 : ln ≤ 4 := by omega
      clear hln
      go_upto_region 5 with fail
      have hcl : Hid (∀ k : Nat, k < 4 → U.cell? ⟨CB, k, none⟩ = some (.int .i64 (c.buf.getD k 0))) := fun k hk => by
        obtain ⟨x, hx, _⟩ := get_lt c.buf k (by omega)
        have e : c.buf.getD k 0 = x := by rw [List.getD_eq_getElem?_getD, hx]; rfl
        rw [e]
        obtain ⟨b, off, ha, _, hc'⟩ := (hU.out.cb.bufs hbl).row (i := k) (row := chCells x) (by rw [List.getElem?_map, hx]; rfl)
        simp only [Option.some.injEq, Addr.mk.injEq, and_true] at ha
        obtain ⟨rfl, rfl⟩ := ha
        have := hc' 0 _ rfl
        simpa using this
      have hix4 : Hid (∀ k : Nat, k < 4 → ∀ wx, (Instr.indexAt 30 (.pointer (some ⟨CB, 0, none⟩)) (.int .i64 (k : Int))).run Tryd.prog wx = .ok (.pointer (some ⟨CB, k, none⟩)) wx) := fun k hk => by
        have := ixp (t := 30) Tryd.underlying30 (fun wx => Tryd.sizeOf2 wx) CB 0 (k : Int) (by omega) (by omega)
        rwa [show 0 + ((k : Int)).toNat * 1 = k by omega] at this
      clear z4
      go_loopw [8] (fun u wr => ∃ k : Nat, ln ≤ k ∧ k ≤ 4 ∧ u = .int .i64 (k : Int) ∧ wr = U ∧ Hid (∀ i, ln ≤ i → i < k → c.buf.getD i 0 = 0)) (fun u _ => 4 - (intOf u).toNat)
      case atStart => exact ⟨ln, Nat.le_refl _, hln4, rfl, rfl, fun i h1 h2 => by omega⟩
      case round =>
        obtain ⟨k, hrk, hk, rfl, rfl, hd⟩ := hrel
        by_cases hlt : k < 4
        · have hkI : (k : Int) < 4 := by omega
          have hcx := hcl.out k hlt
          have hxx := hix4.out k hlt
          by_cases q0 : c.buf.getD k 0 = 0
          · have hd2 : Hid (∀ i, ln ≤ i → i < k + 1 → c.buf.getD i 0 = 0) := fun i h1 h2 => by
              by_cases e : i = k
              · rw [e]; exact q0
              · exact hd.out i h1 (by omega)
            rw [q0] at hcx
            clear q0 hd
            go_wp2
            go_roundw
            case rel => exact ⟨k + 1, by omega, by omega, by go_num, trivial, hd2⟩
            case measure => simp [intOf]; omega
          · have e := Rfalse hR1 fun z => q0 (z.1.2.2.1 k (by rw [hlnH.out]; exact hrk))
            subst e
            have d : (c.buf.getD k 0 != 0) = true := by simpa using q0
            generalize c.buf.getD k 0 = v at *
            clear hR1 q0 hd
            go_wp2
            go_ret
            exact ⟨rfl, hU.out.ps.b⟩
        · have hk4 : k = 4 := by omega
          subst hk4
          have htz : Hid (tz c.buf c.ln.toNat) := fun i hi => by
            by_cases q : i < 4
            · exact hd.out i (by rw [← hlnH.out]; exact hi) q
            · rw [List.getD_eq_getElem?_getD, List.getElem?_eq_none (by omega)]; rfl
          have hkI : ¬ (((4 : Nat) : Int) < 4) := by omega
          have z5 := hU.out.cb.at hcwH.out 1 _ rfl
          have z6 := hU.out.cb.at hcwH.out 2 _ rfl
          have z7 := hU.out.cb.at hcwH.out 3 _ rfl
          have z8 := hU.out.cb.at hcwH.out 4 _ rfl
          simp only [Nat.reduceAdd] at z5 z6 z7 z8
          have hR2 : Hid (R = true ↔ (((c.off = 0 ∧ c.frm = 0 ∧ c.val = 0) ∨ (c.off = 1 ∧ room = 0 ∧ c.shut = false) ∨ (c.off = 2 ∧ room = 0 ∧ c.val = 0) ∨ (c.off = 3 ∧ room = 0 ∧ c.val = 0 ∧ c.shut = true)) ∧ (c.off ≠ 0 → 0 ≤ c.frm ∧ c.frm < s.cnt ∧ sendsC M.pr (goAt s c.frm) n))) := by
            show _ ↔ _
            rw [hR1.out]
            exact ⟨fun q => ⟨q.1.2.2.2, q.2⟩, fun q => ⟨⟨by omega, by omega, htz.out, q.1⟩, q.2⟩⟩
          clear hR1 hd htz hlt hk hrk hcl hix4
          rw [show (((4 : Nat) : Int)) = 4 from rfl]
          generalize c.frm = frm at *
          generalize c.val = val at *
          rw [o0] at hR2
          rw [o0] at z6
          by_cases f0 : frm = 0
          · subst f0
            by_cases v0 : val = 0
            · subst v0
              have e := Rtrue hR2 ⟨.inl ⟨rfl, rfl, rfl⟩, fun q => absurd rfl q⟩
              subst e
              clear hR2 o0
              go_wp2
              go_ret
              exact ⟨rfl, hU.out.ps.b⟩
            · have e := Rfalse hR2 fun q => by rcases q.1 with z | z | z | z <;> omega
              subst e
              have d : (val == 0) = false := by simpa using v0
              clear hR2 v0 o0
              go_wp2
              go_ret
              exact ⟨rfl, hU.out.ps.b⟩
          · have e := Rfalse hR2 fun q => by rcases q.1 with z | z | z | z <;> omega
            subst e
            have d : (frm == 0) = false := by simpa using f0
            clear hR2 f0 o0
            go_wp2
            go_ret
            exact ⟨rfl, hU.out.ps.b⟩
  have rm0' : room = 0 := by
    apply Classical.byContradiction
    intro q
    exact t4 ⟨q, o0⟩
  have rm0 : Hid (room = 0) := rm0'
  rw [rm0'] at rc d1
  clear s3
  have s3 := fun s => bey_cell rc s
  clear rm0' t4
  go_wp2_with fail
  refine wp_region_cls (Bey V) (by kernel_rfl) (by kernel_rfl) (bey_drew V) ?_
  repeat (go_big_quiet_step (fail))
  refine wpQuiet_nil ?_
  intro _ hw'
  obtain ⟨sq, hw''⟩ := hw'
  subst hw''
  have hU : Hid (PC w sq.w M s CB c) := hV.out.later sq.h
  clear s0 s1 s2 s3 hne z4 z6 rc hV d0 d1 d2 d3
  generalize sq.w = U at *
  have z4 := hU.out.cb.at hcwH.out 0 _ rfl
  simp only [Nat.reduceAdd] at z4
  obtain ⟨ln, hln⟩ : ∃ ln : Nat, (ln : Int) = c.ln := ⟨c.ln.toNat, by omega⟩
  rw [← hln] at z4
  have hlnH : Hid (c.ln.toNat = ln) := by show _ = _; omega
  have hln4 : ln ≤ 4 := by omega
  clear hln
  go_upto_region 5 with fail
  have hcl : Hid (∀ k : Nat, k < 4 → U.cell? ⟨CB, k, none⟩ = some (.int .i64 (c.buf.getD k 0))) := fun k hk => by
    obtain ⟨x, hx, _⟩ := get_lt c.buf k (by omega)
    have e : c.buf.getD k 0 = x := by rw [List.getD_eq_getElem?_getD, hx]; rfl
    rw [e]
    obtain ⟨b, off, ha, _, hc'⟩ := (hU.out.cb.bufs hbl).row (i := k) (row := chCells x) (by rw [List.getElem?_map, hx]; rfl)
    simp only [Option.some.injEq, Addr.mk.injEq, and_true] at ha
    obtain ⟨rfl, rfl⟩ := ha
    have := hc' 0 _ rfl
    simpa using this
  have hix4 : Hid (∀ k : Nat, k < 4 → ∀ wx, (Instr.indexAt 30 (.pointer (some ⟨CB, 0, none⟩)) (.int .i64 (k : Int))).run Tryd.prog wx = .ok (.pointer (some ⟨CB, k, none⟩)) wx) := fun k hk => by
    have := ixp (t := 30) Tryd.underlying30 (fun wx => Tryd.sizeOf2 wx) CB 0 (k : Int) (by omega) (by omega)
    rwa [show 0 + ((k : Int)).toNat * 1 = k by omega] at this
  clear z4
  go_loopw [8] (fun u wr => ∃ k : Nat, ln ≤ k ∧ k ≤ 4 ∧ u = .int .i64 (k : Int) ∧ wr = U ∧ Hid (∀ i, ln ≤ i → i < k → c.buf.getD i 0 = 0)) (fun u _ => 4 - (intOf u).toNat)
  case atStart => exact ⟨ln, Nat.le_refl _, hln4, rfl, rfl, fun i h1 h2 => by omega⟩
  case round =>
    obtain ⟨k, hrk, hk, rfl, rfl, hd⟩ := hrel
    by_cases hlt : k < 4
    · have hkI : (k : Int) < 4 := by omega
      have hcx := hcl.out k hlt
      have hxx := hix4.out k hlt
      by_cases q0 : c.buf.getD k 0 = 0
      · have hd2 : Hid (∀ i, ln ≤ i → i < k + 1 → c.buf.getD i 0 = 0) := fun i h1 h2 => by
          by_cases e : i = k
          · rw [e]; exact q0
          · exact hd.out i h1 (by omega)
        rw [q0] at hcx
        clear q0 hd
        go_wp2
        go_roundw
        case rel => exact ⟨k + 1, by omega, by omega, by go_num, trivial, hd2⟩
        case measure => simp [intOf]; omega
      · have e := Rfalse hR1 fun z => q0 (z.1.2.2.1 k (by rw [hlnH.out]; exact hrk))
        subst e
        have d : (c.buf.getD k 0 != 0) = true := by simpa using q0
        generalize c.buf.getD k 0 = v at *
        clear hR1 q0 hd
        go_wp2
        go_ret
        exact ⟨rfl, hU.out.ps.b⟩
    · have hk4 : k = 4 := by omega
      subst hk4
      have htz : Hid (tz c.buf c.ln.toNat) := fun i hi => by
        by_cases q : i < 4
        · exact hd.out i (by rw [← hlnH.out]; exact hi) q
        · rw [List.getD_eq_getElem?_getD, List.getElem?_eq_none (by omega)]; rfl
      have hkI : ¬ (((4 : Nat) : Int) < 4) := by omega
      have z5 := hU.out.cb.at hcwH.out 1 _ rfl
      have z6 := hU.out.cb.at hcwH.out 2 _ rfl
      have z7 := hU.out.cb.at hcwH.out 3 _ rfl
      have z8 := hU.out.cb.at hcwH.out 4 _ rfl
      simp only [Nat.reduceAdd] at z5 z6 z7 z8
      have hR2 : Hid (R = true ↔ (((c.off = 0 ∧ c.frm = 0 ∧ c.val = 0) ∨ (c.off = 1 ∧ room = 0 ∧ c.shut = false) ∨ (c.off = 2 ∧ room = 0 ∧ c.val = 0) ∨ (c.off = 3 ∧ room = 0 ∧ c.val = 0 ∧ c.shut = true)) ∧ (c.off ≠ 0 → 0 ≤ c.frm ∧ c.frm < s.cnt ∧ sendsC M.pr (goAt s c.frm) n))) := by
        show _ ↔ _
        rw [hR1.out]
        exact ⟨fun q => ⟨q.1.2.2.2, q.2⟩, fun q => ⟨⟨by omega, by omega, htz.out, q.1⟩, q.2⟩⟩
      clear hR1 hd htz hlt hk hrk hcl hix4
      rw [show (((4 : Nat) : Int)) = 4 from rfl]
      by_cases o1 : c.off = 1
      · rw [o1] at z6
        have hoff : Hid (c.off = 1) := o1
        clear o1
        cases hsh : c.shut with
        | true =>
          have e := Rfalse hR2 fun q => by have h9 := hoff.out; rcases q.1 with z | z | z | z <;> first | omega | (rw [z.2.2] at hsh; cases hsh)
          subst e
          rw [hsh] at z5
          clear hR2 hsh
          go_wp2
          go_ret
          exact ⟨rfl, hU.out.ps.b⟩
        | false =>
          rw [hsh] at z5
          have htst : Hid _ := (show ((c.off = 0 ∧ c.frm = 0 ∧ c.val = 0) ∨ (c.off = 1 ∧ room = 0 ∧ c.shut = false) ∨ (c.off = 2 ∧ room = 0 ∧ c.val = 0) ∨ (c.off = 3 ∧ room = 0 ∧ c.val = 0 ∧ c.shut = true)) from .inr (.inl ⟨hoff.out, rm0.out, hsh⟩))
          clear hsh
          have zc := hU.out.ps.sb.cnt hsH.out
          by_cases f0 : c.frm < 0
          · have e := Rfalse hR2 fun q => by have := (q.2 (by rw [hoff.out]; decide)).1; omega
            subst e
            clear hR2 htst
            go_wp2
            go_ret
            exact ⟨rfl, hU.out.ps.b⟩
          by_cases f1 : s.cnt ≤ c.frm
          · have e := Rfalse hR2 fun q => by have := (q.2 (by rw [hoff.out]; decide)).2.1; omega
            subst e
            have d0 : decide (c.frm < 0) = false := decide_eq_false f0
            have d1 : decide (s.cnt ≤ c.frm) = true := decide_eq_true f1
            clear hR2 htst f0 f1
            go_wp2
            go_ret
            exact ⟨rfl, hU.out.ps.b⟩
          obtain ⟨g, hg, hgm⟩ := get_lt s.gos c.frm.toNat (by rw [hsH.out.lg]; omega)
          have eg : goAt s c.frm = g := go_getD hg
          have hgs : stands M.pr g := by have := hstH.out c.frm.toNat (by omega); rwa [go_getD hg] at this
          rw [eg] at hR2
          have d0 : decide (c.frm < 0) = false := decide_eq_false f0
          have d1 : decide (s.cnt ≤ c.frm) = false := decide_eq_false f1
          have hpg := ixg (w.heap.size + 1) c.frm (by omega) (by omega)
          have hgr : Hid (∀ j u, g.cells[j]? = some u → wr.cell? ⟨w.heap.size + 1, 48 + c.frm.toNat * 12 + j, none⟩ = some u) := fun j u hj => by
            obtain ⟨b, off, ha, _, hc'⟩ := ((hU.out.ps.sb.gos hsH.out).row (i := c.frm.toNat) (row := g.cells) (by rw [List.getElem?_map, hg]; rfl))
            simp only [Option.some.injEq, Addr.mk.injEq, and_true] at ha
            obtain ⟨rfl, rfl⟩ := ha
            rw [Nat.add_assoc]
            exact hc' j u hj
          have g0 : wr.cell? ⟨w.heap.size + 1, 48 + c.frm.toNat * 12, none⟩ = some (.int .i64 g.st) := hgr.out 0 _ rfl
          by_cases s2 : g.st = 2
          rotate_left
          · have e := Rfalse hR2 fun q => s2 (q.2 (by rw [hoff.out]; decide)).2.2.1
            subst e
            have d2 : (g.st != 2) = true := by simpa using s2
            clear hR2 htst hgs hg hgm
            go_wp2
            go_ret
            exact ⟨rfl, hU.out.ps.b⟩
          rw [s2] at g0
          have g1 : wr.cell? ⟨w.heap.size + 1, 48 + c.frm.toNat * 12 + 1, none⟩ = some (.int .i64 g.fn) := hgr.out 1 _ rfl
          have g2 : wr.cell? ⟨w.heap.size + 1, 48 + c.frm.toNat * 12 + 2, none⟩ = some (.int .i64 g.pc) := hgr.out 2 _ rfl
          obtain ⟨F, hFi, hFm⟩ : ∃ F, M.fns[g.fn.toNat]? = some F ∧ F ∈ M.fns := get_lt _ _ (by have h0 := hgs.1; have := hgs.2.1; have h2 : ((M.fns.map MFn.fn).length : Int) = M.fns.length := (by rw [List.length_map]); have h3 : g.fn < ((M.fns.map MFn.fn).length : Int) := this; omega)
          have eF := fnAt_M hFi
          have q0 := hgs.1
          have q1 := hgs.2.2.1
          have q2 : g.pc < F.code.length := by have := hgs.2.2.2.1; rw [eF] at this; exact this
          obtain ⟨m1, m2⟩ := insAt_mem (code := F.code) q1 q2
          obtain ⟨fb, fo, hfix, hfb, fc0, fc1, fc2, fc3⟩ := fn_ix hMH.out.2.2.1 g.fn.toNat F hFi
          obtain ⟨ib, io, hix, hib, ic0, ic1, ic2, ic3, ic4⟩ := ins_ix ((hMH.out.2.2.2.2.2.2 F hFm).1) g.pc.toNat _ m1
          rw [show ((g.pc.toNat : Nat) : Int) = g.pc by omega] at hix
          rw [show ((g.fn.toNat : Nat) : Int) = g.fn by omega] at hfix
          have hR4 : Hid (R = true ↔ ((insAt F.code g.pc).op = 58 ∧ (insAt F.code g.pc).a = n)) := by
            show _ ↔ _
            rw [hR2.out]
            unfold sendsC
            rw [eF]
            exact ⟨fun q => (q.2 (by rw [hoff.out]; decide)).2.2.2, fun q => ⟨htst.out, fun _ => ⟨by omega, by omega, s2, q⟩⟩⟩
          generalize insAt F.code g.pc = i at *
          have hrgi : w.rangeAt ib io i.cells := fun q v hv => by
            match q, hv with
            | 0, hv => cases hv; exact ic0
            | 1, hv => cases hv; exact ic1
            | 2, hv => cases hv; exact ic2
            | 3, hv => cases hv; exact ic3
            | 4, hv => cases hv; exact ic4
          have hUH : Hid (PC w wr M s CB c) := hU.out
          clear hR2 htst s2
          go_wp2_with fail
          obtain ⟨ZI2, hY1, hY2, _⟩ := zero_big (P := Tryd.prog) (t := 74) (n := 5) (by kernel_rfl)
          have hH : Below wr.heap.size wr wr.drew := bey_drew wr
          refine wp_region_held_drew (S := fun w' => Below wr.heap.size wr w') (by kernel_rfl) hH (fun _ => ?_)
          refine reg_move (i := 0) rfl (by kernel_rfl) (by kernel_rfl) (by kernel_rfl) (fun _ _ _ _ h => h) rfl (.pointer (some ⟨w.heap.size, 3, none⟩)) (fun _ => by kernel_rfl) hH ?_
          simp only [Act.put, List.getElem_toArray, List.getElem_cons_succ, List.getElem_cons_zero, List.setIfInBounds_toArray, List.set_cons_zero, List.set_cons_succ]
          refine reg_load1 (i := 1) rfl (by kernel_rfl) (by kernel_rfl) (by kernel_rfl) (fun _ _ _ _ h => h) rfl 24 _ rfl ⟨w.heap.size, 3, none⟩ rfl _ Tryd.underlying24 rfl (.slice M.fa M.fns.length M.fcap) (fun w' h' => (hUH.out.ps.p.later h').2.2.2) hH ?_
          simp only [Act.put, List.getElem_toArray, List.getElem_cons_succ, List.getElem_cons_zero, List.setIfInBounds_toArray, List.set_cons_zero, List.set_cons_succ]
          refine reg_move (i := 2) rfl (by kernel_rfl) (by kernel_rfl) (by kernel_rfl) (fun _ _ _ _ h => h) rfl (.pointer (some ⟨CB, 7, none⟩)) (fun _ => by kernel_rfl) hH ?_
          simp only [Act.put, List.getElem_toArray, List.getElem_cons_succ, List.getElem_cons_zero, List.setIfInBounds_toArray, List.set_cons_zero, List.set_cons_succ]
          refine reg_load1 (i := 3) rfl (by kernel_rfl) (by kernel_rfl) (by kernel_rfl) (fun _ _ _ _ h => h) rfl 3 _ rfl ⟨CB, 7, none⟩ rfl _ Tryd.underlying3 rfl (.int .i64 c.frm) (fun w' h' => by have := (hUH.out.cb.later h').at hcwH.out 3 _ rfl; simpa using this) hH ?_
          simp only [Act.put, List.getElem_toArray, List.getElem_cons_succ, List.getElem_cons_zero, List.setIfInBounds_toArray, List.set_cons_zero, List.set_cons_succ]
          refine reg_move (i := 4) rfl (by kernel_rfl) (by kernel_rfl) (by kernel_rfl) (fun _ _ _ _ h => h) rfl (.pointer (some ⟨w.heap.size + 1, 48, none⟩)) (fun _ => by kernel_rfl) hH ?_
          simp only [Act.put, List.getElem_toArray, List.getElem_cons_succ, List.getElem_cons_zero, List.setIfInBounds_toArray, List.set_cons_zero, List.set_cons_succ]
          refine reg_move (i := 5) rfl (by kernel_rfl) (by kernel_rfl) (by kernel_rfl) (fun _ _ _ _ h => h) rfl (.pointer (some ⟨w.heap.size + 1, 48 + c.frm.toNat * 12, none⟩)) (fun wx => by unfold execOp; exact run_valueS (hpg wx)) hH ?_
          simp only [Act.put, List.getElem_toArray, List.getElem_cons_succ, List.getElem_cons_zero, List.setIfInBounds_toArray, List.set_cons_zero, List.set_cons_succ]
          refine reg_move (i := 6) rfl (by kernel_rfl) (by kernel_rfl) (by kernel_rfl) (fun _ _ _ _ h => h) rfl (.pointer (some ⟨w.heap.size + 1, 48 + c.frm.toNat * 12 + 1, none⟩)) (fun _ => by rfl) hH ?_
          simp only [Act.put, List.getElem_toArray, List.getElem_cons_succ, List.getElem_cons_zero, List.setIfInBounds_toArray, List.set_cons_zero, List.set_cons_succ]
          refine reg_load1 (i := 7) rfl (by kernel_rfl) (by kernel_rfl) (by kernel_rfl) (fun _ _ _ _ h => h) rfl 3 _ rfl ⟨w.heap.size + 1, 48 + c.frm.toNat * 12 + 1, none⟩ rfl _ Tryd.underlying3 rfl (.int .i64 g.fn) (fun w' h' => cell_later h' (hgr.out 1 _ rfl)) hH ?_
          simp only [Act.put, List.getElem_toArray, List.getElem_cons_succ, List.getElem_cons_zero, List.setIfInBounds_toArray, List.set_cons_zero, List.set_cons_succ]
          refine reg_move (i := 8) rfl (by kernel_rfl) (by kernel_rfl) (by kernel_rfl) (fun _ _ _ _ h => h) rfl (.pointer (some ⟨fb, fo, none⟩)) (fun wx => by unfold execOp; exact run_valueS (hfix wx)) hH ?_
          simp only [Act.put, List.getElem_toArray, List.getElem_cons_succ, List.getElem_cons_zero, List.setIfInBounds_toArray, List.set_cons_zero, List.set_cons_succ]
          refine reg_move (i := 9) rfl (by kernel_rfl) (by kernel_rfl) (by kernel_rfl) (fun _ _ _ _ h => h) rfl (.pointer (some ⟨fb, fo + 2, none⟩)) (fun _ => by kernel_rfl) hH ?_
          simp only [Act.put, List.getElem_toArray, List.getElem_cons_succ, List.getElem_cons_zero, List.setIfInBounds_toArray, List.set_cons_zero, List.set_cons_succ]
          refine reg_load1 (i := 10) rfl (by kernel_rfl) (by kernel_rfl) (by kernel_rfl) (fun _ _ _ _ h => h) rfl 55 _ rfl ⟨fb, fo + 2, none⟩ rfl _ Tryd.underlying55 rfl (.slice F.ca F.code.length F.ccap) (fun w' h' => latH.out hfb fc2 w' (bthen hUH.out.ps.b h')) hH ?_
          simp only [Act.put, List.getElem_toArray, List.getElem_cons_succ, List.getElem_cons_zero, List.setIfInBounds_toArray, List.set_cons_zero, List.set_cons_succ]
          refine reg_move (i := 11) rfl (by kernel_rfl) (by kernel_rfl) (by kernel_rfl) (fun _ _ _ _ h => h) rfl (.pointer (some ⟨CB, 7, none⟩)) (fun _ => by kernel_rfl) hH ?_
          simp only [Act.put, List.getElem_toArray, List.getElem_cons_succ, List.getElem_cons_zero, List.setIfInBounds_toArray, List.set_cons_zero, List.set_cons_succ]
          refine reg_load1 (i := 12) rfl (by kernel_rfl) (by kernel_rfl) (by kernel_rfl) (fun _ _ _ _ h => h) rfl 3 _ rfl ⟨CB, 7, none⟩ rfl _ Tryd.underlying3 rfl (.int .i64 c.frm) (fun w' h' => by have := (hUH.out.cb.later h').at hcwH.out 3 _ rfl; simpa using this) hH ?_
          simp only [Act.put, List.getElem_toArray, List.getElem_cons_succ, List.getElem_cons_zero, List.setIfInBounds_toArray, List.set_cons_zero, List.set_cons_succ]
          refine reg_move (i := 13) rfl (by kernel_rfl) (by kernel_rfl) (by kernel_rfl) (fun _ _ _ _ h => h) rfl (.pointer (some ⟨w.heap.size + 1, 48, none⟩)) (fun _ => by kernel_rfl) hH ?_
          simp only [Act.put, List.getElem_toArray, List.getElem_cons_succ, List.getElem_cons_zero, List.setIfInBounds_toArray, List.set_cons_zero, List.set_cons_succ]
          refine reg_move (i := 14) rfl (by kernel_rfl) (by kernel_rfl) (by kernel_rfl) (fun _ _ _ _ h => h) rfl (.pointer (some ⟨w.heap.size + 1, 48 + c.frm.toNat * 12, none⟩)) (fun wx => by unfold execOp; exact run_valueS (hpg wx)) hH ?_
          simp only [Act.put, List.getElem_toArray, List.getElem_cons_succ, List.getElem_cons_zero, List.setIfInBounds_toArray, List.set_cons_zero, List.set_cons_succ]
          refine reg_move (i := 15) rfl (by kernel_rfl) (by kernel_rfl) (by kernel_rfl) (fun _ _ _ _ h => h) rfl (.pointer (some ⟨w.heap.size + 1, 48 + c.frm.toNat * 12 + 2, none⟩)) (fun _ => by rfl) hH ?_
          simp only [Act.put, List.getElem_toArray, List.getElem_cons_succ, List.getElem_cons_zero, List.setIfInBounds_toArray, List.set_cons_zero, List.set_cons_succ]
          refine reg_load1 (i := 16) rfl (by kernel_rfl) (by kernel_rfl) (by kernel_rfl) (fun _ _ _ _ h => h) rfl 3 _ rfl ⟨w.heap.size + 1, 48 + c.frm.toNat * 12 + 2, none⟩ rfl _ Tryd.underlying3 rfl (.int .i64 g.pc) (fun w' h' => cell_later h' (hgr.out 2 _ rfl)) hH ?_
          simp only [Act.put, List.getElem_toArray, List.getElem_cons_succ, List.getElem_cons_zero, List.setIfInBounds_toArray, List.set_cons_zero, List.set_cons_succ]
          refine reg_move (i := 17) rfl (by kernel_rfl) (by kernel_rfl) (by kernel_rfl) (fun _ _ _ _ h => h) rfl (.pointer (some ⟨ib, io, none⟩)) (fun wx => by unfold execOp; exact run_valueS (hix wx)) hH ?_
          simp only [Act.put, List.getElem_toArray, List.getElem_cons_succ, List.getElem_cons_zero, List.setIfInBounds_toArray, List.set_cons_zero, List.set_cons_succ]
          refine reg_load (i := 18) rfl (by kernel_rfl) (by kernel_rfl) (by kernel_rfl) (fun _ _ _ _ h => h) rfl 74 _ rfl ib io rfl i.cells _ (fun w' h' => fun q v hv => latH.out hib (hrgi q v hv) w' (bthen hUH.out.ps.b h')) Tryd.underlying74 rfl (by kernel_rfl) hH ?_
          simp only [Act.put, List.getElem_toArray, List.getElem_cons_succ, List.getElem_cons_zero, List.setIfInBounds_toArray, List.set_cons_zero, List.set_cons_succ]
          have hH1 : Below wr.heap.size wr (wr.drew.alloc (.cells ZI2 74)) := bthen hH (boxed _ _)
          refine reg_one (i := 19) (by kernel_rfl) rfl rfl (wpList_alloc_big rfl 74 rfl hY1 (wpList_nil (And.intro hH1 fun _ => ?_)))
          simp only [Act.put, List.getElem_toArray, List.getElem_cons_succ, List.getElem_cons_zero, List.setIfInBounds_toArray, List.set_cons_zero, List.set_cons_succ]
          have hH2 : Below wr.heap.size wr (wr.drew.alloc (.cells i.cells.toArray 74)) := bthen hH (boxed _ _)
          refine reg_one (i := 20) (by kernel_rfl) rfl rfl (wpList_store_new (w := wr.drew) rfl 74 _ _ rfl rfl ZI2 i.cells.toArray rfl (by kernel_rfl) hY2 (by simp [Ins.cells, Value.oneCell']) (wpList_nil (And.intro hH2 fun _ => ?_)))
          simp only [Act.put, List.getElem_toArray, List.getElem_cons_succ, List.getElem_cons_zero, List.setIfInBounds_toArray, List.set_cons_zero, List.set_cons_succ]
          refine wpAnyH_done (by kernel_rfl) ?_ _
          have hIb : (wr.drew.alloc (.cells i.cells.toArray 74)).heap[wr.heap.size]? = some (.cells i.cells.toArray 74) := heap_alloc_new wr.drew _
          have j0 : (wr.drew.alloc (.cells i.cells.toArray 74)).cell? ⟨wr.heap.size, 0, none⟩ = some (.int .i64 i.op) := cell_ofG hIb rfl
          have j1 : (wr.drew.alloc (.cells i.cells.toArray 74)).cell? ⟨wr.heap.size, 1, none⟩ = some (.int .i64 i.a) := cell_ofG hIb rfl
          have hbE : Hid (Below w.heap.size w (wr.drew.alloc (.cells i.cells.toArray 74))) := bthen hUH.out.ps.b hH2
          have hszI : wr.drew.heap.size = wr.heap.size := rfl
          rw [hszI]
          generalize wr.drew.alloc (.cells i.cells.toArray 74) = Y at *
          generalize wr.heap.size = IB at *
          clear hH hH1 hH2 hIb hszI hix hfix hrgi ic0 ic1 ic2 ic3 ic4 fc0 fc1 fc2 fc3 hY1 hY2 g0 g1 g2 hgr hU z5 z6 z7 z8 zc hpg d0 d1
          obtain ⟨op, a, b', c', nn⟩ := i
          simp only at j0 j1
          have hR5 : Hid (R = true ↔ (op = 58 ∧ a = n)) := hR4
          clear hR4
          by_cases o : op = 58
          · subst o
            by_cases q : a = n
            · subst q
              have e := Rtrue hR5 ⟨rfl, rfl⟩
              subst e
              clear hR5
              go_wp2
              go_ret
              exact ⟨by simp, hbE.out⟩
            · have e := Rfalse hR5 fun z => q z.2
              subst e
              have d : (a == (n : Int)) = false := by simpa using q
              clear hR5 q
              go_wp2
              go_ret
              exact ⟨rfl, hbE.out⟩
          · have e := Rfalse hR5 fun z => o z.1
            subst e
            have d : (op == 58) = false := by simpa using o
            clear hR5 o
            go_wp2
            go_ret
            exact ⟨rfl, hbE.out⟩
      by_cases o2 : c.off = 2
      · rw [o2] at z6
        have hoff : Hid (c.off = 2) := o2
        clear o2
        by_cases v0 : c.val = 0
        rotate_left
        · have e := Rfalse hR2 fun q => by have h9 := hoff.out; rcases q.1 with z | z | z | z <;> omega
          subst e
          have d : (c.val != 0) = true := by simpa using v0
          generalize c.val = val at *
          clear hR2 v0
          go_wp2
          go_ret
          exact ⟨rfl, hU.out.ps.b⟩
        rw [v0] at z8
        have htst : Hid _ := (show ((c.off = 0 ∧ c.frm = 0 ∧ c.val = 0) ∨ (c.off = 1 ∧ room = 0 ∧ c.shut = false) ∨ (c.off = 2 ∧ room = 0 ∧ c.val = 0) ∨ (c.off = 3 ∧ room = 0 ∧ c.val = 0 ∧ c.shut = true)) from .inr (.inr (.inl ⟨hoff.out, rm0.out, v0⟩)))
        clear v0
        have zc := hU.out.ps.sb.cnt hsH.out
        by_cases f0 : c.frm < 0
        · have e := Rfalse hR2 fun q => by have := (q.2 (by rw [hoff.out]; decide)).1; omega
          subst e
          clear hR2 htst
          go_wp2
          go_ret
          exact ⟨rfl, hU.out.ps.b⟩
        by_cases f1 : s.cnt ≤ c.frm
        · have e := Rfalse hR2 fun q => by have := (q.2 (by rw [hoff.out]; decide)).2.1; omega
          subst e
          have d0 : decide (c.frm < 0) = false := decide_eq_false f0
          have d1 : decide (s.cnt ≤ c.frm) = true := decide_eq_true f1
          clear hR2 htst f0 f1
          go_wp2
          go_ret
          exact ⟨rfl, hU.out.ps.b⟩
        obtain ⟨g, hg, hgm⟩ := get_lt s.gos c.frm.toNat (by rw [hsH.out.lg]; omega)
        have eg : goAt s c.frm = g := go_getD hg
        have hgs : stands M.pr g := by have := hstH.out c.frm.toNat (by omega); rwa [go_getD hg] at this
        rw [eg] at hR2
        have d0 : decide (c.frm < 0) = false := decide_eq_false f0
        have d1 : decide (s.cnt ≤ c.frm) = false := decide_eq_false f1
        have hpg := ixg (w.heap.size + 1) c.frm (by omega) (by omega)
        have hgr : Hid (∀ j u, g.cells[j]? = some u → wr.cell? ⟨w.heap.size + 1, 48 + c.frm.toNat * 12 + j, none⟩ = some u) := fun j u hj => by
          obtain ⟨b, off, ha, _, hc'⟩ := ((hU.out.ps.sb.gos hsH.out).row (i := c.frm.toNat) (row := g.cells) (by rw [List.getElem?_map, hg]; rfl))
          simp only [Option.some.injEq, Addr.mk.injEq, and_true] at ha
          obtain ⟨rfl, rfl⟩ := ha
          rw [Nat.add_assoc]
          exact hc' j u hj
        have g0 : wr.cell? ⟨w.heap.size + 1, 48 + c.frm.toNat * 12, none⟩ = some (.int .i64 g.st) := hgr.out 0 _ rfl
        by_cases s2 : g.st = 2
        rotate_left
        · have e := Rfalse hR2 fun q => s2 (q.2 (by rw [hoff.out]; decide)).2.2.1
          subst e
          have d2 : (g.st != 2) = true := by simpa using s2
          clear hR2 htst hgs hg hgm
          go_wp2
          go_ret
          exact ⟨rfl, hU.out.ps.b⟩
        rw [s2] at g0
        have g1 : wr.cell? ⟨w.heap.size + 1, 48 + c.frm.toNat * 12 + 1, none⟩ = some (.int .i64 g.fn) := hgr.out 1 _ rfl
        have g2 : wr.cell? ⟨w.heap.size + 1, 48 + c.frm.toNat * 12 + 2, none⟩ = some (.int .i64 g.pc) := hgr.out 2 _ rfl
        obtain ⟨F, hFi, hFm⟩ : ∃ F, M.fns[g.fn.toNat]? = some F ∧ F ∈ M.fns := get_lt _ _ (by have h0 := hgs.1; have := hgs.2.1; have h2 : ((M.fns.map MFn.fn).length : Int) = M.fns.length := (by rw [List.length_map]); have h3 : g.fn < ((M.fns.map MFn.fn).length : Int) := this; omega)
        have eF := fnAt_M hFi
        have q0 := hgs.1
        have q1 := hgs.2.2.1
        have q2 : g.pc < F.code.length := by have := hgs.2.2.2.1; rw [eF] at this; exact this
        obtain ⟨m1, m2⟩ := insAt_mem (code := F.code) q1 q2
        obtain ⟨fb, fo, hfix, hfb, fc0, fc1, fc2, fc3⟩ := fn_ix hMH.out.2.2.1 g.fn.toNat F hFi
        obtain ⟨ib, io, hix, hib, ic0, ic1, ic2, ic3, ic4⟩ := ins_ix ((hMH.out.2.2.2.2.2.2 F hFm).1) g.pc.toNat _ m1
        rw [show ((g.pc.toNat : Nat) : Int) = g.pc by omega] at hix
        rw [show ((g.fn.toNat : Nat) : Int) = g.fn by omega] at hfix
        have hR4 : Hid (R = true ↔ ((insAt F.code g.pc).op = 58 ∧ (insAt F.code g.pc).a = n)) := by
          show _ ↔ _
          rw [hR2.out]
          unfold sendsC
          rw [eF]
          exact ⟨fun q => (q.2 (by rw [hoff.out]; decide)).2.2.2, fun q => ⟨htst.out, fun _ => ⟨by omega, by omega, s2, q⟩⟩⟩
        generalize insAt F.code g.pc = i at *
        have hrgi : w.rangeAt ib io i.cells := fun q v hv => by
          match q, hv with
          | 0, hv => cases hv; exact ic0
          | 1, hv => cases hv; exact ic1
          | 2, hv => cases hv; exact ic2
          | 3, hv => cases hv; exact ic3
          | 4, hv => cases hv; exact ic4
        have hUH : Hid (PC w wr M s CB c) := hU.out
        clear hR2 htst s2
        go_wp2_with fail
        obtain ⟨ZI2, hY1, hY2, _⟩ := zero_big (P := Tryd.prog) (t := 74) (n := 5) (by kernel_rfl)
        have hH : Below wr.heap.size wr wr.drew := bey_drew wr
        refine wp_region_held_drew (S := fun w' => Below wr.heap.size wr w') (by kernel_rfl) hH (fun _ => ?_)
        refine reg_move (i := 0) rfl (by kernel_rfl) (by kernel_rfl) (by kernel_rfl) (fun _ _ _ _ h => h) rfl (.pointer (some ⟨w.heap.size, 3, none⟩)) (fun _ => by kernel_rfl) hH ?_
        simp only [Act.put, List.getElem_toArray, List.getElem_cons_succ, List.getElem_cons_zero, List.setIfInBounds_toArray, List.set_cons_zero, List.set_cons_succ]
        refine reg_load1 (i := 1) rfl (by kernel_rfl) (by kernel_rfl) (by kernel_rfl) (fun _ _ _ _ h => h) rfl 24 _ rfl ⟨w.heap.size, 3, none⟩ rfl _ Tryd.underlying24 rfl (.slice M.fa M.fns.length M.fcap) (fun w' h' => (hUH.out.ps.p.later h').2.2.2) hH ?_
        simp only [Act.put, List.getElem_toArray, List.getElem_cons_succ, List.getElem_cons_zero, List.setIfInBounds_toArray, List.set_cons_zero, List.set_cons_succ]
        refine reg_move (i := 2) rfl (by kernel_rfl) (by kernel_rfl) (by kernel_rfl) (fun _ _ _ _ h => h) rfl (.pointer (some ⟨CB, 7, none⟩)) (fun _ => by kernel_rfl) hH ?_
        simp only [Act.put, List.getElem_toArray, List.getElem_cons_succ, List.getElem_cons_zero, List.setIfInBounds_toArray, List.set_cons_zero, List.set_cons_succ]
        refine reg_load1 (i := 3) rfl (by kernel_rfl) (by kernel_rfl) (by kernel_rfl) (fun _ _ _ _ h => h) rfl 3 _ rfl ⟨CB, 7, none⟩ rfl _ Tryd.underlying3 rfl (.int .i64 c.frm) (fun w' h' => by have := (hUH.out.cb.later h').at hcwH.out 3 _ rfl; simpa using this) hH ?_
        simp only [Act.put, List.getElem_toArray, List.getElem_cons_succ, List.getElem_cons_zero, List.setIfInBounds_toArray, List.set_cons_zero, List.set_cons_succ]
        refine reg_move (i := 4) rfl (by kernel_rfl) (by kernel_rfl) (by kernel_rfl) (fun _ _ _ _ h => h) rfl (.pointer (some ⟨w.heap.size + 1, 48, none⟩)) (fun _ => by kernel_rfl) hH ?_
        simp only [Act.put, List.getElem_toArray, List.getElem_cons_succ, List.getElem_cons_zero, List.setIfInBounds_toArray, List.set_cons_zero, List.set_cons_succ]
        refine reg_move (i := 5) rfl (by kernel_rfl) (by kernel_rfl) (by kernel_rfl) (fun _ _ _ _ h => h) rfl (.pointer (some ⟨w.heap.size + 1, 48 + c.frm.toNat * 12, none⟩)) (fun wx => by unfold execOp; exact run_valueS (hpg wx)) hH ?_
        simp only [Act.put, List.getElem_toArray, List.getElem_cons_succ, List.getElem_cons_zero, List.setIfInBounds_toArray, List.set_cons_zero, List.set_cons_succ]
        refine reg_move (i := 6) rfl (by kernel_rfl) (by kernel_rfl) (by kernel_rfl) (fun _ _ _ _ h => h) rfl (.pointer (some ⟨w.heap.size + 1, 48 + c.frm.toNat * 12 + 1, none⟩)) (fun _ => by rfl) hH ?_
        simp only [Act.put, List.getElem_toArray, List.getElem_cons_succ, List.getElem_cons_zero, List.setIfInBounds_toArray, List.set_cons_zero, List.set_cons_succ]
        refine reg_load1 (i := 7) rfl (by kernel_rfl) (by kernel_rfl) (by kernel_rfl) (fun _ _ _ _ h => h) rfl 3 _ rfl ⟨w.heap.size + 1, 48 + c.frm.toNat * 12 + 1, none⟩ rfl _ Tryd.underlying3 rfl (.int .i64 g.fn) (fun w' h' => cell_later h' (hgr.out 1 _ rfl)) hH ?_
        simp only [Act.put, List.getElem_toArray, List.getElem_cons_succ, List.getElem_cons_zero, List.setIfInBounds_toArray, List.set_cons_zero, List.set_cons_succ]
        refine reg_move (i := 8) rfl (by kernel_rfl) (by kernel_rfl) (by kernel_rfl) (fun _ _ _ _ h => h) rfl (.pointer (some ⟨fb, fo, none⟩)) (fun wx => by unfold execOp; exact run_valueS (hfix wx)) hH ?_
        simp only [Act.put, List.getElem_toArray, List.getElem_cons_succ, List.getElem_cons_zero, List.setIfInBounds_toArray, List.set_cons_zero, List.set_cons_succ]
        refine reg_move (i := 9) rfl (by kernel_rfl) (by kernel_rfl) (by kernel_rfl) (fun _ _ _ _ h => h) rfl (.pointer (some ⟨fb, fo + 2, none⟩)) (fun _ => by kernel_rfl) hH ?_
        simp only [Act.put, List.getElem_toArray, List.getElem_cons_succ, List.getElem_cons_zero, List.setIfInBounds_toArray, List.set_cons_zero, List.set_cons_succ]
        refine reg_load1 (i := 10) rfl (by kernel_rfl) (by kernel_rfl) (by kernel_rfl) (fun _ _ _ _ h => h) rfl 55 _ rfl ⟨fb, fo + 2, none⟩ rfl _ Tryd.underlying55 rfl (.slice F.ca F.code.length F.ccap) (fun w' h' => latH.out hfb fc2 w' (bthen hUH.out.ps.b h')) hH ?_
        simp only [Act.put, List.getElem_toArray, List.getElem_cons_succ, List.getElem_cons_zero, List.setIfInBounds_toArray, List.set_cons_zero, List.set_cons_succ]
        refine reg_move (i := 11) rfl (by kernel_rfl) (by kernel_rfl) (by kernel_rfl) (fun _ _ _ _ h => h) rfl (.pointer (some ⟨CB, 7, none⟩)) (fun _ => by kernel_rfl) hH ?_
        simp only [Act.put, List.getElem_toArray, List.getElem_cons_succ, List.getElem_cons_zero, List.setIfInBounds_toArray, List.set_cons_zero, List.set_cons_succ]
        refine reg_load1 (i := 12) rfl (by kernel_rfl) (by kernel_rfl) (by kernel_rfl) (fun _ _ _ _ h => h) rfl 3 _ rfl ⟨CB, 7, none⟩ rfl _ Tryd.underlying3 rfl (.int .i64 c.frm) (fun w' h' => by have := (hUH.out.cb.later h').at hcwH.out 3 _ rfl; simpa using this) hH ?_
        simp only [Act.put, List.getElem_toArray, List.getElem_cons_succ, List.getElem_cons_zero, List.setIfInBounds_toArray, List.set_cons_zero, List.set_cons_succ]
        refine reg_move (i := 13) rfl (by kernel_rfl) (by kernel_rfl) (by kernel_rfl) (fun _ _ _ _ h => h) rfl (.pointer (some ⟨w.heap.size + 1, 48, none⟩)) (fun _ => by kernel_rfl) hH ?_
        simp only [Act.put, List.getElem_toArray, List.getElem_cons_succ, List.getElem_cons_zero, List.setIfInBounds_toArray, List.set_cons_zero, List.set_cons_succ]
        refine reg_move (i := 14) rfl (by kernel_rfl) (by kernel_rfl) (by kernel_rfl) (fun _ _ _ _ h => h) rfl (.pointer (some ⟨w.heap.size + 1, 48 + c.frm.toNat * 12, none⟩)) (fun wx => by unfold execOp; exact run_valueS (hpg wx)) hH ?_
        simp only [Act.put, List.getElem_toArray, List.getElem_cons_succ, List.getElem_cons_zero, List.setIfInBounds_toArray, List.set_cons_zero, List.set_cons_succ]
        refine reg_move (i := 15) rfl (by kernel_rfl) (by kernel_rfl) (by kernel_rfl) (fun _ _ _ _ h => h) rfl (.pointer (some ⟨w.heap.size + 1, 48 + c.frm.toNat * 12 + 2, none⟩)) (fun _ => by rfl) hH ?_
        simp only [Act.put, List.getElem_toArray, List.getElem_cons_succ, List.getElem_cons_zero, List.setIfInBounds_toArray, List.set_cons_zero, List.set_cons_succ]
        refine reg_load1 (i := 16) rfl (by kernel_rfl) (by kernel_rfl) (by kernel_rfl) (fun _ _ _ _ h => h) rfl 3 _ rfl ⟨w.heap.size + 1, 48 + c.frm.toNat * 12 + 2, none⟩ rfl _ Tryd.underlying3 rfl (.int .i64 g.pc) (fun w' h' => cell_later h' (hgr.out 2 _ rfl)) hH ?_
        simp only [Act.put, List.getElem_toArray, List.getElem_cons_succ, List.getElem_cons_zero, List.setIfInBounds_toArray, List.set_cons_zero, List.set_cons_succ]
        refine reg_move (i := 17) rfl (by kernel_rfl) (by kernel_rfl) (by kernel_rfl) (fun _ _ _ _ h => h) rfl (.pointer (some ⟨ib, io, none⟩)) (fun wx => by unfold execOp; exact run_valueS (hix wx)) hH ?_
        simp only [Act.put, List.getElem_toArray, List.getElem_cons_succ, List.getElem_cons_zero, List.setIfInBounds_toArray, List.set_cons_zero, List.set_cons_succ]
        refine reg_load (i := 18) rfl (by kernel_rfl) (by kernel_rfl) (by kernel_rfl) (fun _ _ _ _ h => h) rfl 74 _ rfl ib io rfl i.cells _ (fun w' h' => fun q v hv => latH.out hib (hrgi q v hv) w' (bthen hUH.out.ps.b h')) Tryd.underlying74 rfl (by kernel_rfl) hH ?_
        simp only [Act.put, List.getElem_toArray, List.getElem_cons_succ, List.getElem_cons_zero, List.setIfInBounds_toArray, List.set_cons_zero, List.set_cons_succ]
        have hH1 : Below wr.heap.size wr (wr.drew.alloc (.cells ZI2 74)) := bthen hH (boxed _ _)
        refine reg_one (i := 19) (by kernel_rfl) rfl rfl (wpList_alloc_big rfl 74 rfl hY1 (wpList_nil (And.intro hH1 fun _ => ?_)))
        simp only [Act.put, List.getElem_toArray, List.getElem_cons_succ, List.getElem_cons_zero, List.setIfInBounds_toArray, List.set_cons_zero, List.set_cons_succ]
        have hH2 : Below wr.heap.size wr (wr.drew.alloc (.cells i.cells.toArray 74)) := bthen hH (boxed _ _)
        refine reg_one (i := 20) (by kernel_rfl) rfl rfl (wpList_store_new (w := wr.drew) rfl 74 _ _ rfl rfl ZI2 i.cells.toArray rfl (by kernel_rfl) hY2 (by simp [Ins.cells, Value.oneCell']) (wpList_nil (And.intro hH2 fun _ => ?_)))
        simp only [Act.put, List.getElem_toArray, List.getElem_cons_succ, List.getElem_cons_zero, List.setIfInBounds_toArray, List.set_cons_zero, List.set_cons_succ]
        refine wpAnyH_done (by kernel_rfl) ?_ _
        have hIb : (wr.drew.alloc (.cells i.cells.toArray 74)).heap[wr.heap.size]? = some (.cells i.cells.toArray 74) := heap_alloc_new wr.drew _
        have j0 : (wr.drew.alloc (.cells i.cells.toArray 74)).cell? ⟨wr.heap.size, 0, none⟩ = some (.int .i64 i.op) := cell_ofG hIb rfl
        have j1 : (wr.drew.alloc (.cells i.cells.toArray 74)).cell? ⟨wr.heap.size, 1, none⟩ = some (.int .i64 i.a) := cell_ofG hIb rfl
        have hbE : Hid (Below w.heap.size w (wr.drew.alloc (.cells i.cells.toArray 74))) := bthen hUH.out.ps.b hH2
        have hszI : wr.drew.heap.size = wr.heap.size := rfl
        rw [hszI]
        generalize wr.drew.alloc (.cells i.cells.toArray 74) = Y at *
        generalize wr.heap.size = IB at *
        clear hH hH1 hH2 hIb hszI hix hfix hrgi ic0 ic1 ic2 ic3 ic4 fc0 fc1 fc2 fc3 hY1 hY2 g0 g1 g2 hgr hU z5 z6 z7 z8 zc hpg d0 d1
        obtain ⟨op, a, b', c', nn⟩ := i
        simp only at j0 j1
        have hR5 : Hid (R = true ↔ (op = 58 ∧ a = n)) := hR4
        clear hR4
        by_cases o : op = 58
        · subst o
          by_cases q : a = n
          · subst q
            have e := Rtrue hR5 ⟨rfl, rfl⟩
            subst e
            clear hR5
            go_wp2
            go_ret
            exact ⟨by simp, hbE.out⟩
          · have e := Rfalse hR5 fun z => q z.2
            subst e
            have d : (a == (n : Int)) = false := by simpa using q
            clear hR5 q
            go_wp2
            go_ret
            exact ⟨rfl, hbE.out⟩
        · have e := Rfalse hR5 fun z => o z.1
          subst e
          have d : (op == 58) = false := by simpa using o
          clear hR5 o
          go_wp2
          go_ret
          exact ⟨rfl, hbE.out⟩
      have o3 : c.off = 3 := by omega
      rw [o3] at z6
      have hoff : Hid (c.off = 3) := o3
      clear o3
      by_cases v0 : c.val = 0
      rotate_left
      · have e := Rfalse hR2 fun q => by have h9 := hoff.out; rcases q.1 with z | z | z | z <;> omega
        subst e
        have d : (c.val != 0) = true := by simpa using v0
        generalize c.val = val at *
        clear hR2 v0
        go_wp2
        go_ret
        exact ⟨rfl, hU.out.ps.b⟩
      rw [v0] at z8
      cases hsh : c.shut with
      | false =>
        have e := Rfalse hR2 fun q => by have h9 := hoff.out; rcases q.1 with z | z | z | z <;> simp_all
        subst e
        rw [hsh] at z5
        clear hR2 hsh v0
        go_wp2
        go_ret
        exact ⟨rfl, hU.out.ps.b⟩
      | true =>
        rw [hsh] at z5
        have htst : Hid _ := (show ((c.off = 0 ∧ c.frm = 0 ∧ c.val = 0) ∨ (c.off = 1 ∧ room = 0 ∧ c.shut = false) ∨ (c.off = 2 ∧ room = 0 ∧ c.val = 0) ∨ (c.off = 3 ∧ room = 0 ∧ c.val = 0 ∧ c.shut = true)) from .inr (.inr (.inr ⟨hoff.out, rm0.out, v0, hsh⟩)))
        clear hsh v0
        have zc := hU.out.ps.sb.cnt hsH.out
        by_cases f0 : c.frm < 0
        · have e := Rfalse hR2 fun q => by have := (q.2 (by rw [hoff.out]; decide)).1; omega
          subst e
          clear hR2 htst
          go_wp2
          go_ret
          exact ⟨rfl, hU.out.ps.b⟩
        by_cases f1 : s.cnt ≤ c.frm
        · have e := Rfalse hR2 fun q => by have := (q.2 (by rw [hoff.out]; decide)).2.1; omega
          subst e
          have d0 : decide (c.frm < 0) = false := decide_eq_false f0
          have d1 : decide (s.cnt ≤ c.frm) = true := decide_eq_true f1
          clear hR2 htst f0 f1
          go_wp2
          go_ret
          exact ⟨rfl, hU.out.ps.b⟩
        obtain ⟨g, hg, hgm⟩ := get_lt s.gos c.frm.toNat (by rw [hsH.out.lg]; omega)
        have eg : goAt s c.frm = g := go_getD hg
        have hgs : stands M.pr g := by have := hstH.out c.frm.toNat (by omega); rwa [go_getD hg] at this
        rw [eg] at hR2
        have d0 : decide (c.frm < 0) = false := decide_eq_false f0
        have d1 : decide (s.cnt ≤ c.frm) = false := decide_eq_false f1
        have hpg := ixg (w.heap.size + 1) c.frm (by omega) (by omega)
        have hgr : Hid (∀ j u, g.cells[j]? = some u → wr.cell? ⟨w.heap.size + 1, 48 + c.frm.toNat * 12 + j, none⟩ = some u) := fun j u hj => by
          obtain ⟨b, off, ha, _, hc'⟩ := ((hU.out.ps.sb.gos hsH.out).row (i := c.frm.toNat) (row := g.cells) (by rw [List.getElem?_map, hg]; rfl))
          simp only [Option.some.injEq, Addr.mk.injEq, and_true] at ha
          obtain ⟨rfl, rfl⟩ := ha
          rw [Nat.add_assoc]
          exact hc' j u hj
        have g0 : wr.cell? ⟨w.heap.size + 1, 48 + c.frm.toNat * 12, none⟩ = some (.int .i64 g.st) := hgr.out 0 _ rfl
        by_cases s2 : g.st = 2
        rotate_left
        · have e := Rfalse hR2 fun q => s2 (q.2 (by rw [hoff.out]; decide)).2.2.1
          subst e
          have d2 : (g.st != 2) = true := by simpa using s2
          clear hR2 htst hgs hg hgm
          go_wp2
          go_ret
          exact ⟨rfl, hU.out.ps.b⟩
        rw [s2] at g0
        have g1 : wr.cell? ⟨w.heap.size + 1, 48 + c.frm.toNat * 12 + 1, none⟩ = some (.int .i64 g.fn) := hgr.out 1 _ rfl
        have g2 : wr.cell? ⟨w.heap.size + 1, 48 + c.frm.toNat * 12 + 2, none⟩ = some (.int .i64 g.pc) := hgr.out 2 _ rfl
        obtain ⟨F, hFi, hFm⟩ : ∃ F, M.fns[g.fn.toNat]? = some F ∧ F ∈ M.fns := get_lt _ _ (by have h0 := hgs.1; have := hgs.2.1; have h2 : ((M.fns.map MFn.fn).length : Int) = M.fns.length := (by rw [List.length_map]); have h3 : g.fn < ((M.fns.map MFn.fn).length : Int) := this; omega)
        have eF := fnAt_M hFi
        have q0 := hgs.1
        have q1 := hgs.2.2.1
        have q2 : g.pc < F.code.length := by have := hgs.2.2.2.1; rw [eF] at this; exact this
        obtain ⟨m1, m2⟩ := insAt_mem (code := F.code) q1 q2
        obtain ⟨fb, fo, hfix, hfb, fc0, fc1, fc2, fc3⟩ := fn_ix hMH.out.2.2.1 g.fn.toNat F hFi
        obtain ⟨ib, io, hix, hib, ic0, ic1, ic2, ic3, ic4⟩ := ins_ix ((hMH.out.2.2.2.2.2.2 F hFm).1) g.pc.toNat _ m1
        rw [show ((g.pc.toNat : Nat) : Int) = g.pc by omega] at hix
        rw [show ((g.fn.toNat : Nat) : Int) = g.fn by omega] at hfix
        have hR4 : Hid (R = true ↔ ((insAt F.code g.pc).op = 58 ∧ (insAt F.code g.pc).a = n)) := by
          show _ ↔ _
          rw [hR2.out]
          unfold sendsC
          rw [eF]
          exact ⟨fun q => (q.2 (by rw [hoff.out]; decide)).2.2.2, fun q => ⟨htst.out, fun _ => ⟨by omega, by omega, s2, q⟩⟩⟩
        generalize insAt F.code g.pc = i at *
        have hrgi : w.rangeAt ib io i.cells := fun q v hv => by
          match q, hv with
          | 0, hv => cases hv; exact ic0
          | 1, hv => cases hv; exact ic1
          | 2, hv => cases hv; exact ic2
          | 3, hv => cases hv; exact ic3
          | 4, hv => cases hv; exact ic4
        have hUH : Hid (PC w wr M s CB c) := hU.out
        clear hR2 htst s2
        go_wp2_with fail
        obtain ⟨ZI2, hY1, hY2, _⟩ := zero_big (P := Tryd.prog) (t := 74) (n := 5) (by kernel_rfl)
        have hH : Below wr.heap.size wr wr.drew := bey_drew wr
        refine wp_region_held_drew (S := fun w' => Below wr.heap.size wr w') (by kernel_rfl) hH (fun _ => ?_)
        refine reg_move (i := 0) rfl (by kernel_rfl) (by kernel_rfl) (by kernel_rfl) (fun _ _ _ _ h => h) rfl (.pointer (some ⟨w.heap.size, 3, none⟩)) (fun _ => by kernel_rfl) hH ?_
        simp only [Act.put, List.getElem_toArray, List.getElem_cons_succ, List.getElem_cons_zero, List.setIfInBounds_toArray, List.set_cons_zero, List.set_cons_succ]
        refine reg_load1 (i := 1) rfl (by kernel_rfl) (by kernel_rfl) (by kernel_rfl) (fun _ _ _ _ h => h) rfl 24 _ rfl ⟨w.heap.size, 3, none⟩ rfl _ Tryd.underlying24 rfl (.slice M.fa M.fns.length M.fcap) (fun w' h' => (hUH.out.ps.p.later h').2.2.2) hH ?_
        simp only [Act.put, List.getElem_toArray, List.getElem_cons_succ, List.getElem_cons_zero, List.setIfInBounds_toArray, List.set_cons_zero, List.set_cons_succ]
        refine reg_move (i := 2) rfl (by kernel_rfl) (by kernel_rfl) (by kernel_rfl) (fun _ _ _ _ h => h) rfl (.pointer (some ⟨CB, 7, none⟩)) (fun _ => by kernel_rfl) hH ?_
        simp only [Act.put, List.getElem_toArray, List.getElem_cons_succ, List.getElem_cons_zero, List.setIfInBounds_toArray, List.set_cons_zero, List.set_cons_succ]
        refine reg_load1 (i := 3) rfl (by kernel_rfl) (by kernel_rfl) (by kernel_rfl) (fun _ _ _ _ h => h) rfl 3 _ rfl ⟨CB, 7, none⟩ rfl _ Tryd.underlying3 rfl (.int .i64 c.frm) (fun w' h' => by have := (hUH.out.cb.later h').at hcwH.out 3 _ rfl; simpa using this) hH ?_
        simp only [Act.put, List.getElem_toArray, List.getElem_cons_succ, List.getElem_cons_zero, List.setIfInBounds_toArray, List.set_cons_zero, List.set_cons_succ]
        refine reg_move (i := 4) rfl (by kernel_rfl) (by kernel_rfl) (by kernel_rfl) (fun _ _ _ _ h => h) rfl (.pointer (some ⟨w.heap.size + 1, 48, none⟩)) (fun _ => by kernel_rfl) hH ?_
        simp only [Act.put, List.getElem_toArray, List.getElem_cons_succ, List.getElem_cons_zero, List.setIfInBounds_toArray, List.set_cons_zero, List.set_cons_succ]
        refine reg_move (i := 5) rfl (by kernel_rfl) (by kernel_rfl) (by kernel_rfl) (fun _ _ _ _ h => h) rfl (.pointer (some ⟨w.heap.size + 1, 48 + c.frm.toNat * 12, none⟩)) (fun wx => by unfold execOp; exact run_valueS (hpg wx)) hH ?_
        simp only [Act.put, List.getElem_toArray, List.getElem_cons_succ, List.getElem_cons_zero, List.setIfInBounds_toArray, List.set_cons_zero, List.set_cons_succ]
        refine reg_move (i := 6) rfl (by kernel_rfl) (by kernel_rfl) (by kernel_rfl) (fun _ _ _ _ h => h) rfl (.pointer (some ⟨w.heap.size + 1, 48 + c.frm.toNat * 12 + 1, none⟩)) (fun _ => by rfl) hH ?_
        simp only [Act.put, List.getElem_toArray, List.getElem_cons_succ, List.getElem_cons_zero, List.setIfInBounds_toArray, List.set_cons_zero, List.set_cons_succ]
        refine reg_load1 (i := 7) rfl (by kernel_rfl) (by kernel_rfl) (by kernel_rfl) (fun _ _ _ _ h => h) rfl 3 _ rfl ⟨w.heap.size + 1, 48 + c.frm.toNat * 12 + 1, none⟩ rfl _ Tryd.underlying3 rfl (.int .i64 g.fn) (fun w' h' => cell_later h' (hgr.out 1 _ rfl)) hH ?_
        simp only [Act.put, List.getElem_toArray, List.getElem_cons_succ, List.getElem_cons_zero, List.setIfInBounds_toArray, List.set_cons_zero, List.set_cons_succ]
        refine reg_move (i := 8) rfl (by kernel_rfl) (by kernel_rfl) (by kernel_rfl) (fun _ _ _ _ h => h) rfl (.pointer (some ⟨fb, fo, none⟩)) (fun wx => by unfold execOp; exact run_valueS (hfix wx)) hH ?_
        simp only [Act.put, List.getElem_toArray, List.getElem_cons_succ, List.getElem_cons_zero, List.setIfInBounds_toArray, List.set_cons_zero, List.set_cons_succ]
        refine reg_move (i := 9) rfl (by kernel_rfl) (by kernel_rfl) (by kernel_rfl) (fun _ _ _ _ h => h) rfl (.pointer (some ⟨fb, fo + 2, none⟩)) (fun _ => by kernel_rfl) hH ?_
        simp only [Act.put, List.getElem_toArray, List.getElem_cons_succ, List.getElem_cons_zero, List.setIfInBounds_toArray, List.set_cons_zero, List.set_cons_succ]
        refine reg_load1 (i := 10) rfl (by kernel_rfl) (by kernel_rfl) (by kernel_rfl) (fun _ _ _ _ h => h) rfl 55 _ rfl ⟨fb, fo + 2, none⟩ rfl _ Tryd.underlying55 rfl (.slice F.ca F.code.length F.ccap) (fun w' h' => latH.out hfb fc2 w' (bthen hUH.out.ps.b h')) hH ?_
        simp only [Act.put, List.getElem_toArray, List.getElem_cons_succ, List.getElem_cons_zero, List.setIfInBounds_toArray, List.set_cons_zero, List.set_cons_succ]
        refine reg_move (i := 11) rfl (by kernel_rfl) (by kernel_rfl) (by kernel_rfl) (fun _ _ _ _ h => h) rfl (.pointer (some ⟨CB, 7, none⟩)) (fun _ => by kernel_rfl) hH ?_
        simp only [Act.put, List.getElem_toArray, List.getElem_cons_succ, List.getElem_cons_zero, List.setIfInBounds_toArray, List.set_cons_zero, List.set_cons_succ]
        refine reg_load1 (i := 12) rfl (by kernel_rfl) (by kernel_rfl) (by kernel_rfl) (fun _ _ _ _ h => h) rfl 3 _ rfl ⟨CB, 7, none⟩ rfl _ Tryd.underlying3 rfl (.int .i64 c.frm) (fun w' h' => by have := (hUH.out.cb.later h').at hcwH.out 3 _ rfl; simpa using this) hH ?_
        simp only [Act.put, List.getElem_toArray, List.getElem_cons_succ, List.getElem_cons_zero, List.setIfInBounds_toArray, List.set_cons_zero, List.set_cons_succ]
        refine reg_move (i := 13) rfl (by kernel_rfl) (by kernel_rfl) (by kernel_rfl) (fun _ _ _ _ h => h) rfl (.pointer (some ⟨w.heap.size + 1, 48, none⟩)) (fun _ => by kernel_rfl) hH ?_
        simp only [Act.put, List.getElem_toArray, List.getElem_cons_succ, List.getElem_cons_zero, List.setIfInBounds_toArray, List.set_cons_zero, List.set_cons_succ]
        refine reg_move (i := 14) rfl (by kernel_rfl) (by kernel_rfl) (by kernel_rfl) (fun _ _ _ _ h => h) rfl (.pointer (some ⟨w.heap.size + 1, 48 + c.frm.toNat * 12, none⟩)) (fun wx => by unfold execOp; exact run_valueS (hpg wx)) hH ?_
        simp only [Act.put, List.getElem_toArray, List.getElem_cons_succ, List.getElem_cons_zero, List.setIfInBounds_toArray, List.set_cons_zero, List.set_cons_succ]
        refine reg_move (i := 15) rfl (by kernel_rfl) (by kernel_rfl) (by kernel_rfl) (fun _ _ _ _ h => h) rfl (.pointer (some ⟨w.heap.size + 1, 48 + c.frm.toNat * 12 + 2, none⟩)) (fun _ => by rfl) hH ?_
        simp only [Act.put, List.getElem_toArray, List.getElem_cons_succ, List.getElem_cons_zero, List.setIfInBounds_toArray, List.set_cons_zero, List.set_cons_succ]
        refine reg_load1 (i := 16) rfl (by kernel_rfl) (by kernel_rfl) (by kernel_rfl) (fun _ _ _ _ h => h) rfl 3 _ rfl ⟨w.heap.size + 1, 48 + c.frm.toNat * 12 + 2, none⟩ rfl _ Tryd.underlying3 rfl (.int .i64 g.pc) (fun w' h' => cell_later h' (hgr.out 2 _ rfl)) hH ?_
        simp only [Act.put, List.getElem_toArray, List.getElem_cons_succ, List.getElem_cons_zero, List.setIfInBounds_toArray, List.set_cons_zero, List.set_cons_succ]
        refine reg_move (i := 17) rfl (by kernel_rfl) (by kernel_rfl) (by kernel_rfl) (fun _ _ _ _ h => h) rfl (.pointer (some ⟨ib, io, none⟩)) (fun wx => by unfold execOp; exact run_valueS (hix wx)) hH ?_
        simp only [Act.put, List.getElem_toArray, List.getElem_cons_succ, List.getElem_cons_zero, List.setIfInBounds_toArray, List.set_cons_zero, List.set_cons_succ]
        refine reg_load (i := 18) rfl (by kernel_rfl) (by kernel_rfl) (by kernel_rfl) (fun _ _ _ _ h => h) rfl 74 _ rfl ib io rfl i.cells _ (fun w' h' => fun q v hv => latH.out hib (hrgi q v hv) w' (bthen hUH.out.ps.b h')) Tryd.underlying74 rfl (by kernel_rfl) hH ?_
        simp only [Act.put, List.getElem_toArray, List.getElem_cons_succ, List.getElem_cons_zero, List.setIfInBounds_toArray, List.set_cons_zero, List.set_cons_succ]
        have hH1 : Below wr.heap.size wr (wr.drew.alloc (.cells ZI2 74)) := bthen hH (boxed _ _)
        refine reg_one (i := 19) (by kernel_rfl) rfl rfl (wpList_alloc_big rfl 74 rfl hY1 (wpList_nil (And.intro hH1 fun _ => ?_)))
        simp only [Act.put, List.getElem_toArray, List.getElem_cons_succ, List.getElem_cons_zero, List.setIfInBounds_toArray, List.set_cons_zero, List.set_cons_succ]
        have hH2 : Below wr.heap.size wr (wr.drew.alloc (.cells i.cells.toArray 74)) := bthen hH (boxed _ _)
        refine reg_one (i := 20) (by kernel_rfl) rfl rfl (wpList_store_new (w := wr.drew) rfl 74 _ _ rfl rfl ZI2 i.cells.toArray rfl (by kernel_rfl) hY2 (by simp [Ins.cells, Value.oneCell']) (wpList_nil (And.intro hH2 fun _ => ?_)))
        simp only [Act.put, List.getElem_toArray, List.getElem_cons_succ, List.getElem_cons_zero, List.setIfInBounds_toArray, List.set_cons_zero, List.set_cons_succ]
        refine wpAnyH_done (by kernel_rfl) ?_ _
        have hIb : (wr.drew.alloc (.cells i.cells.toArray 74)).heap[wr.heap.size]? = some (.cells i.cells.toArray 74) := heap_alloc_new wr.drew _
        have j0 : (wr.drew.alloc (.cells i.cells.toArray 74)).cell? ⟨wr.heap.size, 0, none⟩ = some (.int .i64 i.op) := cell_ofG hIb rfl
        have j1 : (wr.drew.alloc (.cells i.cells.toArray 74)).cell? ⟨wr.heap.size, 1, none⟩ = some (.int .i64 i.a) := cell_ofG hIb rfl
        have hbE : Hid (Below w.heap.size w (wr.drew.alloc (.cells i.cells.toArray 74))) := bthen hUH.out.ps.b hH2
        have hszI : wr.drew.heap.size = wr.heap.size := rfl
        rw [hszI]
        generalize wr.drew.alloc (.cells i.cells.toArray 74) = Y at *
        generalize wr.heap.size = IB at *
        clear hH hH1 hH2 hIb hszI hix hfix hrgi ic0 ic1 ic2 ic3 ic4 fc0 fc1 fc2 fc3 hY1 hY2 g0 g1 g2 hgr hU z5 z6 z7 z8 zc hpg d0 d1
        obtain ⟨op, a, b', c', nn⟩ := i
        simp only at j0 j1
        have hR5 : Hid (R = true ↔ (op = 58 ∧ a = n)) := hR4
        clear hR4
        by_cases o : op = 58
        · subst o
          by_cases q : a = n
          · subst q
            have e := Rtrue hR5 ⟨rfl, rfl⟩
            subst e
            clear hR5
            go_wp2
            go_ret
            exact ⟨by simp, hbE.out⟩
          · have e := Rfalse hR5 fun z => q z.2
            subst e
            have d : (a == (n : Int)) = false := by simpa using q
            clear hR5 q
            go_wp2
            go_ret
            exact ⟨rfl, hbE.out⟩
        · have e := Rfalse hR5 fun z => o z.1
          subst e
          have d : (op == 58) = false := by simpa using o
          clear hR5 o
          go_wp2
          go_ret
          exact ⟨rfl, hbE.out⟩
end Go.Proofs.YtjcmhaaohdmjpaaDoor.pg
/- Is a state one of a program: the document's own Valid. -/
namespace Go.Proofs.YtjcmhaaohdmjpaaDoor.pg
open Go.ChangeShapes Go.WideShapes Go.ChangeAt Go.RowKit
set_option linter.unusedVariables false
set_option linter.unusedSimpArgs false
set_option maxRecDepth 100000
/-- A struct built, in every world of the class. -/
theorem quiet_bld {P : Program} {S : World → Prop} {K : Act → Prop} {o : Oper} {a : Act} (t : TypeId) (parts : Array (Nat × Operand)) (ho : o.op = .build t parts) (vs : Array (Nat × Value)) (hp : (parts.map fun (i, x) => (i, a.eval x)) = vs) (v : Value) (hr : ∀ w, (Instr.build t vs).run P w = .ok v w)
    (hk : K (a.put o.dst v)) : o.quiet P a (fun w' => ∃ s : Cls S, w' = s.w) K :=
  ⟨_, fun w hw => by
    unfold Oper.quietAt execOp
    simp only [ho, hp, Sem.run_bind, Sem.run_pure, Result.andThen_ok, hr]
    exact ⟨rfl, rfl⟩, hk⟩
/-- Two structs compared, in every world of the class. -/
theorem quiet_neq {P : Program} {S : World → Prop} {K : Act → Prop} {o : Oper} {a : Act} (t t2 : TypeId) (x y : Operand) (ho : o.op = .binOp .neq t x y t2) (u v : Array Value) (hx : a.eval x = .agg u) (hy : a.eval y = .agg v) (hm : P.eqGuardType P.depth t = false) (r : Value) (hr : ∀ w, (binOp .neq t (.agg u) (.agg v)).run P w = .ok r w)
    (hk : K (a.put o.dst r)) : o.quiet P a (fun w' => ∃ s : Cls S, w' = s.w) K :=
  ⟨_, fun w hw => by
    unfold Oper.quietAt execOp
    simp only [ho, hx, hy, run_eqGuard_agg (op := .neq) (hm := hm), Sem.run_bind, Sem.run_pure, Result.andThen_ok, hr]
    exact ⟨rfl, rfl⟩, hk⟩
theorem wpList_neq_g {P : Program} {ops : Array Oper} {rest : List Oper} {o : Oper} {a : Act} {w : World} {Q : Exit → Act → World → Prop} (t t2 : TypeId) (x y : Operand) (ho : o.op = .binOp .neq t x y t2) (hw : Region.wanted o (yielded ops a.tmps) = true) (u v : Array Value) (hx : a.eval x = .agg u) (hy : a.eval y = .agg v) (hm : P.eqGuardType P.depth t = false) (r : Value) (hr : ∀ w, (binOp .neq t (.agg u) (.agg v)).run P w = .ok r w)
    (h : wpList P ops Q rest (a.put o.dst r) w) : wpList P ops Q (o :: rest) a w := BigFrame.wpList_want hw fun K hK => by
  unfold Oper.wp execOp
  simp only [ho, hx, hy, run_eqGuard_agg (op := .neq) (hm := hm), Sem.run_bind, Sem.run_pure, Result.andThen_ok, hr]
  exact hK _ _ h
theorem wpList_bld_g {P : Program} {ops : Array Oper} {rest : List Oper} {o : Oper} {a : Act} {w : World} {Q : Exit → Act → World → Prop} (t : TypeId) (parts : Array (Nat × Operand)) (ho : o.op = .build t parts) (hw : Region.wanted o (yielded ops a.tmps) = true) (vs : Array (Nat × Value)) (hp : (parts.map fun (i, x) => (i, a.eval x)) = vs) (v : Value) (hr : ∀ w, (Instr.build t vs).run P w = .ok v w)
    (h : wpList P ops Q rest (a.put o.dst v) w) : wpList P ops Q (o :: rest) a w := BigFrame.wpList_want hw fun K hK => by
  unfold Oper.wp execOp
  simp only [ho, hp, Sem.run_bind, Sem.run_pure, Result.andThen_ok, hr]
  exact hK _ _ h
theorem wpList_load_h {P : Program} {ops : Array Oper} {rest : List Oper} {op : Oper} {a : Act} {w : World} {Q : Exit → Act → World → Prop} (ty : TypeId) (x : Operand) (ho : op.op = .load ty x) (b o : Nat) (hx : a.eval x = .pointer (some ⟨b, o, none⟩)) (hw : Region.wanted op (yielded ops a.tmps) = true) (cs : List Value) (d : TypeDesc) (hc : w.rangeAt b o cs)
    (hu : P.underlying ty = some d) (hd : d.isRow = true) (hi : (P.info? ty).map (·.size) = some cs.length)
    (h : wpList P ops Q rest (a.put op.dst (.agg cs.toArray)) w) : wpList P ops Q (op :: rest) a w := wpList_load_g hw ty x ho b o hx cs d hc hu hd hi h
/-- The walk stops here. -/
def Stopped (p : Prop) : Prop := p
theorem stop_in {p : Prop} (h : Stopped p) : p := h
theorem stop_out {p : Prop} (h : p) : Stopped p := h
theorem at_load {P : Program} {ops : Array Oper} {rest : List Oper} {op : Oper} {a : Act} {w : World} {Q : Exit → Act → World → Prop} (ty : TypeId) (x : Operand) (ho : op.op = .load ty x) (h : Stopped (wpList P ops Q (op :: rest) a w)) : wpList P ops Q (op :: rest) a w := h
theorem bld_C0 (w : World) : (Instr.build 32 #[]).run Tryd.prog w = .ok zeroC.vl w := by kernel_rfl
/-- One goroutine, one owner, one channel, one that waits: what each must be. -/
def goR (P : Pr) (s : Sts) (i : Nat) : Prop := ((i : Int) < s.cnt → stands P (s.gos.getD i zeroG)) ∧ (s.cnt ≤ (i : Int) → s.gos.getD i zeroG = zeroG)
def owR (P : Pr) (s : Sts) (x : Int) (i : Nat) : Prop := 0 ≤ x ∧ x ≤ s.cnt ∧ (P.locks ≤ (i : Int) → x = 0)
def chR (P : Pr) (s : Sts) (i : Nat) : Prop := (P.chans.length ≤ i → chAt s i = zeroC) ∧ (i < P.chans.length → chanR P s i)
def waR (s : Sts) (g : Nat) : Prop := (s.gos.getD g zeroG).st = 2 → offs s g 4 = 1
theorem owR_get (s : Sts) (hs : s.wf) {i : Nat} (hi : i < 4) : ∃ x, s.own[i]? = some x ∧ x ∈ s.own ∧ s.own.getD i 0 = x := by
  obtain ⟨x, hx, hm⟩ := get_lt s.own i (by rw [hs.lo]; exact hi)
  exact ⟨x, hx, hm, by rw [List.getD_eq_getElem?_getD, hx]; rfl⟩
theorem valid_of {P : Pr} {s : Sts} (hs : s.wf) (hr : (chk insP P).1 = 0) (c1 : 1 ≤ s.cnt) (c6 : s.cnt ≤ 6) (hl : 0 ≤ P.locks) (hg : ∀ i, i < 6 → goR P s i) (hv : ∀ i, P.vars.length ≤ i → i < 8 → s.vars.getD i 0 = 0) (ho : ∀ i, i < 4 → owR P s (s.own.getD i 0) i) (hc : ∀ i, i < 4 → chR P s i) (hcl : P.chans.length ≤ 4) (hw : ∀ g : Nat, (g : Int) < s.cnt → waR s g) : validS P s := by
  refine ⟨hr, ⟨c1, c6, fun i h1 h2 => (hg i h2).2 (by omega), fun i hi => ?_, fun i hi => ?_, fun i h1 h2 => (hc i h2).1 h1⟩, fun i hi => (hg i (by omega)).1 (by omega), fun x hx => ?_, fun n hn => ((hc n (by omega)).2 hn).1, fun n hn h0 => ?_, fun g hg6 h2 => ?_⟩
  · by_cases q : i < 8
    · exact hv i hi q
    · rw [List.getD_eq_getElem?_getD, List.getElem?_eq_none (by have := hs.lv; omega)]; rfl
  · by_cases q : i < 4
    · exact (ho i q).2.2 (by omega)
    · rw [List.getD_eq_getElem?_getD, List.getElem?_eq_none (by have := hs.lo; omega)]; rfl
  · obtain ⟨i, hi, rfl⟩ := List.mem_iff_getElem.mp hx
    have h4 : i < 4 := by have := hs.lo; omega
    have := ho i h4
    rw [List.getD_eq_getElem?_getD, List.getElem?_eq_getElem hi] at this
    exact ⟨this.1, this.2.1⟩
  · by_cases q : n < P.chans.length
    · exact ((hc n hn).2 q).2 h0
    · rw [(hc n hn).1 (by omega)] at h0
      exact absurd rfl h0
  · by_cases q : (g : Int) < s.cnt
    · exact hw g q h2
    · rw [(hg g hg6).2 (by omega)] at h2
      exact absurd h2 (by decide)
theorem valid_go {P : Pr} {s : Sts} (h : validS P s) {i : Nat} (hi : i < 6) : goR P s i := ⟨fun q => h.g i (by omega), fun q => h.f.g i (by omega) hi⟩
theorem valid_ch {P : Pr} {s : Sts} (h : validS P s) {i : Nat} (hi : i < 4) : chR P s i := ⟨fun q => h.f.c i q hi, fun q => ⟨h.h i q, fun z => h.w.1 i hi z⟩⟩
theorem valid_ow {P : Pr} {s : Sts} (h : validS P s) {i : Nat} {x : Int} (hx : s.own[i]? = some x) : owR P s x i := by
  have hm := List.mem_of_getElem? hx
  refine ⟨(h.o x hm).1, (h.o x hm).2, fun q => ?_⟩
  have := h.f.o i (by omega)
  rwa [List.getD_eq_getElem?_getD, hx] at this
set_option maxHeartbeats 8000000 in
theorem rvalid_any (M : MPr) (s : Sts) (hs : s.wf) (w : World) (hM : M.lies w) (R : Bool) (hR : Hid (R = true ↔ validS M.pr s)) :
    Calls Tryd.prog 17 #[M.val, s.val] w fun e w' => e = .returned (.bool R) ∧ Below w.heap.size w w' := by
  have hE := ps_new w M s
  have hEH : Hid (PS w ((w.alloc (objP M)).alloc (objSt s)) M s) := hE
  have hcall := fun (Q : Bool) (hQ : Hid (decide ((chk insR M.pr).1 = 0) = Q)) => rright_any M _ (hM.later hE.b) Q hQ
  have hri : Hid _ := right_iff M.pr
  have hMH : Hid (M.lies w) := hM
  have hsH : Hid s.wf := hs
  have hinS : Hid ((Tryd.prog.info? 38).map (·.size) = some s.cells.toArray.size) := infoS hs
  have huS : Hid (Tryd.prog.underlying 38 = _) := Tryd.underlying38
  have hug : Hid (Tryd.prog.underlying 35 = _) := Tryd.underlying35
  have huc : Hid (Tryd.prog.underlying 32 = _) := Tryd.underlying32
  have hqG : Hid (Tryd.prog.eqGuardType Tryd.prog.depth 35 = false) := by show _ = _; kernel_rfl
  have hqC : Hid (Tryd.prog.eqGuardType Tryd.prog.depth 32 = false) := by show _ = _; kernel_rfl
  have hgol := hs.lg
  have hownl := hs.lo
  have hchl := hs.lc
  have hvl := hs.lv
  have hvn := rows_len hM.1
  have hcn := rows_len hM.2.1
  clear hM hs hE
  go_enter Tryd.func17, Tryd.ntmps17
  go_upto_region 1 with fail
  generalize (w.alloc (objP M)).alloc (objSt s) = W at *
  obtain ⟨p0, p1, p2, p3⟩ := hEH.out.p
  by_cases hok : (chk insP M.pr).1 = 0
  rotate_left
  · have xR := hcall false (decide_eq_false fun q => hok (hri.out.mpr q))
    have e := Rfalse hR fun q => hok q.r
    subst e
    clear hcall hR hok
    go_wp2_with (go_at_call 18; (with_reducible refine xR.mono ?_); rintro e w2 ⟨rfl, hb2⟩)
    go_ret
    exact ⟨rfl, bthen hEH.out.b hb2⟩
  have xR := hcall true (decide_eq_true (hri.out.mp hok))
  have hz := sizes_ok (chk_sizes0 hok)
  have hzH : Hid _ := hz
  have hokH : Hid ((chk insP M.pr).1 = 0) := hok
  have hlk : 0 ≤ M.locks := hz.2.1.1
  have hcl4 : M.chans.length ≤ 4 := hz.2.2.1
  have hvl8 : M.vars.length ≤ 8 := hz.1
  clear hcall hok hz
  by_cases c1 : s.cnt < 1
  · have e := Rfalse hR fun q => by have := q.f.c1; omega
    subst e
    clear hR
    go_wp2_with (go_at_call 18; (with_reducible refine xR.mono ?_); rintro e w2 ⟨rfl, hb2⟩; (have zc := (hEH.out.later hb2).sb.cnt hsH.out))
    go_ret
    exact ⟨rfl, bthen hEH.out.b hb2⟩
  by_cases c6 : 6 < s.cnt
  · have e := Rfalse hR fun q => by have := q.f.c6; omega
    subst e
    have d1 : decide (s.cnt < 1) = false := decide_eq_false c1
    clear hR
    go_wp2_with (go_at_call 18; (with_reducible refine xR.mono ?_); rintro e w2 ⟨rfl, hb2⟩; (have zc := (hEH.out.later hb2).sb.cnt hsH.out))
    go_ret
    exact ⟨rfl, bthen hEH.out.b hb2⟩
  have d1 : decide (s.cnt < 1) = false := decide_eq_false c1
  have d6 : decide (6 < s.cnt) = false := decide_eq_false c6
  have hc1 : 1 ≤ s.cnt := by omega
  have hc6 : s.cnt ≤ 6 := by omega
  clear c1 c6
  go_wp2_with (go_at_call 18; (with_reducible refine xR.mono ?_); rintro e w2 ⟨rfl, hb2⟩; (have zc := (hEH.out.later hb2).sb.cnt hsH.out))
  have hU : Hid (PS w w2 M s) := hEH.out.later hb2
  clear xR hEH hb2 zc d1 d6 p0 p1 p2 p3
  go_loopw [25] (fun u wr => ∃ k : Nat, k ≤ 6 ∧ u = .int .i64 (k : Int) ∧ Hid (PS w wr M s) ∧ Hid (∀ i, i < k → goR M.pr s i)) (fun u _ => 6 - (intOf u).toNat)
  case atStart => exact ⟨0, by omega, rfl, hU, fun n hn => by omega⟩
  case round =>
    clear hU
    obtain ⟨k, hk, rfl, ho, hd⟩ := hrel
    by_cases hlt : k < 6
    · obtain ⟨g, hg, hgm⟩ := get_lt s.gos k (by omega)
      have eg := go_getD hg
      have hgw := hsH.out.ag g hgm
      have hkI : (k : Int) < 6 := by omega
      have hgr := ((ho.out.sb.gos hsH.out).row (i := k) (row := g.cells) (by rw [List.getElem?_map, hg]; rfl))
      have hgR : Hid (wr.rangeAt (w.heap.size + 1) (48 + k * 12) g.cells) := by
        obtain ⟨b, off, ha, _, hc⟩ := hgr
        simp only [Option.some.injEq, Addr.mk.injEq, and_true] at ha
        obtain ⟨rfl, rfl⟩ := ha
        intro j u hj
        rw [Nat.add_assoc]
        exact hc j u hj
      have tg : ∀ x : Cls (Bey wr), x.w.rangeAt (w.heap.size + 1) (48 + k * 12) g.cells := fun x j u hj => bey_cell (hgR.out j u hj) x
      have hpx := ixp (t := 36) Tryd.underlying36 (fun wx => Tryd.sizeOf35 wx) (w.heap.size + 1) 48 (k : Int) (by omega) (by omega)
      rw [Int.toNat_natCast] at hpx
      have hinf : Hid ((Tryd.prog.info? 35).map (·.size) = some g.cells.length) := by have := infoGw hgw; rwa [List.size_toArray] at this
      have zc := ho.out.sb.cnt hsH.out
      obtain ⟨p0, p1, p2, p3⟩ := ho.out.p
      have s0 := fun x => bey_cell (W := wr) zc x
      have t0 := fun x => bey_cell (W := wr) p0 x
      have t1 := fun x => bey_cell (W := wr) p1 x
      have t2 := fun x => bey_cell (W := wr) p2 x
      have t3 := fun x => bey_cell (W := wr) p3 x
      have hne := bey_some wr
      clear zc p0 p1 p2 p3 hgr hg hgm hgR
      by_cases kc : (k : Int) < s.cnt
      · have d0 : decide ((k : Int) < s.cnt) = true := decide_eq_true kc
        have d1 : decide (s.cnt ≤ (k : Int)) = false := decide_eq_false (by omega)
        have cS : ∀ (Q : Bool), Hid (Q = true ↔ stands M.pr g) → ∀ x : Cls (Bey wr), Calls Tryd.prog 29 #[M.val, g.val] x.w fun e w' => e = .returned (.bool Q) ∧ Below x.w.heap.size x.w w' := fun Q hQ x => rgor_any M g hokH.out hgw x.w (hMH.out.later (bthen ho.out.b x.h)) Q hQ
        by_cases sy : stands M.pr g
        · have cX := cS true ⟨fun _ => sy, fun _ => rfl⟩
          have hd2 : Hid (∀ i, i < k + 1 → goR M.pr s i) := fun n hn => by
            by_cases e : n = k
            · subst e; exact ⟨fun _ => by rw [eg]; exact sy, fun q => by omega⟩
            · exact hd.out n (by omega)
          clear cS sy hd eg hgw kc
          go_wp2_with fail
          refine wp_region_cls (Bey wr) (by kernel_rfl) (by kernel_rfl) (bey_drew wr) ?_
          repeat (first
            | (go_big_quiet_want; (refine quiet_load_mid 35 _ rfl (w.heap.size + 1) (48 + k * 12) rfl _ _ tg hug.out rfl hinf.out ?_); (simp only [Act.put, List.setIfInBounds_toArray, List.set_cons_zero, List.set_cons_succ]); go_big_quiet_on)
            | go_big_quiet_step ((go_at_call 29; exact calls_bey (cX _))))
          refine wpQuiet_nil ?_
          intro _ hw'
          obtain ⟨sq, hw''⟩ := hw'
          subst hw''
          have hV4 : Hid (PS w sq.w M s) := ho.out.later sq.h
          clear s0 t0 t1 t2 t3 hne tg cX hpx ho d0 d1
          generalize sq.w = U at *
          go_wp2
          go_roundw
          case rel => exact ⟨k + 1, by omega, by go_num, hV4, hd2⟩
          case measure => simp [intOf]; omega
        · have cX := cS false ⟨fun q => (by cases q), fun q => absurd q sy⟩
          have e := Rfalse hR fun q => sy (by have := (valid_go q hlt).1 kc; rwa [eg] at this)
          subst e
          clear cS sy hd eg hgw kc hR
          go_wp2_with fail
          refine wp_region_cls (Bey wr) (by kernel_rfl) (by kernel_rfl) (bey_drew wr) ?_
          repeat (first
            | (go_big_quiet_want; (refine quiet_load_mid 35 _ rfl (w.heap.size + 1) (48 + k * 12) rfl _ _ tg hug.out rfl hinf.out ?_); (simp only [Act.put, List.setIfInBounds_toArray, List.set_cons_zero, List.set_cons_succ]); go_big_quiet_on)
            | go_big_quiet_step ((go_at_call 29; exact calls_bey (cX _))))
          refine wpQuiet_nil ?_
          intro _ hw'
          obtain ⟨sq, hw''⟩ := hw'
          subst hw''
          clear s0 t0 t1 t2 t3 hne tg cX hpx d0 d1
          go_wp2
          go_ret
          exact ⟨rfl, bthen ho.out.b sq.h⟩
      · have d0 : decide ((k : Int) < s.cnt) = false := decide_eq_false kc
        have d1 : decide (s.cnt ≤ (k : Int)) = true := decide_eq_true (by omega)
        by_cases sy : g = zeroG
        · have hn := ne_go hgw zeroG_wf false (by simp [sy])
          have hd2 : Hid (∀ i, i < k + 1 → goR M.pr s i) := fun n hn => by
            by_cases e : n = k
            · subst e; exact ⟨fun q => absurd q kc, fun _ => by rw [eg]; exact sy⟩
            · exact hd.out n (by omega)
          clear sy hd eg hgw kc
          go_wp2_with fail
          refine wp_region_cls (Bey wr) (by kernel_rfl) (by kernel_rfl) (bey_drew wr) ?_
          repeat (first
            | (go_big_quiet_want; (refine quiet_load_mid 35 _ rfl (w.heap.size + 1) (48 + k * 12) rfl _ _ tg hug.out rfl hinf.out ?_); (simp only [Act.put, List.setIfInBounds_toArray, List.set_cons_zero, List.set_cons_succ]); go_big_quiet_on)
            | (go_big_quiet_want; (refine quiet_bld 35 _ rfl #[] rfl zeroG.val bld_G0 ?_); (simp only [Act.put, List.setIfInBounds_toArray, List.set_cons_zero, List.set_cons_succ]); go_big_quiet_on)
            | (go_big_quiet_want; (refine quiet_neq 35 _ _ _ rfl g.cells.toArray zeroG.cells.toArray rfl rfl hqG.out _ hn ?_); (simp only [Act.put, List.setIfInBounds_toArray, List.set_cons_zero, List.set_cons_succ]); go_big_quiet_on)
            | go_big_quiet_step (fail))
          refine wpQuiet_nil ?_
          intro _ hw'
          obtain ⟨sq, hw''⟩ := hw'
          subst hw''
          have hV4 : Hid (PS w sq.w M s) := ho.out.later sq.h
          clear s0 t0 t1 t2 t3 hne tg hpx ho d0 d1 hn
          generalize sq.w = U at *
          go_wp2
          go_roundw
          case rel => exact ⟨k + 1, by omega, by go_num, hV4, hd2⟩
          case measure => simp [intOf]; omega
        · have hn := ne_go hgw zeroG_wf true (by simp [sy])
          have e := Rfalse hR fun q => sy (by have := (valid_go q hlt).2 (by omega); rwa [eg] at this)
          subst e
          clear sy hd eg hgw kc hR
          go_wp2_with fail
          refine wp_region_cls (Bey wr) (by kernel_rfl) (by kernel_rfl) (bey_drew wr) ?_
          repeat (first
            | (go_big_quiet_want; (refine quiet_load_mid 35 _ rfl (w.heap.size + 1) (48 + k * 12) rfl _ _ tg hug.out rfl hinf.out ?_); (simp only [Act.put, List.setIfInBounds_toArray, List.set_cons_zero, List.set_cons_succ]); go_big_quiet_on)
            | (go_big_quiet_want; (refine quiet_bld 35 _ rfl #[] rfl zeroG.val bld_G0 ?_); (simp only [Act.put, List.setIfInBounds_toArray, List.set_cons_zero, List.set_cons_succ]); go_big_quiet_on)
            | (go_big_quiet_want; (refine quiet_neq 35 _ _ _ rfl g.cells.toArray zeroG.cells.toArray rfl rfl hqG.out _ hn ?_); (simp only [Act.put, List.setIfInBounds_toArray, List.set_cons_zero, List.set_cons_succ]); go_big_quiet_on)
            | go_big_quiet_step (fail))
          refine wpQuiet_nil ?_
          intro _ hw'
          obtain ⟨sq, hw''⟩ := hw'
          subst hw''
          clear s0 t0 t1 t2 t3 hne tg hpx d0 d1 hn
          go_wp2
          go_ret
          exact ⟨rfl, bthen ho.out.b sq.h⟩
    · have hk6 : k = 6 := by omega
      subst hk6
      rw [show (((6 : Nat) : Int)) = 6 from rfl]
      have hgs : Hid (∀ i, i < 6 → goR M.pr s i) := hd
      obtain ⟨p0, p1, p2, p3⟩ := ho.out.p
      clear hlt hk hd
      go_wp2_with fail
      clear p0 p1 p2 p3
      go_loopw [6] (fun u wq => ∃ k : Nat, M.vars.length ≤ k ∧ k ≤ 8 ∧ u = .int .i64 (k : Int) ∧ wq = wr ∧ Hid (∀ i, M.vars.length ≤ i → i < k → s.vars.getD i 0 = 0)) (fun u _ => 8 - (intOf u).toNat)
      case atStart => exact ⟨M.vars.length, Nat.le_refl _, hvl8, rfl, rfl, fun i h1 h2 => by omega⟩
      case round =>
        obtain ⟨k, hrk, hk, rfl, rfl, hd⟩ := hrel
        by_cases hlt : k < 8
        · obtain ⟨x, hx, hxm⟩ := get_lt s.vars k (by omega)
          have ex : s.vars.getD k 0 = x := by rw [List.getD_eq_getElem?_getD, hx]; rfl
          have hpx := ixp (t := 28) Tryd.underlying28 (fun wx => Tryd.sizeOf2 wx) (w.heap.size + 1) 0 (k : Int) (by omega) (by omega)
          rw [show 0 + ((k : Int)).toNat * 1 = k by omega] at hpx
          have hcx : wr.cell? ⟨w.heap.size + 1, k, none⟩ = some (.int .i64 x) := by
            obtain ⟨b, off, ha, _, hc⟩ := (ho.out.sb.vars hsH.out).row (i := k) (row := chCells x) (by rw [List.getElem?_map, hx]; rfl)
            simp only [Option.some.injEq, Addr.mk.injEq, and_true] at ha
            obtain ⟨rfl, rfl⟩ := ha
            have := hc 0 _ rfl
            simpa using this
          have hkI : (k : Int) < 8 := by omega
          by_cases q0 : x = 0
          · have hd2 : Hid (∀ i, M.vars.length ≤ i → i < k + 1 → s.vars.getD i 0 = 0) := fun i h1 h2 => by
              by_cases e : i = k
              · rw [e, ex]; exact q0
              · exact hd.out i h1 (by omega)
            subst q0
            clear hd hx hxm ex
            go_wp2
            go_roundw
            case rel => exact ⟨k + 1, by omega, by omega, by go_num, trivial, hd2⟩
            case measure => simp [intOf]; omega
          · have e := Rfalse hR fun z => q0 (by rw [← ex]; exact z.f.v k hrk)
            subst e
            have d : (x != 0) = true := by simpa using q0
            clear hR q0 hd hx hxm ex
            go_wp2
            go_ret
            exact ⟨rfl, ho.out.b⟩
        · have hk8 : k = 8 := by omega
          subst hk8
          rw [show (((8 : Nat) : Int)) = 8 from rfl]
          have hvs : Hid (∀ i, M.vars.length ≤ i → i < 8 → s.vars.getD i 0 = 0) := hd
          clear hlt hk hrk hd
          go_wp2_with fail
          go_loopw [68] (fun u wq => ∃ k : Nat, k ≤ 4 ∧ u = .int .i64 (k : Int) ∧ Hid (PS w wq M s) ∧ Hid (∀ i, i < k → owR M.pr s (s.own.getD i 0) i)) (fun u _ => 4 - (intOf u).toNat)
          case atStart => exact ⟨0, by omega, rfl, ho, fun n hn => by omega⟩
          case round =>
            clear ho
            obtain ⟨k, hk, rfl, ho, hd⟩ := hrel
            by_cases hlt : k < 4
            · obtain ⟨x, hx, hxm, ex⟩ := owR_get s hsH.out hlt
              have hpx := ixp (t := 29) Tryd.underlying29 (fun wx => Tryd.sizeOf3 wx) (w.heap.size + 1) 8 (k : Int) (by omega) (by omega)
              rw [show 8 + ((k : Int)).toNat * 1 = 8 + k by omega] at hpx
              have hcx : wr.cell? ⟨w.heap.size + 1, 8 + k, none⟩ = some (.int .i64 x) := by
                obtain ⟨b, off, ha, _, hc⟩ := (ho.out.sb.own hsH.out).row (i := k) (row := chCells x) (by rw [List.getElem?_map, hx]; rfl)
                simp only [Option.some.injEq, Addr.mk.injEq, and_true] at ha
                obtain ⟨rfl, rfl⟩ := ha
                have := hc 0 _ rfl
                simpa using this
              have hkI : (k : Int) < 4 := by omega
              have zc := ho.out.sb.cnt hsH.out
              obtain ⟨p0, p1, p2, p3⟩ := ho.out.p
              have s0 := fun y => bey_cell (W := wr) zc y
              have s1 := fun y => bey_cell (W := wr) hcx y
              have s2 := fun y => bey_cell (W := wr) p1 y
              have hne := bey_some wr
              have hno : ¬ owR M.pr s x k → R = false := fun q => Rfalse hR fun z => q (valid_ow z hx)
              clear zc p0 p1 p2 p3 hcx hxm
              by_cases x0 : x < 0
              · have e := hno fun q => by have := q.1; omega
                subst e
                have d0 : decide (x < 0) = true := decide_eq_true x0
                clear hR hd hx hno ex
                go_wp2_with fail
                refine wp_region_cls (Bey wr) (by kernel_rfl) (by kernel_rfl) (bey_drew wr) ?_
                repeat (first
                  | go_big_quiet_step (fail))
                refine wpQuiet_nil ?_
                intro _ hw'
                obtain ⟨sq, hw''⟩ := hw'
                subst hw''
                clear s0 s1 s2 hne hpx
                go_wp2
                go_ret
                exact ⟨rfl, bthen ho.out.b sq.h⟩
              by_cases x1 : s.cnt < x
              · have e := hno fun q => by have := q.2.1; omega
                subst e
                have d0 : decide (x < 0) = false := decide_eq_false x0
                have d1 : decide (s.cnt < x) = true := decide_eq_true x1
                clear hR hd hx hno ex
                go_wp2_with fail
                refine wp_region_cls (Bey wr) (by kernel_rfl) (by kernel_rfl) (bey_drew wr) ?_
                repeat (first
                  | go_big_quiet_step (fail))
                refine wpQuiet_nil ?_
                intro _ hw'
                obtain ⟨sq, hw''⟩ := hw'
                subst hw''
                clear s0 s1 s2 hne hpx
                go_wp2
                go_ret
                exact ⟨rfl, bthen ho.out.b sq.h⟩
              have d0 : decide (x < 0) = false := decide_eq_false x0
              have d1 : decide (s.cnt < x) = false := decide_eq_false x1
              have hgo : owR M.pr s x k → Hid (∀ i, i < k + 1 → owR M.pr s (s.own.getD i 0) i) := fun q i hi => by
                by_cases e : i = k
                · rw [e, ex]; exact q
                · exact hd.out i (by omega)
              by_cases x2 : M.locks ≤ (k : Int)
              · have d2 : decide (M.locks ≤ (k : Int)) = true := decide_eq_true x2
                by_cases x3 : x = 0
                · have hd2 := hgo ⟨by omega, by omega, fun _ => x3⟩
                  have x3H : Hid (x = 0) := x3
                  subst x3
                  clear hgo hno hd ex hx x0 x1
                  go_wp2_with fail
                  refine wp_region_cls (Bey wr) (by kernel_rfl) (by kernel_rfl) (bey_drew wr) ?_
                  repeat (first
                    | go_big_quiet_step (fail))
                  refine wpQuiet_nil ?_
                  intro _ hw'
                  obtain ⟨sq, hw''⟩ := hw'
                  subst hw''
                  have hV4 : Hid (PS w sq.w M s) := ho.out.later sq.h
                  clear s0 s1 s2 hne hpx ho d0 d1 d2
                  generalize sq.w = U at *
                  go_wp2
                  go_roundw
                  case rel => exact ⟨k + 1, by omega, by go_num, hV4, hd2⟩
                  case measure => simp [intOf]; omega
                · have e := hno fun q => x3 (q.2.2 x2)
                  subst e
                  have d3 : (x != 0) = true := by simpa using x3
                  clear hR hd hx hno ex hgo
                  go_wp2_with fail
                  refine wp_region_cls (Bey wr) (by kernel_rfl) (by kernel_rfl) (bey_drew wr) ?_
                  repeat (first
                    | go_big_quiet_step (fail))
                  refine wpQuiet_nil ?_
                  intro _ hw'
                  obtain ⟨sq, hw''⟩ := hw'
                  subst hw''
                  clear s0 s1 s2 hne hpx
                  go_wp2
                  go_ret
                  exact ⟨rfl, bthen ho.out.b sq.h⟩
              · have d2 : decide (M.locks ≤ (k : Int)) = false := decide_eq_false x2
                have hd2 := hgo ⟨by omega, by omega, fun q => absurd q x2⟩
                clear hgo hno hd ex hx x0 x1 x2
                go_wp2_with fail
                refine wp_region_cls (Bey wr) (by kernel_rfl) (by kernel_rfl) (bey_drew wr) ?_
                repeat (first
                  | go_big_quiet_step (fail))
                refine wpQuiet_nil ?_
                intro _ hw'
                obtain ⟨sq, hw''⟩ := hw'
                subst hw''
                have hV4 : Hid (PS w sq.w M s) := ho.out.later sq.h
                clear s0 s1 s2 hne hpx ho d0 d1 d2
                generalize sq.w = U at *
                go_wp2
                go_roundw
                case rel => exact ⟨k + 1, by omega, by go_num, hV4, hd2⟩
                case measure => simp [intOf]; omega
            · have hk4 : k = 4 := by omega
              subst hk4
              rw [show (((4 : Nat) : Int)) = 4 from rfl]
              have how : Hid (∀ i, i < 4 → owR M.pr s (s.own.getD i 0) i) := hd
              clear hlt hk hd
              go_wp2_with fail
              go_loopw [99] (fun u wq => ∃ k : Nat, k ≤ 4 ∧ u = .int .i64 (k : Int) ∧ Hid (PS w wq M s) ∧ Hid (∀ i, i < k → chR M.pr s i)) (fun u _ => 4 - (intOf u).toNat)
              case atStart => exact ⟨0, by omega, rfl, ho, fun n hn => by omega⟩
              case round =>
                clear ho
                obtain ⟨k, hk, rfl, ho, hd⟩ := hrel
                by_cases hlt : k < 4
                · obtain ⟨c, hc, hcm⟩ := get_lt s.ch k (by omega)
                  have ec := ch_getD hc
                  have hcw := hsH.out.ac c hcm
                  have hpx := ixp (t := 33) Tryd.underlying33 (fun wx => Tryd.sizeOf32 wx) (w.heap.size + 1) 12 (k : Int) (by omega) (by omega)
                  rw [Int.toNat_natCast] at hpx
                  have hcr := ((ho.out.sb.chs hsH.out).row (i := k) (row := c.cells) (by rw [List.getElem?_map, hc]; rfl))
                  have hcR : Hid (wr.rangeAt (w.heap.size + 1) (12 + k * 9) c.cells) := by
                    obtain ⟨b, off, ha, _, hc⟩ := hcr
                    simp only [Option.some.injEq, Addr.mk.injEq, and_true] at ha
                    obtain ⟨rfl, rfl⟩ := ha
                    intro j u hj
                    rw [Nat.add_assoc]
                    exact hc j u hj
                  have hinf : Hid ((Tryd.prog.info? 32).map (·.size) = some c.cells.length) := by have := infoC hcw; rwa [List.size_toArray] at this
                  have hinSL : Hid ((Tryd.prog.info? 38).map (·.size) = some s.cells.length) := by have := hinS.out; rwa [List.size_toArray] at this
                  have rS : Hid (wr.rangeAt (w.heap.size + 1) 0 s.cells) := range_of ho.out.sb [] s.cells [] (by simp) 0 rfl
                  have hkI : (k : Int) < 4 := by omega
                  obtain ⟨p0, p1, p2, p3⟩ := ho.out.p
                  clear hcr hc hcm
                  by_cases kc : k < M.chans.length
                  · have d0 : decide ((M.chans.length : Int) ≤ (k : Int)) = false := decide_eq_false (by omega)
                    have d1 : decide ((k : Int) < (M.chans.length : Int)) = true := decide_eq_true (by omega)
                    have d2 : decide (M.chans.length ≤ k) = false := decide_eq_false (by omega)
                    have d3 : decide (k < M.chans.length) = true := decide_eq_true kc
                    have cS := fun (Q : Bool) (hQ : Hid (Q = true ↔ chanR M.pr s k)) => rchan_any M s k kc hokH.out hsH.out hc6 (fun i hi => (hgs.out i (by omega)).1 (by omega)) wr (hMH.out.later ho.out.b) Q hQ
                    by_cases sy : chanR M.pr s k
                    · have cX := cS true ⟨fun _ => sy, fun _ => rfl⟩
                      have hd2 : Hid (∀ i, i < k + 1 → chR M.pr s i) := fun n hn => by
                        by_cases e : n = k
                        · subst e; exact ⟨fun q => by have : M.chans.length ≤ n := q; omega, fun _ => sy⟩
                        · exact hd.out n (by omega)
                      clear cS sy hd ec hcw kc
                      go_wp2_with (first
                        | ((with_reducible refine at_load 38 _ rfl ?_); refine stop_out ?_; (refine wpList_load_h 38 _ rfl (w.heap.size + 1) 0 rfl (by kernel_rfl) s.cells _ rS.out huS.out rfl hinSL.out ?_); simp only [Act.put, List.setIfInBounds_toArray, List.set_cons_zero, List.set_cons_succ])
                        | (go_at_call 30; (with_reducible refine cX.mono ?_); rintro e w4 ⟨rfl, hb4⟩))
                      have hV4 : Hid (PS w w4 M s) := ho.out.later hb4
                      clear ho hb4
                      go_roundw
                      case rel => exact ⟨k + 1, by omega, by go_num, hV4, hd2⟩
                      case measure => simp [intOf]; omega
                    · have cX := cS false ⟨fun q => (by cases q), fun q => absurd q sy⟩
                      have e := Rfalse hR fun q => sy ((valid_ch q hlt).2 kc)
                      subst e
                      clear cS sy hd ec hcw kc hR
                      go_wp2_with (first
                        | ((with_reducible refine at_load 38 _ rfl ?_); refine stop_out ?_; (refine wpList_load_h 38 _ rfl (w.heap.size + 1) 0 rfl (by kernel_rfl) s.cells _ rS.out huS.out rfl hinSL.out ?_); simp only [Act.put, List.setIfInBounds_toArray, List.set_cons_zero, List.set_cons_succ])
                        | (go_at_call 30; (with_reducible refine cX.mono ?_); rintro e w4 ⟨rfl, hb4⟩))
                      go_ret
                      exact ⟨rfl, bthen ho.out.b hb4⟩
                  · have d0 : decide ((M.chans.length : Int) ≤ (k : Int)) = true := decide_eq_true (by omega)
                    have d1 : decide ((k : Int) < (M.chans.length : Int)) = false := decide_eq_false (by omega)
                    have d2 : decide (M.chans.length ≤ k) = true := decide_eq_true (by omega)
                    have d3 : decide (k < M.chans.length) = false := decide_eq_false kc
                    have cX : True := trivial
                    by_cases sy : c = zeroC
                    · have hn := ne_ch hcw zeroC_wf false (by simp [sy])
                      have hd2 : Hid (∀ i, i < k + 1 → chR M.pr s i) := fun n hn => by
                        by_cases e : n = k
                        · subst e; exact ⟨fun _ => by rw [ec]; exact sy, fun q => absurd q kc⟩
                        · exact hd.out n (by omega)
                      clear sy hd ec hcw kc
                      go_wp2_with ((with_reducible refine at_load 32 _ rfl ?_); refine stop_out ?_; refine wpList_load_h 32 _ rfl (w.heap.size + 1) (12 + k * 9) rfl (by kernel_rfl) c.cells _ hcR.out huc.out rfl hinf.out ?_; refine stop_in ?_)
                      refine stop_out ?_
                      try simp only [Act.put, List.setIfInBounds_toArray, List.set_cons_zero, List.set_cons_succ]
                      refine wpList_bld_g 32 _ rfl (by kernel_rfl) #[] (by simp) zeroC.vl bld_C0 ?_
                      try simp only [Act.put, List.setIfInBounds_toArray, List.set_cons_zero, List.set_cons_succ]
                      refine wpList_neq_g 32 _ _ _ rfl (by kernel_rfl) c.cells.toArray zeroC.cells.toArray rfl rfl hqC.out _ hn ?_
                      try simp only [Act.put, List.setIfInBounds_toArray, List.set_cons_zero, List.set_cons_succ]
                      go_wp2_with fail
                      go_roundw
                      case rel => exact ⟨k + 1, by omega, by go_num, ho, hd2⟩
                      case measure => simp [intOf]; omega
                    · have hn := ne_ch hcw zeroC_wf true (by simp [sy])
                      have e := Rfalse hR fun q => sy (by have := (valid_ch q hlt).1 (show M.pr.chans.length ≤ k by have : M.pr.chans.length = M.chans.length := rfl; omega); rwa [ec] at this)
                      subst e
                      clear sy hd ec hcw kc hR
                      go_wp2_with ((with_reducible refine at_load 32 _ rfl ?_); refine stop_out ?_; refine wpList_load_h 32 _ rfl (w.heap.size + 1) (12 + k * 9) rfl (by kernel_rfl) c.cells _ hcR.out huc.out rfl hinf.out ?_; refine stop_in ?_)
                      refine stop_out ?_
                      try simp only [Act.put, List.setIfInBounds_toArray, List.set_cons_zero, List.set_cons_succ]
                      refine wpList_bld_g 32 _ rfl (by kernel_rfl) #[] (by simp) zeroC.vl bld_C0 ?_
                      try simp only [Act.put, List.setIfInBounds_toArray, List.set_cons_zero, List.set_cons_succ]
                      refine wpList_neq_g 32 _ _ _ rfl (by kernel_rfl) c.cells.toArray zeroC.cells.toArray rfl rfl hqC.out _ hn ?_
                      try simp only [Act.put, List.setIfInBounds_toArray, List.set_cons_zero, List.set_cons_succ]
                      go_wp2_with fail
                      go_ret
                      exact ⟨rfl, ho.out.b⟩
                · have hk4 : k = 4 := by omega
                  subst hk4
                  rw [show (((4 : Nat) : Int)) = 4 from rfl]
                  have hcs : Hid (∀ i, i < 4 → chR M.pr s i) := hd
                  clear hlt hk hd
                  go_wp2_with fail
                  go_loopw [9] (fun u wq => ∃ k : Nat, (k : Int) ≤ s.cnt ∧ u = .int .i64 (k : Int) ∧ Hid (PS w wq M s) ∧ Hid (∀ i, i < k → waR s i)) (fun u _ => 6 - (intOf u).toNat)
                  case atStart => exact ⟨0, by omega, rfl, ho, fun n hn => by omega⟩
                  case round =>
                    clear ho
                    obtain ⟨k, hk, rfl, ho, hd⟩ := hrel
                    have zc := ho.out.sb.cnt hsH.out
                    by_cases hlt : (k : Int) < s.cnt
                    · obtain ⟨g, hg, hgm⟩ := get_lt s.gos k (by omega)
                      have eg := go_getD hg
                      have hgw := hsH.out.ag g hgm
                      go_wp2_with fail
                      clear zc
                      go_loopw [10, 136] (fun v u wq => ∃ j : Nat, j ≤ 4 ∧ u = .int .i64 (j : Int) ∧ v = .int .i64 (offs s (k : Int) j) ∧ Hid (PS w wq M s)) (fun _ u _ => 4 - (intOf u).toNat)
                      case atStart => exact ⟨0, by omega, rfl, rfl, ho⟩
                      case round =>
                        clear ho
                        obtain ⟨j, hj, rfl, rfl, ho⟩ := hrel
                        by_cases hlj : j < 4
                        · obtain ⟨c, hc, hcm⟩ := get_lt s.ch j (by omega)
                          have ec := ch_getD hc
                          have hcw := hsH.out.ac c hcm
                          have hpx := ixp (t := 33) Tryd.underlying33 (fun wx => Tryd.sizeOf32 wx) (w.heap.size + 1) 12 (j : Int) (by omega) (by omega)
                          rw [Int.toNat_natCast] at hpx
                          have hcr := ((ho.out.sb.chs hsH.out).row (i := j) (row := c.cells) (by rw [List.getElem?_map, hc]; rfl))
                          have hcR : Hid (∀ (q : Nat) (v : Value), ([.int .i64 c.ln, .bool c.shut, .int .i64 c.off, .int .i64 c.frm, .int .i64 c.val] : List Value)[q]? = some v → wr.cell? ⟨w.heap.size + 1, 12 + j * 9 + (4 + q), none⟩ = some v) := by
                            obtain ⟨b, off, ha, _, hc⟩ := hcr
                            simp only [Option.some.injEq, Addr.mk.injEq, and_true] at ha
                            obtain ⟨rfl, rfl⟩ := ha
                            intro q u hq
                            rw [Nat.add_assoc]
                            refine hc (4 + q) u ?_
                            unfold Chc.cells
                            rw [List.getElem?_append_right (by rw [List.length_map, hcw.2.2.2.2.1]; omega), List.length_map, hcw.2.2.2.2.1, Nat.add_sub_cancel_left]
                            exact hq
                          have z6 := hcR.out 2 _ rfl
                          have z7 := hcR.out 3 _ rfl
                          simp only [Nat.reduceAdd, ← Nat.add_assoc] at z6 z7
                          have hjI : (j : Int) < 4 := by omega
                          have obd := offs_bd s (k : Int) j
                          have how : wrap64 (offs s (k : Int) j + 1) = offs s (k : Int) j + 1 := by unfold wrap64; omega
                          have hstep : offs s (k : Int) (j + 1) = offs s (k : Int) j + (if (chAt s j).off ≠ 0 ∧ (chAt s j).frm = (k : Int) then 1 else 0) := rfl
                          rw [ec] at hstep
                          have hstH : Hid _ := hstep
                          clear hcr hcR hc hcm hcw ec hstep
                          by_cases o0 : c.off = 0
                          · have hs2 : Hid (offs s (k : Int) (j + 1) = offs s (k : Int) j) := by show _ = _; rw [hstH.out, if_neg (fun q => q.1 o0)]; omega
                            rw [o0] at z6
                            clear hstH o0 how obd
                            generalize offs s (k : Int) j = ov at *
                            go_wp2
                            go_roundw
                            case rel => exact ⟨j + 1, by omega, by go_num, by rw [hs2.out], ho⟩
                            case measure => simp [intOf]; omega
                          · have d0 : (c.off != 0) = true := by simpa using o0
                            by_cases f0 : c.frm = (k : Int)
                            · have hs2 : Hid (offs s (k : Int) (j + 1) = offs s (k : Int) j + 1) := by show _ = _; rw [hstH.out, if_pos ⟨o0, f0⟩]
                              rw [f0] at z7
                              clear hstH o0 f0 obd
                              generalize offs s (k : Int) j = ov at *
                              have howH : Hid _ := how
                              clear how
                              go_wp2
                              go_roundw
                              case rel => exact ⟨j + 1, by omega, by go_num, by rw [hs2.out]; exact congrArg (Value.int .i64) howH.out, ho⟩
                              case measure => simp [intOf]; omega
                            · have hs2 : Hid (offs s (k : Int) (j + 1) = offs s (k : Int) j) := by show _ = _; rw [hstH.out, if_neg (fun q => f0 q.2)]; omega
                              have d1 : (c.frm == (k : Int)) = false := by simpa using f0
                              clear hstH o0 f0 how obd
                              generalize offs s (k : Int) j = ov at *
                              go_wp2
                              go_roundw
                              case rel => exact ⟨j + 1, by omega, by go_num, by rw [hs2.out], ho⟩
                              case measure => simp [intOf]; omega
                        · have hj4 : j = 4 := by omega
                          subst hj4
                          rw [show (((4 : Nat) : Int)) = 4 from rfl]
                          have hpx := ixp (t := 36) Tryd.underlying36 (fun wx => Tryd.sizeOf35 wx) (w.heap.size + 1) 48 (k : Int) (by omega) (by omega)
                          rw [Int.toNat_natCast] at hpx
                          have z0 : wr.cell? ⟨w.heap.size + 1, 48 + k * 12, none⟩ = some (.int .i64 g.st) := by
                            obtain ⟨b, off, ha, _, hc⟩ := ((ho.out.sb.gos hsH.out).row (i := k) (row := g.cells) (by rw [List.getElem?_map, hg]; rfl))
                            simp only [Option.some.injEq, Addr.mk.injEq, and_true] at ha
                            obtain ⟨rfl, rfl⟩ := ha
                            exact hc 0 _ rfl
                          have hgoW : waR s k → Hid (∀ i, i < k + 1 → waR s i) := fun q i hi => by
                            by_cases e : i = k
                            · rw [e]; exact q
                            · exact hd.out i (by omega)
                          have hno : ¬ waR s k → R = false := fun q => Rfalse hR fun z => q fun y => z.w.2 k (by omega) y
                          have hwa : waR s k ↔ (g.st = 2 → offs s k 4 = 1) := by unfold waR; rw [eg]
                          have hkb : wrap64 ((k : Int) + 1) = (k : Int) + 1 := by unfold wrap64; omega
                          clear hg hgm hgw hlj hj eg
                          by_cases s2 : g.st = 2
                          · rw [s2] at z0
                            by_cases n1 : offs s (k : Int) 4 = 1
                            · have hd2 := hgoW (hwa.mpr fun _ => n1)
                              rw [n1]
                              clear hgoW hno hwa n1 s2 hd hkb
                              go_wp2
                              go_roundw
                              case rel => exact ⟨k + 1, by omega, by go_num, ho, hd2⟩
                              case measure => simp [intOf]; omega
                            · have e := hno fun q => n1 (hwa.mp q s2)
                              subst e
                              have d : (offs s (k : Int) 4 != 1) = true := by simpa using n1
                              clear hgoW hno hwa n1 s2 hd hkb hR
                              generalize offs s (k : Int) 4 = ov at *
                              go_wp2
                              go_ret
                              exact ⟨rfl, ho.out.b⟩
                          · have hd2 := hgoW (hwa.mpr fun q => absurd q s2)
                            have d : (g.st == 2) = false := by simpa using s2
                            clear hgoW hno hwa s2 hd hkb
                            generalize offs s (k : Int) 4 = ov at *
                            go_wp2
                            go_roundw
                            case rel => exact ⟨k + 1, by omega, by go_num, ho, hd2⟩
                            case measure => simp [intOf]; omega
                    · have e := Rtrue hR (valid_of hsH.out hokH.out hc1 hc6 hlk hgs.out hvs.out how.out hcs.out hcl4 fun g hg => hd.out g (by omega))
                      subst e
                      clear hR hd
                      go_wp2
                      go_ret
                      exact ⟨rfl, ho.out.b⟩
end Go.Proofs.YtjcmhaaohdmjpaaDoor.pg
