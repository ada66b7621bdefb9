/- Facts for ProgTouches: the registers that an instruction touches are its function's; how many there are. -/
import Derived.Test.YtaghfahhfockkaaDoorRegs0
namespace Go.Proofs.YtaghfahhfockkaaDoor.pg
set_option linter.unusedVariables false
set_option linter.unusedSimpArgs false
theorem u64_of (a : Int) : ∃ U : Nat, IntKind.u64.wrap a = (U : Int) ∧ U < 18446744073709551616 := by
  refine ⟨(a % 18446744073709551616).toNat, ?_, by omega⟩
  have : IntKind.u64.wrap a = a % 18446744073709551616 := by simp [IntKind.wrap, IntKind.signed, IntKind.bits]
  rw [this]
  omega
theorem u64_same (n : Nat) (h : n < 18446744073709551616) : IntKind.u64.wrap (n : Int) = (n : Int) := by
  have : IntKind.u64.wrap (n : Int) = (n : Int) % 18446744073709551616 := by simp [IntKind.wrap, IntKind.signed, IntKind.bits]
  rw [this]
  omega
structure Picked (M : MPr) (U f pc D : Nat) (F : MFn) (i : Ins) : Prop where
  hF : M.fns[f]? = some F
  hi : F.code[pc]? = some i
  e1 : (U : Int).tmod (M.fns.length : Int) = (f : Int)
  e2 : ¬ (M.fns.length : Int) = 0
  e3 : IntKind.u64.wrap (M.fns.length : Int) = (M.fns.length : Int)
  e4 : (f : Int) < 8
  e5 : IntKind.u64.wrap (F.code.length : Int) = (F.code.length : Int)
  e6 : (U : Int).tdiv 8 = (D : Int)
  e7 : IntKind.u64.wrap (D : Int) = (D : Int)
  e8 : (D : Int).tmod (F.code.length : Int) = (pc : Int)
  e9 : ¬ (F.code.length : Int) = 0
  e10 : (pc : Int) < 64
theorem picked {M : MPr} (h0 : (chk insP M.pr).1 = 0) (U : Nat) (hU : U < 18446744073709551616) : ∃ f pc D F i, Picked M U f pc D F i := by
  have hs := sizes_ok (chk_sizes0 h0)
  have l3 : M.pr.fns.length = M.fns.length := by simp [MPr.pr]
  have hL : 1 ≤ M.fns.length ∧ M.fns.length ≤ 8 := by omega
  have hf : U % M.fns.length < M.fns.length := Nat.mod_lt _ (by omega)
  obtain ⟨F, hF, hFm⟩ := get_lt M.fns (U % M.fns.length) hf
  have hsh := chk_shaped h0 F.fn (by simp only [MPr.pr]; exact List.mem_map_of_mem hFm)
  have k1 : F.fn.code.length = F.code.length := rfl
  have hC : 1 ≤ F.code.length ∧ F.code.length ≤ 64 := by omega
  have hpc : U / 8 % F.code.length < F.code.length := Nat.mod_lt _ (by omega)
  obtain ⟨x, hx, hxm⟩ := get_lt F.code (U / 8 % F.code.length) hpc
  refine ⟨U % M.fns.length, U / 8 % F.code.length, U / 8, F, x, hF, hx, ?_, by omega, u64_same _ (by omega), by omega, u64_same _ (by omega), ?_, u64_same _ (by omega), ?_, by omega, by omega⟩
  · exact (Int.ofNat_tmod U M.fns.length).symm
  · exact (Int.ofNat_tdiv U 8).symm
  · exact (Int.ofNat_tmod (U / 8) F.code.length).symm
theorem sends_in {P : Pr} {f : Fn} {x : Int} (h : ∀ s ∈ f.sels, selE P f s = 0) : (∀ z ∈ f.sends x, inR z f.regs) ∧ ∀ z ∈ f.takes x, inR z f.regs := by
  unfold Fn.sends Fn.takes
  split
  · rename_i s hs
    have hc := (sel_els (h s (List.mem_of_getElem? hs))).1
    refine ⟨fun z hz => ?_, fun z hz => ?_⟩
    · obtain ⟨c, hcm, rfl⟩ := List.mem_map.mp hz
      obtain ⟨hm, hsd⟩ := List.mem_filter.mp hcm
      rcases cas_reg (hc c hm) with q | q
      · exact q
      · rw [q.2] at hsd; simp at hsd
    · obtain ⟨c, hcm, rfl⟩ := List.mem_map.mp hz
      obtain ⟨hm, hsd⟩ := List.mem_filter.mp hcm
      rcases cas_reg (hc c hm) with q | q
      · exact q
      · simp at hsd; exact absurd q.1 hsd.2
  · simp
theorem touch_in {P : Pr} {f : Fn} {i : Ins} (hsel : ∀ s ∈ f.sels, selE P f s = 0) (hins : insP P f i = 0) (hpar : 0 ≤ P.par i.b) : ∀ k, k ≤ 4 → (∀ z ∈ (touchTo P f i k).1, inR z f.regs) ∧ ∀ z ∈ (touchTo P f i k).2, inR z f.regs := by
  have hop := ins_opnds hins
  intro k
  induction k with
  | zero => intro _; exact ⟨by simp [touchTo], by simp [touchTo]⟩
  | succ k ih =>
    intro hk
    obtain ⟨a, b⟩ := ih (by omega)
    have ho := hop k (by omega)
    show (∀ z ∈ (tstep P f i k (touchTo P f i k)).1, _) ∧ ∀ z ∈ (tstep P f i k (touchTo P f i k)).2, _
    unfold tstep
    split
    · rename_i h114
      have hx := opnd_r ho (.inl h114)
      split
      · exact ⟨a, fun z hz => by rcases List.mem_append.mp hz with q | q; exact b z q; simp at q; subst q; exact hx⟩
      · exact ⟨fun z hz => by rcases List.mem_append.mp hz with q | q; exact a z q; simp at q; subst q; exact hx, b⟩
    · split
      · rename_i h119
        have hx := opnd_r ho (.inr h119)
        exact ⟨fun z hz => by rcases List.mem_append.mp hz with q | q; exact a z q; simp at q; subst q; exact hx, b⟩
      · split
        · rename_i h111
          rw [h111] at ho
          split
          · exact ⟨a, b⟩
          · rename_i hne
            have hx : inR (i.x k) f.regs := by rcases opnd_o ho with q | q; exact absurd q hne; exact q
            exact ⟨a, fun z hz => by rcases List.mem_append.mp hz with q | q; exact b z q; simp at q; subst q; exact hx⟩
        · split
          · rename_i h112
            rw [h112] at ho
            have hr := room_from (opnd_p ho) hpar
            refine ⟨fun z hz => ?_, b⟩
            rcases List.mem_append.mp hz with q | q
            · exact a z q
            · unfold from_ at q
              obtain ⟨j, hj, rfl⟩ := List.mem_map.mp q
              have := List.mem_range.mp hj
              constructor <;> omega
          · split
            · exact sends_in hsel
            · exact ⟨a, b⟩
theorem touch_some {P : Pr} {f : Fn} {i : Ins} (hkn : known i.op) (hx : ∀ k, k < 4 → (lt i.op k = 114 ∨ lt i.op k = 119) → 0 ≤ i.x k ∧ i.x k < 8) (hn : regsN i.op 4 ≠ 0) :
    0 < (upto (inl (touchTo P f i 4).1) 8).length + (upto (inl (touchTo P f i 4).2) 8).length := by
  rcases ops_of hkn with h | h | h | h | h | h | h | h | h | h | h | h | h | h | h | h | h | h | h | h | h | h | h | h
  · obtain ⟨l0, l1, l2, l3⟩ := lt_one h
    have ha := hx 0 (by omega) (.inl l0)
    have := upto_pos (l := [i.a]) (k := 8) (x := i.a) (by simp) ha.1 ha.2
    simp only [touchTo, tstep, l0, l1, l2, l3, Ins.x]
    simp [show ¬ i.op = 43 by omega, show ¬ i.op = 44 by omega, show ¬ i.op = 63 by omega, show ¬ i.op = 65 by omega]
    omega
  · obtain ⟨l0, l1, l2, l3⟩ := lt_two h
    have ha := hx 0 (by omega) (.inl l0)
    have := upto_pos (l := [i.a]) (k := 8) (x := i.a) (by simp) ha.1 ha.2
    simp only [touchTo, tstep, l0, l1, l2, l3, Ins.x]
    simp [show ¬ i.op = 43 by omega, show ¬ i.op = 44 by omega, show ¬ i.op = 63 by omega, show ¬ i.op = 65 by omega]
    omega
  all_goals
    have h0 := hx 0 (by omega)
    have h1 := hx 1 (by omega)
    have h2 := hx 2 (by omega)
    clear hx
    simp [touchTo, tstep, lt, formOf, h, firstSet, regsN, isR, Ins.x] at h0 h1 h2 hn ⊢
  all_goals first
    | (have := upto_pos (l := [i.a]) (k := 8) (x := i.a) (by simp) h0.1 h0.2; omega)
    | (have := upto_pos (l := [i.b]) (k := 8) (x := i.b) (by simp) h1.1 h1.2; omega)
    | (have := upto_pos (l := [i.c]) (k := 8) (x := i.c) (by simp) h2.1 h2.2; by_cases ha : i.a = -1 <;> simp [ha] <;> omega)
end Go.Proofs.YtaghfahhfockkaaDoor.pg
