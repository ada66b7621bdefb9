/- How long a local way can be: told in two ways, the same. -/
import Derived.Test.YtmgmiaonljcfcaaDoorM18
namespace Go.Proofs.YtmgmiaonljcfcaaDoor.pg
set_option linter.unusedVariables false
set_option linter.unusedSimpArgs false
/-- A local way of so many instructions begins at a place. -/
def hasW (f : Fn) : Nat → Nat → Prop
  | 0, _ => True
  | m + 1, i => prog.loc (insAt f.code i).op = true ∧ (m = 0 ∨ ∃ j : Nat, (j : Int) ∈ nxt f i ∧ hasW f m j)
theorem hasW_loc {f : Fn} {m i : Nat} (h : hasW f (m + 1) i) : prog.loc (insAt f.code i).op = true := h.1
theorem hasW_one {f : Fn} {i : Nat} (h : prog.loc (insAt f.code i).op = true) : hasW f 1 i := ⟨h, .inl rfl⟩
theorem hasW_cons {f : Fn} {m i j : Nat} (h : prog.loc (insAt f.code i).op = true) (hj : (j : Int) ∈ nxt f i) (hw : hasW f m j) : hasW f (m + 1) i := ⟨h, .inr ⟨j, hj, hw⟩⟩
theorem hasW_less {f : Fn} : ∀ {m i : Nat}, hasW f (m + 1) i → hasW f m i
  | 0, _, _ => trivial
  | m + 1, i, h => ⟨h.1, by
    rcases h.2 with q | ⟨j, hj, hw⟩
    · omega
    · by_cases e : m = 0
      · exact .inl e
      · exact .inr ⟨j, hj, hasW_less hw⟩⟩
theorem hasW_le {f : Fn} {i m : Nat} : ∀ {n : Nat}, m ≤ n → hasW f n i → hasW f m i
  | 0, h, hw => by
    have : m = 0 := by omega
    subst this; exact hw
  | n + 1, h, hw => by
    by_cases e : m = n + 1
    · subst e; exact hw
    · exact hasW_le (by omega) (hasW_less hw)
theorem lgN_iff {f : Fn} (hf : FlowF f) : ∀ (r i : Nat), i < f.code.length → ∀ m, m ≤ lgN f r i ↔ m ≤ r ∧ hasW f m i
  | 0, i, _, m => by
    rw [lgN]
    constructor
    · intro h
      have : m = 0 := by omega
      subst this; exact ⟨h, trivial⟩
    · exact fun h => h.1
  | r + 1, i, hi, m => by
    have hmx : ∀ (l : List Int), (∀ x ∈ l, 0 ≤ x ∧ x < f.code.length) → ∀ a, (m ≤ mxL (lgN f r) l a ↔ m ≤ a ∨ ∃ x ∈ l, m ≤ lgN f r x.toNat + 1) := by
      intro l
      induction l with
      | nil => intro _ a; simp [mxL]
      | cons x l ih =>
        intro hl a
        have h1 := ih (fun y hy => hl y (List.mem_cons_of_mem _ hy)) (if a < lgN f r x.toNat + 1 then lgN f r x.toNat + 1 else a)
        rw [show mxL (lgN f r) (x :: l) a = mxL (lgN f r) l (if a < lgN f r x.toNat + 1 then lgN f r x.toNat + 1 else a) from rfl, h1]
        constructor
        · rintro (h | ⟨y, hy, h⟩)
          · split at h
            · exact .inr ⟨x, List.mem_cons_self, h⟩
            · exact .inl h
          · exact .inr ⟨y, List.mem_cons_of_mem _ hy, h⟩
        · rintro (h | ⟨y, hy, h⟩)
          · left; split <;> omega
          · rcases List.mem_cons.mp hy with rfl | hy
            · left; split <;> omega
            · exact .inr ⟨y, hy, h⟩
    rw [lgN]
    by_cases hl : prog.loc (insAt f.code i).op = true
    · rw [if_pos hl, hmx _ (fun x hx => hf.n i hi x (((putAll_mem _ [] (by simp) x).mp hx).resolve_left (by simp))) 1]
      constructor
      · rintro (h | ⟨x, hx, h⟩)
        · refine ⟨by omega, ?_⟩
          by_cases e : m = 0
          · subst e; trivial
          · have : m = 1 := by omega
            subst this; exact hasW_one hl
        · have hx2 := ((putAll_mem _ [] (by simp) x).mp hx).resolve_left (by simp)
          have hb := hf.n i hi x hx2
          by_cases e : m = 0
          · subst e; exact ⟨by omega, trivial⟩
          · obtain ⟨m', rfl⟩ : ∃ m', m = m' + 1 := ⟨m - 1, by omega⟩
            obtain ⟨h1, h2⟩ := (lgN_iff hf r x.toNat (by omega) m').mp (by omega)
            exact ⟨by omega, hasW_cons hl (by rwa [Int.toNat_of_nonneg hb.1]) h2⟩
      · rintro ⟨h1, h2⟩
        by_cases e : m ≤ 1
        · exact .inl e
        · obtain ⟨m', rfl⟩ : ∃ m', m = m' + 1 := ⟨m - 1, by omega⟩
          rcases h2.2 with q | ⟨j, hj, hw⟩
          · omega
          · right
            have hb := hf.n i hi _ hj
            refine ⟨(j : Int), (putAll_mem _ [] (by simp) _).mpr (.inr hj), ?_⟩
            have := (lgN_iff hf r j (by omega) m').mpr ⟨by omega, hw⟩
            rw [Int.toNat_natCast]
            omega
    · rw [if_neg hl]
      constructor
      · intro h
        have : m = 0 := by omega
        subst this; exact ⟨by omega, trivial⟩
      · rintro ⟨h1, h2⟩
        cases m with
        | zero => omega
        | succ m => exact absurd h2.1 hl
/-- What stands among the ends. -/
theorem ends_in {f : Fn} (hf : FlowF f) {pc : Nat} (hpc : pc < f.code.length) : ∀ (n k : Nat), endsF f pc n k = true → k < f.code.length ∧ prog.loc (insAt f.code k).op = true ∧ (match n with | 0 => k = pc | n + 1 => ∃ j, endsF f pc n j = true ∧ (k : Int) ∈ nxt f j)
  | 0, k, h => by
    rw [endsF] at h
    unfold lcT at h
    split at h
    · rename_i hk
      rw [Bool.and_eq_true] at h
      refine ⟨hk, h.2, ?_⟩
      have := h.1
      simpa [onePl] using this
    · rename_i hk
      have : k = pc := by simpa [onePl] using h
      omega
  | n + 1, k, h => by
    rw [endsF] at h
    unfold lcT at h
    split at h
    · rename_i hk
      rw [Bool.and_eq_true] at h
      obtain ⟨j, _, h2, h3⟩ := (bAll_iff f _ k _).mp h.1
      exact ⟨hk, h.2, j, h2, h3⟩
    · rename_i hk
      obtain ⟨j, h1, h2, h3⟩ := (bAll_iff f _ k _).mp h
      have := (hf.n j h1 _ h3).2
      omega
theorem ends_W {f : Fn} (hf : FlowF f) {pc : Nat} (hpc : pc < f.code.length) : ∀ (n k m : Nat), endsF f pc n k = true → hasW f (m + 1) k → hasW f (n + (m + 1)) pc
  | 0, k, m, h, hw => by
    have := (ends_in hf hpc 0 k h).2.2
    simp only at this
    subst this
    rwa [Nat.zero_add]
  | n + 1, k, m, h, hw => by
    obtain ⟨_, _, j, h1, h2⟩ := ends_in hf hpc (n + 1) k h
    have hl := (ends_in hf hpc n j h1).2.1
    have := ends_W hf hpc n j (m + 1) h1 (hasW_cons hl h2 hw)
    rwa [show n + (m + 1 + 1) = n + 1 + (m + 1) by omega] at this
theorem W_ends {f : Fn} (hf : FlowF f) {pc : Nat} (hpc : pc < f.code.length) : ∀ (m n k : Nat), endsF f pc n k = true → hasW f (m + 1) k → ∃ k', endsF f pc (n + m) k' = true
  | 0, n, k, h, _ => ⟨k, h⟩
  | m + 1, n, k, h, hw => by
    rcases hw.2 with q | ⟨j, hj, hw⟩
    · omega
    · have hk := (ends_in hf hpc n k h).1
      have hb := hf.n k hk _ hj
      have hj2 : endsF f pc (n + 1) j = true := by
        rw [endsF]
        unfold lcT
        rw [if_pos (by omega), Bool.and_eq_true]
        exact ⟨(bAll_iff f _ j _).mpr ⟨k, hk, h, hj⟩, hasW_loc hw⟩
      obtain ⟨k', h'⟩ := W_ends hf hpc m (n + 1) j hj2 hw
      exact ⟨k', by rwa [show n + (m + 1) = n + 1 + m by omega]⟩
theorem ends_iff {f : Fn} (hf : FlowF f) {pc : Nat} (hpc : pc < f.code.length) (n : Nat) : ¬ noneP (endsF f pc n) ↔ hasW f (n + 1) pc := by
  have h64 := hf.l64
  constructor
  · intro h
    apply Classical.byContradiction
    intro hn
    refine h fun k hk => ?_
    cases q : endsF f pc n k with
    | false => rfl
    | true => exact absurd (ends_W hf hpc n k 0 q (hasW_one (ends_in hf hpc n k q).2.1)) hn
  · intro h hn
    have h0 : endsF f pc 0 pc = true := by
      rw [endsF]; unfold lcT
      rw [if_pos hpc, Bool.and_eq_true]
      exact ⟨by simp [onePl], hasW_loc h⟩
    obtain ⟨k, hk⟩ := W_ends hf hpc n 0 pc h0 h
    rw [Nat.zero_add] at hk
    have := hn k (by have := (ends_in hf hpc n k hk).1; omega)
    rw [hk] at this; cases this
open Classical in
theorem least_is (f : Fn) (L : Int → Bool) (s : Nat → Bool) : ∃ R, Least f L s R := by
  refine ⟨fun k => decide (∀ R' : Nat → Bool, (∀ k, s k = true → R' k = true) → closedF f L R' → R' k = true), fun k hk => ?_, fun pc hp h1 h2 x hx => ?_, fun R' h1 h2 k hk => ?_⟩
  · exact decide_eq_true fun R' h _ => h k hk
  · refine decide_eq_true fun R' h hc => ?_
    exact hc pc hp (of_decide_eq_true h1 R' h hc) h2 x hx
  · exact of_decide_eq_true hk R' h1 h2
theorem LL_t (op : Int) : LL true op = prog.loc op := rfl
open Classical in
/-- What spins has ways of every length. -/
theorem spin_all {f : Fn} (hf : FlowF f) {i : Nat} (h : spP f i) : ∀ m, hasW f m i
  | 0 => trivial
  | m + 1 => by
    obtain ⟨hl, R, hR, hi⟩ := h
    have ih := spin_all hf ⟨hl, R, hR, hi⟩ m
    have := hR.le (fun k => decide (hasW f m k → hasW f (m + 1) i)) (fun k hk => decide_eq_true fun hw => by
      unfold puts at hk
      rw [Bool.false_or, decide_eq_true_eq] at hk
      exact hasW_cons hl hk hw) (fun pc hp h1 h2 x hx => decide_eq_true fun hw => by
      have hb := hf.n pc hp x hx
      refine of_decide_eq_true h1 (hasW_less (hasW_cons h2 ?_ hw))
      rwa [Int.toNat_of_nonneg hb.1]) i hi
    exact of_decide_eq_true this ih
open Classical in
theorem on_all {f : Fn} (hf : FlowF f) {pc i : Nat} {on : Nat → Bool} (ho : Least f (LL true) (onePl pc) on) (hi : on i = true) (h : ∀ m, hasW f m i) : ∀ m, hasW f m pc := by
  have := ho.le (fun k => decide ((∀ m, hasW f m k) → ∀ m, hasW f m pc)) (fun k hk => decide_eq_true fun hw => by
    have : k = pc := by simpa [onePl] using hk
    subst this; exact hw) (fun p hp h1 h2 x hx => decide_eq_true fun hw => by
    have hb := hf.n p hp x hx
    refine of_decide_eq_true h1 fun m => hasW_less (hasW_cons h2 ?_ (hw m))
    rwa [Int.toNat_of_nonneg hb.1]) i hi
  exact of_decide_eq_true this h
theorem miss_most (s : Nat → Bool) : ∀ n, miss s n ≤ n
  | 0 => Nat.le_refl _
  | n + 1 => by
    have := miss_most s n
    rw [miss]; split <;> omega
/-- Where nothing spins, a way has each place once. -/
theorem way_few {f : Fn} (hf : FlowF f) {pc : Nat} {on : Nat → Bool} (ho : Least f (LL true) (onePl pc) on) (hs : ∀ i, i < f.code.length → on i = true → ¬ spP f i) : ∀ (m i : Nat), i < f.code.length → on i = true → hasW f m i → ∀ D, Least f (LL true) (onePl i) D → m + miss D f.code.length ≤ f.code.length
  | 0, i, hi, _, _, D, _ => by have := miss_most D f.code.length; omega
  | m + 1, i, hi, hon, hw, D, hD => by
    have hii : D i = true := hD.up i (by simp [onePl])
    rcases hw.2 with q | ⟨j, hj, hwj⟩
    · subst q
      have h1 := miss_lt (s := fun _ => false) (t := D) (by simp) f.code.length ⟨i, hi, by rw [hii]; simp⟩
      have h2 := miss_most (fun _ => false) f.code.length
      omega
    · have hb := hf.n i hi _ hj
      have hjn : j < f.code.length := by omega
      have onj : on j = true := by
        have := ho.cl i hi hon hw.1 _ hj
        rwa [Int.toNat_natCast] at this
      obtain ⟨E, hE⟩ := least_is f (LL true) (onePl j)
      have ih := way_few hf ho hs m j hjn onj hwj E hE
      have hDj : D j = true := by
        have := hD.cl i hi hii hw.1 _ hj
        rwa [Int.toNat_natCast] at this
      have hsub : ∀ k, E k = true → D k = true := hE.le D (fun k hk => by
        have : k = j := by simpa [onePl] using hk
        subst this; exact hDj) hD.cl
      have hni : E i ≠ true := fun q => by
        obtain ⟨R, hR⟩ := least_is f (LL true) (puts (fun _ => false) (nxt f i))
        refine hs i hi hon ⟨hw.1, R, hR, ?_⟩
        refine hE.le R (fun k hk => ?_) hR.cl i q
        have : k = j := by simpa [onePl] using hk
        subst this
        exact hR.up _ (by unfold puts; rw [Bool.false_or]; exact decide_eq_true hj)
      have := miss_lt hsub f.code.length ⟨i, hi, by rw [hii]; exact fun e => hni e.symm⟩
      omega
/-- Both tell the same. -/
theorem long_same {f : Fn} (hf : FlowF f) {pc : Nat} (hpc : pc < f.code.length) {r r' : Int} (h : LngR f pc r) (h' : LgD f pc r') : r = r' := by
  obtain ⟨on, ho, h'⟩ := h'
  rcases h' with ⟨⟨i, hi, oi, si⟩, rfl⟩ | ⟨hs, rfl⟩
  · have hall := on_all hf ho oi (spin_all hf si)
    rcases h with ⟨n, _, hn, _, _⟩ | ⟨_, rfl⟩
    · exact absurd hn ((ends_iff hf hpc n).mpr (hall _))
    · rfl
  · rcases h with ⟨n, hn, hno, hyes, rfl⟩ | ⟨hall, rfl⟩
    · have h1 : hasW f n pc := by
        cases n with
        | zero => trivial
        | succ n => exact (ends_iff hf hpc n).mp (hyes n (by omega))
      have h2 : ¬ hasW f (n + 1) pc := fun q => (ends_iff hf hpc n).mpr q hno
      have e1 := (lgN_iff hf f.code.length pc hpc n).mpr ⟨hn, h1⟩
      have e2 : ¬ n + 1 ≤ lgN f f.code.length pc := fun q => h2 ((lgN_iff hf f.code.length pc hpc (n + 1)).mp q).2
      omega
    · exfalso
      have hw := (ends_iff hf hpc f.code.length).mp (hall _ (Nat.le_refl _))
      obtain ⟨D, hD⟩ := least_is f (LL true) (onePl pc)
      have := way_few hf ho hs _ pc hpc (ho.up pc (by simp [onePl])) hw D hD
      omega
end Go.Proofs.YtmgmiaonljcfcaaDoor.pg
/- The document's own Longest, in memory. -/
namespace Go.Proofs.YtmgmiaonljcfcaaDoor.pg
open Go.ChangeShapes Go.WideShapes Go.ChangeAt Go.RowKit Go.Shelf
set_option linter.unusedVariables false
set_option linter.unusedSimpArgs false
set_option maxRecDepth 100000
set_option maxHeartbeats 4000000 in
theorem rlong_any (M : MPr) (f : Int) (pc : Nat) (w : World) (hM : M.lies w) (F : MFn) (hFi : M.fns[f.toNat]? = some F) (hfl : FlowF F.fn) (f0 : 0 ≤ f) (hpc : pc < F.code.length) :
    Calls Tryd.prog 16 #[M.val, .int .i64 f, .int .i64 (pc : Int)] w fun e w' => ∃ r, e = .returned (.int .i64 r) ∧ LgD F.fn pc r ∧ Below w.heap.size w w' := by
  obtain ⟨iN, hiN, hzN, hsN, hbN⟩ := info_q infoN_u
  have hb := boxed w (objP M)
  have hMH : Hid (M.lies w) := hM
  have hbH : Hid (Below w.heap.size w (w.alloc (objP M))) := hb
  have bP := boxP_new w M
  have hl64 : F.code.length ≤ 64 := hfl.l64
  have hpn : Hid ((w.alloc (objP M)).heap[w.heap.size]? = some (objP M)) := heap_alloc_new w _
  obtain ⟨fb, fo, hfix, hfb, fc0, fc1, fc2, fc3⟩ := fn_ix (hM.later hb).2.2.1 f.toNat F hFi
  rw [show ((f.toNat : Nat) : Int) = f by omega] at hfix
  have p3 := bP.2.2.2
  clear hM hb fc0 fc1 fc3 hfb
  go_enter Tryd.func16, Tryd.ntmps16
  go_upto_region 2 with (fail)
  clear p3 fc2 hfix
  generalize w.alloc (objP M) = V at *
  have hH : Below V.heap.size V V.drew := bey_drew V
  have hrP : ∀ w', Below V.heap.size V w' → w'.rangeAt w.heap.size 0 [.slice M.va M.vars.length M.vcap, .int .i64 M.locks, .slice M.cha M.chans.length M.chcap, .slice M.fa M.fns.length M.fcap] := fun w' h' j v hj => by
    match j, hj with
    | 0, hj => cases hj; exact cell_later h' bP.1
    | 1, hj => cases hj; exact cell_later h' bP.2.1
    | 2, hj => cases hj; exact cell_later h' bP.2.2.1
    | 3, hj => cases hj; exact cell_later h' bP.2.2.2
  refine wp_region_held_drew (S := fun w' => Below V.heap.size V w') (by kernel_rfl) hH (fun _ => ?_)
  refine reg_load (i := 0) rfl (by kernel_rfl) (by kernel_rfl) (by kernel_rfl) (fun _ _ _ _ h => h) rfl 26 _ rfl w.heap.size 0 rfl [.slice M.va M.vars.length M.vcap, .int .i64 M.locks, .slice M.cha M.chans.length M.chcap, .slice M.fa M.fns.length M.fcap] _ hrP Tryd.underlying26 rfl (by kernel_rfl) hH ?_
  simp only [Act.put, List.getElem_toArray, List.getElem_cons_succ, List.getElem_cons_zero, List.setIfInBounds_toArray, List.set_cons_zero, List.set_cons_succ]
  refine reg_move (i := 1) rfl (by kernel_rfl) (by kernel_rfl) (by kernel_rfl) (fun _ _ _ _ h => h) rfl (.int .i64 f) (fun _ => by kernel_rfl) hH ?_
  simp only [Act.put, List.getElem_toArray, List.getElem_cons_succ, List.getElem_cons_zero, List.setIfInBounds_toArray, List.set_cons_zero, List.set_cons_succ]
  refine reg_load (i := 2) rfl (by kernel_rfl) (by kernel_rfl) (by kernel_rfl) (fun _ _ _ _ h => h) rfl 26 _ rfl w.heap.size 0 rfl [.slice M.va M.vars.length M.vcap, .int .i64 M.locks, .slice M.cha M.chans.length M.chcap, .slice M.fa M.fns.length M.fcap] _ hrP Tryd.underlying26 rfl (by kernel_rfl) hH ?_
  simp only [Act.put, List.getElem_toArray, List.getElem_cons_succ, List.getElem_cons_zero, List.setIfInBounds_toArray, List.set_cons_zero, List.set_cons_succ]
  refine reg_move (i := 3) rfl (by kernel_rfl) (by kernel_rfl) (by kernel_rfl) (fun _ _ _ _ h => h) rfl (.int .i64 f) (fun _ => by kernel_rfl) hH ?_
  simp only [Act.put, List.getElem_toArray, List.getElem_cons_succ, List.getElem_cons_zero, List.setIfInBounds_toArray, List.set_cons_zero, List.set_cons_succ]
  refine reg_move (i := 4) rfl (by kernel_rfl) (by kernel_rfl) (by kernel_rfl) (fun _ _ _ _ h => h) rfl (.int .i64 (pc : Int)) (fun _ => by kernel_rfl) hH ?_
  simp only [Act.put, List.getElem_toArray, List.getElem_cons_succ, List.getElem_cons_zero, List.setIfInBounds_toArray, List.set_cons_zero, List.set_cons_succ]
  refine reg_call3F (i := 5) (by kernel_rfl) rfl rfl 43 _ _ _ _ _ _ rfl M.val (.int .i64 f) (.int .i64 (pc : Int)) rfl rfl rfl (cf_fn Tryd.func43 (by kernel_rfl) (by kernel_rfl) _ _) _ (rfrom_any M f pc _ (hMH.out.later (bthen hbH.out hH)) F hFi hfl f0 hpc) ?_
  rintro e3 w3 ⟨B3, rfl, hBl3, hb3⟩
  have hH3 : Below V.heap.size V w3 := bthen hH hb3
  refine ⟨_, rfl, hH3, fun _ => ?_⟩
  simp only [Act.put, List.getElem_toArray, List.getElem_cons_succ, List.getElem_cons_zero, List.setIfInBounds_toArray, List.set_cons_zero, List.set_cons_succ]
  refine reg_call4F (i := 6) (by kernel_rfl) rfl rfl 42 _ _ _ _ _ _ _ _ rfl M.val (.int .i64 f) (.slice (some ⟨B3, 0, none⟩) F.code.length F.code.length) (.bool true) rfl rfl rfl rfl (cf_fn Tryd.func42 (by kernel_rfl) (by kernel_rfl) _ _) _ (rmarked_any M f w3 (hMH.out.later (bthen hbH.out hH3)) F hFi hfl f0 true (onePl pc) (onePl_out hpc) _ B3 F.code.length hBl3) ?_
  rintro e4 w4 ⟨B4, cap4, R, rfl, hBl4, hR, hRo, hb4⟩
  have hH4 : Below V.heap.size V w4 := bthen hH3 hb4
  refine ⟨_, rfl, hH4, fun _ => ?_⟩
  simp only [Act.put, List.getElem_toArray, List.getElem_cons_succ, List.getElem_cons_zero, List.setIfInBounds_toArray, List.set_cons_zero, List.set_cons_succ]
  refine reg_move (i := 7) rfl (by kernel_rfl) (by kernel_rfl) (by kernel_rfl) (fun _ _ _ _ h => h) rfl (.slice (some ⟨B4, 0, none⟩) F.code.length cap4) (fun _ => rfl) hH4 ?_
  simp only [Act.put, List.getElem_toArray, List.getElem_cons_succ, List.getElem_cons_zero, List.setIfInBounds_toArray, List.set_cons_zero, List.set_cons_succ]
  refine wpAnyH_done (by kernel_rfl) ?_ _
  have hMS : Hid (MS w w4 M B4 F.code.length cap4 R) := ⟨bthen hbH.out hH4, hBl4.mono (by have := hbH.out.size; have := hH3.size; omega), (hH4.block _ (Array.getElem?_eq_some_iff.mp hpn.out).1).trans hpn.out, by have h1 := hBl4.lo; have h2 := hH3.size; have h3 := (Array.getElem?_eq_some_iff.mp hpn.out).1; omega⟩
  have hRH : Hid (Least F.fn (LL true) (onePl pc) R) := hR
  have hFH : Hid (M.fns[f.toNat]? = some F) := hFi
  have hflH : Hid (FlowF F.fn) := hfl
  have hFm := List.mem_of_getElem? hFi
  clear hR hRo hb4 hBl4 hBl3 hb3 hH hH3 hH4 hrP bP hpn hbH hfl hFi
  generalize hn : F.code.length = n at *
  go_wp2_with fail
  go_loopw [9] (fun u wr => ∃ (i : Nat), i ≤ n ∧ u = .int .i64 (i : Int) ∧ Hid (MS w wr M B4 n cap4 R ∧ ∀ j, j < i → R j = true → ¬ spP F.fn j)) (fun u _ => n - (intOf u).toNat)
  case atStart => exact ⟨0, Nat.zero_le _, rfl, hMS.out, fun j hj => by omega⟩
  case round =>
    clear hMS
    obtain ⟨i, hi, rfl, hj⟩ := hrel
    by_cases hlt : i < n
    · have hkI : (i : Int) < n := by omega
      obtain ⟨b0, b1, b2, b3⟩ := hj.out.1.box
      have xI := ix_bl B4 n cap4 i hlt
      have cI := (hj.out.1.l.cell hlt).1
      have xS := rspins_any M f i wr (hMH.out.later hj.out.1.b) F hFH.out hflH.out f0 (by rw [hn]; exact hlt)
      obtain ⟨bi, hbi⟩ : ∃ bi, R i = bi := ⟨_, rfl⟩
      rw [hbi] at cI
      cases bi with
      | false =>
        have hj2 : Hid (MS w wr M B4 n cap4 R ∧ ∀ j, j < i + 1 → R j = true → ¬ spP F.fn j) := ⟨hj.out.1, fun j h1 h2 => by
          by_cases e : j = i
          · subst e; rw [hbi] at h2; cases h2
          · exact hj.out.2 j (by omega) h2⟩
        clear hj xS hbi
        go_wp2_with fail
        go_roundw
        case rel => exact ⟨i + 1, by omega, by go_num, hj2⟩
        case measure => simp [intOf]; omega
      | true =>
        have hbiH : Hid (R i = true) := hbi
        clear hbi
        go_wp2_with (go_at_call 44; (with_reducible refine xS.mono ?_); rintro e w5 ⟨b, rfl, hsp, hb5⟩; (have hspH : Hid (b = true ↔ spP F.fn i) := spP_iff hsp); clear hsp; cases b)
        · have hj2 : Hid (MS w w5 M B4 n cap4 R ∧ ∀ j, j < i + 1 → R j = true → ¬ spP F.fn j) := ⟨hj.out.1.later hb5, fun j h1 h2 => by
            by_cases e : j = i
            · subst e; intro q; cases hspH.out.mpr q
            · exact hj.out.2 j (by omega) h2⟩
          clear hj
          go_wp2_with fail
          go_roundw
          case rel => exact ⟨i + 1, by omega, by go_num, hj2⟩
          case measure => simp [intOf]; omega
        · go_wp2_with fail
          go_ret
          exact ⟨-1, rfl, ⟨R, hRH.out, .inl ⟨⟨i, by show i < F.code.length; omega, hbiH.out, hspH.out.mp (by first | trivial | rfl)⟩, rfl⟩⟩, bthen hj.out.1.b hb5⟩
    · have hno : Hid (∀ j, j < F.fn.code.length → R j = true → ¬ spP F.fn j) := fun j h1 h2 => hj.out.2 j (by have h3 : F.fn.code.length = n := hn; omega) h2
      have hkI : ¬ ((i : Int) < n) := by omega
      have hjb : Hid (Below w.heap.size w wr ∧ wr.heap[w.heap.size]? = some (objP M)) := ⟨hj.out.1.b, hj.out.1.p⟩
      clear hj
      go_wp2_with (first
        | (refine wpList_mk _ rfl _ _ 23 rfl 3 iN _ Tryd.underlying23 hiN hzN rfl hsN n rfl rfl (by rw [hbN]; omega) (by omega) ?_; intro w5 hn5 hb5 hs5; (have hL0 : Hid (L1 w w5 M n wr.heap.size (lgN F.fn 0)) := ⟨bthen hjb.out.1 hb5, (hb5.block _ (Array.getElem?_eq_some_iff.mp hjb.out.2).1).trans hjb.out.2, (il_new hn5 hjb.out.1.size).congr fun j _ => (by rw [lgN]), by have := (Array.getElem?_eq_some_iff.mp hjb.out.2).1; omega⟩); clear hn5 hb5 hs5 hjb))
      generalize wr.heap.size = A0 at *
      go_loopw [10, 11] (fun a u wr => ∃ (A r : Nat), r ≤ n ∧ a = .slice (some ⟨A, 0, none⟩) n n ∧ u = .int .i64 (r : Int) ∧ Hid (L1 w wr M n A (lgN F.fn r))) (fun _ u _ => n - (intOf u).toNat)
      case atStart => exact ⟨A0, 0, Nat.zero_le _, rfl, rfl, hL0⟩
      case round =>
        clear hL0
        obtain ⟨A, r, hr, rfl, rfl, hl⟩ := hrel
        by_cases hrn : r < n
        · have hrI : (r : Int) < n := by omega
          go_wp2_with (first
            | (refine wpList_mk _ rfl _ _ 23 rfl 3 iN _ Tryd.underlying23 hiN hzN rfl hsN n rfl rfl (by rw [hbN]; omega) (by omega) ?_; intro w5 hn5 hb5 hs5; (have hL2 : Hid (L2 w w5 M n A wr.heap.size (lgN F.fn r) (lgT F.fn r 0)) := ⟨hl.out.later hb5, (il_new hn5 hl.out.b.size).congr fun j _ => (by unfold lgT; rw [if_neg (by omega)]), by have := (Array.getElem?_eq_some_iff.mp hl.out.p).1; omega, by have := hl.out.a.lt; omega⟩); clear hn5 hb5 hs5 hl))
          generalize wr.heap.size = D at *
          go_loopw [13] (fun u wr => ∃ (i : Nat), i ≤ n ∧ u = .int .i64 (i : Int) ∧ Hid (L2 w wr M n A D (lgN F.fn r) (lgT F.fn r i))) (fun u _ => n - (intOf u).toNat)
          case atStart => exact ⟨0, Nat.zero_le _, rfl, hL2⟩
          case round =>
            clear hL2
            obtain ⟨i, hi2, rfl, hq⟩ := hrel
            by_cases hlt : i < n
            · have hiI : (i : Int) < n := by omega
              have hlF : F.lies wr := (hMH.out.later hq.out.o.b).2.2.2.2.2.2 F hFm
              obtain ⟨m1, m2⟩ := insAt_mem (code := F.code) (pc := (i : Int)) (by omega) (by omega)
              rw [Int.toNat_natCast] at m1
              obtain ⟨ib, io, hix, hib, i0, i1, i2, i3, i4⟩ := ins_ix hlF.1 i _ m1
              have hio := (hlF.2.2.1 _ m2).1
              have cL : ∀ wx, Calls Tryd.prog 45 #[.int .i64 (insAt F.code i).op] wx _ := fun wx => prog.reflocal_any (insAt F.code i).op hio.1 hio.2 wx _ rfl
              rw [hn] at hix
              have hst : Hid (∀ j, lgT F.fn r (i + 1) j = if j = i then (if prog.loc (insAt F.code i).op = true then mxL (lgN F.fn r) (putAll [] (nxt F.fn i)) 1 else 0) else lgT F.fn r i j) := fun j => by
                unfold lgT
                by_cases e : j = i
                · subst e; rw [if_pos (by omega), if_pos rfl, lgN]; rfl
                · rw [if_neg e]
                  by_cases g : j < i
                  · rw [if_pos g, if_pos (by omega)]
                  · rw [if_neg g, if_neg (by omega)]
              clear m1 m2 hib i1 i2 i3 i4 hio hlF
              generalize (insAt F.code i).op = op at *
              obtain ⟨lb, hlb⟩ : ∃ lb, prog.loc op = lb := ⟨_, rfl⟩
              rw [hlb] at cL
              cases lb with
              | false =>
                have hq2 : Hid (L2 w wr M n A D (lgN F.fn r) (lgT F.fn r (i + 1))) := ⟨hq.out.o, hq.out.d.congr fun j hj => by
                  rw [hst.out j]
                  by_cases e : j = i
                  · subst e; rw [if_pos rfl, if_neg (by rw [hlb]; simp)]; unfold lgT; rw [if_neg (by omega)]
                  · rw [if_neg e], hq.out.n2, hq.out.n3⟩
                clear hq hst hlb
                go_wp2_with (go_at_call 45; (with_reducible refine (cL _).mono ?_); rintro e w9 ⟨rfl, h9⟩; replace h9 := h9.symm; subst h9)
                go_roundw
                case rel => exact ⟨i + 1, by omega, by go_num, hq2⟩
                case measure => simp [intOf]; omega
              | true =>
                have hst2 : Hid (∀ j, lgT F.fn r (i + 1) j = if j = i then mxL (lgN F.fn r) (putAll [] (nxt F.fn i)) 1 else lgT F.fn r i j) := fun j => by rw [hst.out j, if_pos hlb]
                have xD := ix_il D n n i hlt
                have cD := (hq.out.d.cell hlt).1
                have fD := (hq.out.d.cell hlt).2
                have hV : Hid (L2 w (wr.setCell ⟨D, i, none⟩ (.int .i64 1)) M n A D (lgN F.fn r) (fun b => if b = i then 1 else lgT F.fn r i b)) := hq.out.set hlt 1
                obtain ⟨b0, b1, b2, b3⟩ := hV.out.o.box
                have xN := rnext_any M f i (wr.setCell ⟨D, i, none⟩ (.int .i64 1)) (hMH.out.later hV.out.o.b) F hFH.out hflH.out f0 (by rw [hn]; exact hlt)
                clear hq hst hlb
                go_wp2_with (first
                  | (go_at_call 45; (with_reducible refine (cL _).mono ?_); rintro e w9 ⟨rfl, h9⟩; replace h9 := h9.symm; subst h9)
                  | (go_at_call 14; (with_reducible refine xN.mono ?_); rintro e w6 ⟨va2, vc2, rfl, hs2⟩))
                have hPm : Hid (∀ x ∈ putAll [] (nxt F.fn i), 0 ≤ x ∧ x < n) := fun x hx => by
                  have h1 := hflH.out.n i (by show i < F.code.length; omega) x (((putAll_mem _ [] (by simp) x).mp hx).resolve_left (by simp))
                  rw [show F.fn.code.length = n from hn] at h1
                  exact h1
                have hPl : (putAll [] (nxt F.fn i)).length ≤ 63 := nxt_small hflH.out i (by show i < F.code.length; omega)
                generalize putAll [] (nxt F.fn i) = L at *
                have hDlt : D < (wr.setCell ⟨D, i, none⟩ (.int .i64 1)).heap.size := hV.out.d.lt
                have hI0 : Hid (L2 w w6 M n A D (lgN F.fn r) (fun b => if b = i then mxL (lgN F.fn r) (L.take 0) 1 else lgT F.fn r i b) ∧ OwnL w6 (wr.setCell ⟨D, i, none⟩ (.int .i64 1)).heap.size 3 1 va2 vc2 (L.map chCells)) := ⟨hV.out.later hs2.be, hs2.ow⟩
                clear hs2 xD cD fD hV b0 b1 b2 b3 xN cL hix i0
                generalize (wr.setCell ⟨D, i, none⟩ (.int .i64 1)).heap.size = lo2 at *
                go_loopw [15] (fun u wr => ∃ (k : Nat), k ≤ L.length ∧ u = .int .i64 (k : Int) ∧ Hid (L2 w wr M n A D (lgN F.fn r) (fun b => if b = i then mxL (lgN F.fn r) (L.take k) 1 else lgT F.fn r i b) ∧ OwnL wr lo2 3 1 va2 vc2 (L.map chCells))) (fun u _ => L.length - (intOf u).toNat)
                case atStart => exact ⟨0, Nat.zero_le _, rfl, hI0⟩
                case round =>
                  clear hI0
                  obtain ⟨k, hk, rfl, hj⟩ := hrel
                  by_cases hkl : k < L.length
                  · obtain ⟨x, hx, hxm⟩ := get_lt L k hkl
                    obtain ⟨x0, xn1⟩ := hPm.out x hxm
                    obtain ⟨xn, rfl⟩ : ∃ xn : Nat, x = (xn : Int) := ⟨x.toNat, by omega⟩
                    have hxn : xn < n := by omega
                    obtain ⟨lb, lo1, hix1, hlb1, c1⟩ := ch_ix (own_rows hj.out.2 (len1u _)) k _ hx
                    have hkI2 : (k : Int) < L.length := by omega
                    have xA := ix_il A n n xn hxn
                    have xD := ix_il D n n i hlt
                    obtain ⟨mx, gx, cA, cD, fD, hgw, hyes⟩ := lg_rd hj.out hlt hx hxn hrn hl64 hDlt
                    clear hj hx hxm hst2 hPm
                    rcases hyes with ⟨d1, hj2⟩ | ⟨d1, hj2⟩
                    · go_wp2_with fail
                      go_quiet (fail)
                      go_wp2_with fail
                      go_roundw
                      case rel => exact ⟨k + 1, by omega, by go_num, hj2.out _ (below_drewN (Below.refl _ _) _)⟩
                      case measure => simp [intOf]; omega
                    · go_wp2_with fail
                      go_quiet (fail)
                      go_wp2_with fail
                      go_roundw
                      case rel => exact ⟨k + 1, by omega, by go_num, hj2.out _ (below_drewN (Below.refl _ _) _)⟩
                      case measure => simp [intOf]; omega
                  · have hk2 : k = L.length := by omega
                    have hkI2 : ¬ ((k : Int) < L.length) := by omega
                    have hq2 : Hid (L2 w wr M n A D (lgN F.fn r) (lgT F.fn r (i + 1))) := by
                      have h := hj.out.1
                      rw [hk2, List.take_length] at h
                      exact ⟨h.o, h.d.congr fun j _ => (hst2.out j).symm, h.n2, h.n3⟩
                    clear hj hk2
                    go_wp2_with fail
                    go_roundw
                    case rel => exact ⟨i + 1, by omega, by go_num, hq2⟩
                    case measure => simp [intOf]; omega
            · have hiI : ¬ ((i : Int) < n) := by omega
              have hl2 : Hid (L1 w wr M n D (lgN F.fn (r + 1))) := ⟨hq.out.o.b, hq.out.o.p, hq.out.d.congr fun j hj => by unfold lgT; rw [if_pos (by omega)], hq.out.n2⟩
              clear hq
              go_wp2_with fail
              go_roundw
              case rel => exact ⟨D, r + 1, by omega, rfl, by go_num, hl2⟩
              case measure => simp [intOf]; omega
        · have hrI : ¬ ((r : Int) < n) := by omega
          have hr2 : r = n := by omega
          have xA := ix_il A n n pc hpc
          have cA := (hl.out.a.cell hpc).1
          go_wp2_with fail
          go_ret
          refine ⟨((lgN F.fn n pc : Nat) : Int), rfl, ⟨R, hRH.out, .inr ⟨hno.out, ?_⟩⟩, hl.out.b⟩
          rw [show F.fn.code.length = n from hn]
end Go.Proofs.YtmgmiaonljcfcaaDoor.pg
/- FlowNexts, walked. -/
namespace Go.Proofs.YtmgmiaonljcfcaaDoor.pg
open Go.ChangeShapes Go.WideShapes Go.ChangeAt Go.RowKit Go.Shelf
set_option linter.unusedVariables false
set_option linter.unusedSimpArgs false
set_option maxRecDepth 100000
theorem next_same {f : Fn} (hf : FlowF f) {pc : Nat} (hpc : pc < f.code.length) : putAll [] (nxt f pc) = lst (bAll f (onePl pc) f.code.length) 64 := by
  have h64 := hf.l64
  refine ris_ext (putAll_ris _ _ (by simp [Ris])) (lst_ris _ _) fun x => ?_
  rw [putAll_mem _ [] (by simp [Ris]) x, lst_mem]
  constructor
  · rintro (h | h)
    · cases h
    · have hb := hf.n pc hpc x h
      refine ⟨x.toNat, by omega, (bAll_iff _ _ _ _).mpr ⟨pc, hpc, by simp [onePl], ?_⟩, by omega⟩
      rwa [Int.toNat_of_nonneg hb.1]
  · rintro ⟨k, _, h2, rfl⟩
    obtain ⟨p, h3, h4, h5⟩ := (bAll_iff _ _ _ _).mp h2
    have : p = pc := by simpa [onePl] using h4
    subst this
    exact .inr h5
set_option maxHeartbeats 1000000 in
theorem flong_err (M : MPr) (f pc : Int) (w : World) (hM : M.lies w) (hF : prog.Forms w) (e : Int) (he : Hid (e = fitP M.pr f pc)) (hne : e ≠ 0) :
    Calls Tryd.prog 10 #[M.val, .int .i64 f, .int .i64 pc] w fun e' w' => e' = .returned (.tuple #[.int .i64 0, .int .i64 e]) ∧ Below w.heap.size w w' := by
  have hb := boxed w (objP M)
  have bP := boxP_new w M
  have hcall := fcheckPlace_any M f pc _ (hM.later hb) (hF.later hb) e he
  have hbH : Hid (Below w.heap.size w (w.alloc (objP M))) := hb
  have d : (e != 0) = true := by simpa using hne
  clear hM hF he hb hne
  go_enter Tryd.func10, Tryd.ntmps10
  go_wp2_with (go_at_call 33; (with_reducible refine hcall.mono ?_); rintro e w2 ⟨rfl, hb2⟩)
  go_ret2
  exact ⟨rfl, bthen hbH.out hb2⟩
theorem box4 {W W' : World} {B : Nat} {M : MPr} (h : Hid (BoxP W B M)) (hb : Below W.heap.size W W') : Hid (BoxP W' B M) := h.out.later hb
/-- What the law's calls answer at a place that is one. -/
def NxR (P : Program) (fid : FuncId) (vs : Array Value) (N : List Int) (tup : Bool) (V : World) : Prop := Calls P fid vs V fun e w' => ∃ va vc, e = .returned (if tup = true then .tuple #[.slice va N.length vc, .int .i64 0] else .slice va N.length vc) ∧ Rows w' 1 va vc (N.map chCells) ∧ Below V.heap.size V w'
set_option maxHeartbeats 8000000 in
theorem nexts_any (M : MPr) (f pc : Int) (w : World) (hM : M.lies w) (hF : prog.Forms w) : Calls Tryd.prog 3 #[M.val, .int .i64 f, .int .i64 pc] w fun e w' => e = .returned (.bool true) ∧ Below w.heap.size w w' := by
  have hb := boxed w (objP M)
  have bP := boxP_new w M
  have bPH : Hid (BoxP (w.alloc (objP M)) w.heap.size M) := bP
  have hbH : Hid (Below w.heap.size w (w.alloc (objP M))) := hb
  have hMH : Hid (M.lies w) := hM
  have hPH : Hid (prog.Forms w) := hF
  obtain ⟨e, he⟩ : ∃ e, Hid (e = fitP M.pr f pc) := ⟨_, rfl⟩
  have cS : Hid (∀ V, Below w.heap.size w V → Calls Tryd.prog 12 #[] V fun e' w' => e' = .returned (.bool true) ∧ Below V.heap.size V w') := fun V hV => speaksF_any V (hPH.out.later hV)
  have cI : Hid (∀ V, Below w.heap.size w V → Calls Tryd.prog 11 #[M.val, .int .i64 f, .int .i64 pc] V fun e' w' => e' = .returned (.int .i64 e) ∧ Below V.heap.size V w') := fun V hV => rfit_any M f pc V (hMH.out.later hV) e he
  by_cases e0 : e = 0
  rotate_left
  · have xN := fnext_err M f pc _ (hM.later hb) (hF.later hb) e he e0
    have cR : Hid (∀ V, Below w.heap.size w V → Calls Tryd.prog 9 #[M.val, .int .i64 f, .int .i64 pc] V fun e' w' => e' = .returned (.tuple #[.slice none 0 0, .int .i64 e]) ∧ Below V.heap.size V w') := fun V hV => freach_err M f pc V (hMH.out.later hV) (hPH.out.later hV) e he e0
    have cL : Hid (∀ V, Below w.heap.size w V → Calls Tryd.prog 10 #[M.val, .int .i64 f, .int .i64 pc] V fun e' w' => e' = .returned (.tuple #[.int .i64 0, .int .i64 e]) ∧ Below V.heap.size V w') := fun V hV => flong_err M f pc V (hMH.out.later hV) (hPH.out.later hV) e he e0
    have d : (e != 0) = true := by simpa using e0
    have d2 : (e != e) = false := by simp
    clear hM hF hb e0 he
    go_enter Tryd.func3, Tryd.ntmps3
    go_wp2_with (first
      | (go_at_call 8; (refine xN.mono ?_); rintro e' w2 ⟨rfl, hb2⟩; clear bP xN; (have p2 := box4 bPH hb2); (have hB2 : Hid (Below w.heap.size w w2) := bthen hbH.out hb2); (have xR := cR.out w2 hB2.out); obtain ⟨q0, q1, q2, q3⟩ := p2.out)
      | (go_at_call 9; (refine xR.mono ?_); rintro e' w3 ⟨rfl, hb3⟩; clear q0 q1 q2 q3 xR; (have p3 := box4 p2 hb3); (have hB3 : Hid (Below w.heap.size w w3) := bthen hB2.out hb3); (have xL := cL.out w3 hB3.out); obtain ⟨q0, q1, q2, q3⟩ := p3.out)
      | (go_at_call 10; (refine xL.mono ?_); rintro e' w4 ⟨rfl, hb4⟩; clear q0 q1 q2 q3 xL; (have p4 := box4 p3 hb4); (have hB4 : Hid (Below w.heap.size w w4) := bthen hB3.out hb4); (have xI := cI.out w4 hB4.out); obtain ⟨q0, q1, q2, q3⟩ := p4.out)
      | (go_at_call 11; (refine xI.mono ?_); rintro e' w5 ⟨rfl, hb5⟩; clear q0 q1 q2 q3 xI; (have hB5 : Hid (Below w.heap.size w w5) := bthen hB4.out hb5); (have xS := cS.out w5 hB5.out))
      | (go_at_call 12; (refine xS.mono ?_); rintro e' w6 ⟨rfl, hb6⟩))
    go_ret
    exact ⟨rfl, bthen hB5.out hb6⟩
  subst e0
  have hfit : fitP M.pr f pc = 0 := he.out.symm
  have hff : fitF M.pr f = 0 := by
    apply Classical.byContradiction
    intro q
    rw [fitP, if_neg q] at hfit
    exact q hfit
  obtain ⟨F, hFi, hFm, eF⟩ := fn_get hff
  obtain ⟨hok, f0, f1⟩ := fitF_ok hff
  have hpp : 0 ≤ pc ∧ pc < F.code.length := by
    rw [fitP, if_pos hff, eF] at hfit
    apply Classical.byContradiction
    intro q
    rw [if_neg (show ¬ (0 ≤ pc ∧ pc < (F.fn.code.length : Int)) from q)] at hfit
    cases hfit
  have hfl : FlowF F.fn := flow_of hok F.fn (List.mem_map.mpr ⟨F, hFm, rfl⟩)
  obtain ⟨pn, hpn⟩ : ∃ pn : Nat, (pn : Int) = pc := ⟨pc.toNat, by omega⟩
  subst hpn
  have hpl : pn < F.code.length := by omega
  obtain ⟨R0, hR0⟩ := least_is F.fn alw (onePl pn)
  obtain ⟨N, hN⟩ : ∃ N, Hid (lst (bAll F.fn (onePl pn) F.code.length) 64 = N) := ⟨_, rfl⟩
  obtain ⟨Q, hQ⟩ : ∃ Q, Hid (lst R0 64 = Q) := ⟨_, rfl⟩
  have hV : ∀ V, Below w.heap.size w V → M.lies V ∧ prog.Forms V := fun V h => ⟨hMH.out.later h, hPH.out.later h⟩
  have xN : Calls Tryd.prog 8 #[M.val, .int .i64 f, .int .i64 (pn : Int)] (w.alloc (objP M)) fun e w' => ∃ va vc, e = .returned (.tuple #[.slice va N.length vc, .int .i64 0]) ∧ Hid (Rows w' 1 va vc (N.map chCells)) ∧ Below (w.alloc (objP M)).heap.size (w.alloc (objP M)) w' := by
    have h := fnext_ok M f pn _ (hV _ hb).1 (hV _ hb).2 F hFi hfl f0 hpl hfit
    rwa [hN.out] at h
  have cR : Hid (∀ V, Below w.heap.size w V → Calls Tryd.prog 9 #[M.val, .int .i64 f, .int .i64 (pn : Int)] V fun e w' => ∃ va vc, e = .returned (.tuple #[.slice va Q.length vc, .int .i64 0]) ∧ Hid (Rows w' 1 va vc (Q.map chCells)) ∧ Below V.heap.size V w') := fun V h => by
    refine (freach_ok M f pn V (hV V h).1 (hV V h).2 F hFi hfl f0 hpl hfit).mono ?_
    rintro e w' ⟨R, va, vc, rfl, h1, h2, h3⟩
    rw [h1.same hR0, hQ.out] at h2 ⊢
    exact ⟨va, vc, rfl, h2, h3⟩
  have cL : Hid (∀ V, Below w.heap.size w V → Calls Tryd.prog 10 #[M.val, .int .i64 f, .int .i64 (pn : Int)] V fun e w' => ∃ r, e = .returned (.tuple #[.int .i64 r, .int .i64 0]) ∧ Hid (LngR F.fn pn r) ∧ Below V.heap.size V w') := fun V h => flong_ok M f pn V (hV V h).1 (hV V h).2 F hFi hfl f0 hpl hfit
  have dN : Hid (∀ V, Below w.heap.size w V → Calls Tryd.prog 14 #[M.val, .int .i64 f, .int .i64 (pn : Int)] V fun e w' => ∃ va vc, e = .returned (.slice va N.length vc) ∧ Hid (Rows w' 1 va vc (N.map chCells)) ∧ Below V.heap.size V w') := fun V h => by
    refine (rnext_any M f pn V (hV V h).1 F hFi hfl f0 hpl).mono ?_
    rintro e w' ⟨va, vc, rfl, h2⟩
    have e2 := next_same hfl (show pn < F.fn.code.length from hpl)
    rw [show lst (bAll F.fn (onePl pn) F.fn.code.length) 64 = N from hN.out] at e2
    rw [e2] at h2 ⊢
    exact ⟨va, vc, rfl, h2.rows, h2.be⟩
  have dR : Hid (∀ V, Below w.heap.size w V → Calls Tryd.prog 15 #[M.val, .int .i64 f, .int .i64 (pn : Int)] V fun e w' => ∃ va vc, e = .returned (.slice va Q.length vc) ∧ Hid (Rows w' 1 va vc (Q.map chCells)) ∧ Below V.heap.size V w') := fun V h => by
    refine (rreach_any M f pn V (hV V h).1 F hFi hfl f0 hpl).mono ?_
    rintro e w' ⟨R, va, vc, rfl, h1, h2, h3, h4⟩
    have h64 := hfl.l64
    have e2 : lst R F.code.length = Q := by
      rw [← hQ.out, ← h1.same hR0]
      exact (lst_cut 64 (by exact h64) fun k k1 _ => h2 k k1).symm
    rw [e2] at h3 ⊢
    exact ⟨va, vc, rfl, h3, h4⟩
  have dL : Hid (∀ V, Below w.heap.size w V → Calls Tryd.prog 16 #[M.val, .int .i64 f, .int .i64 (pn : Int)] V fun e w' => ∃ r, e = .returned (.int .i64 r) ∧ Hid (LgD F.fn pn r) ∧ Below V.heap.size V w') := fun V h => rlong_any M f pn V (hV V h).1 F hFi hfl f0 hpl
  have hsame : Hid (∀ r r', LngR F.fn pn r → LgD F.fn pn r' → r = r') := fun r r' h h' => long_same hfl hpl h h'
  clear hM hF hb he hfit hff hFi hFm eF hok f0 f1 hpp hpl hR0 hN hQ hV hfl
  go_enter Tryd.func3, Tryd.ntmps3
  go_upto_region 9 with (first
      | (go_at_call 8; (refine xN.mono ?_); rintro e' w2 ⟨na, nc, rfl, hn2, hb2⟩; clear bP xN; (have p2 := box4 bPH hb2); (have hB2 : Hid (Below w.heap.size w w2) := bthen hbH.out hb2); (have xR := cR.out w2 hB2.out); obtain ⟨q0, q1, q2, q3⟩ := p2.out)
      | (go_at_call 9; (refine xR.mono ?_); rintro e' w3 ⟨qa, qc, rfl, hq3, hb3⟩; clear q0 q1 q2 q3 xR; (have p3 := box4 p2 hb3); (have hB3 : Hid (Below w.heap.size w w3) := bthen hB2.out hb3); (have hn3 : Hid (Rows w3 1 na nc (N.map chCells)) := hn2.out.later hb3); (have xL := cL.out w3 hB3.out); obtain ⟨q0, q1, q2, q3⟩ := p3.out)
      | (go_at_call 10; (refine xL.mono ?_); rintro e' w4 ⟨r, rfl, hr, hb4⟩; clear q0 q1 q2 q3 xL; (have p4 := box4 p3 hb4); (have hB4 : Hid (Below w.heap.size w w4) := bthen hB3.out hb4); (have hn4 : Hid (Rows w4 1 na nc (N.map chCells)) := hn3.out.later hb4); (have hq4 : Hid (Rows w4 1 qa qc (Q.map chCells)) := hq3.out.later hb4); (have xI := cI.out w4 hB4.out); obtain ⟨q0, q1, q2, q3⟩ := p4.out)
      | (go_at_call 11; (refine xI.mono ?_); rintro e' w5 ⟨rfl, hb5⟩; clear q0 q1 q2 q3 xI; (have p5 := box4 p4 hb5); (have hB5 : Hid (Below w.heap.size w w5) := bthen hB4.out hb5); (have hn5 : Hid (Rows w5 1 na nc (N.map chCells)) := hn4.out.later hb5); (have hq5 : Hid (Rows w5 1 qa qc (Q.map chCells)) := hq4.out.later hb5); (have xS := cS.out w5 hB5.out))
      | (go_at_call 12; (refine xS.mono ?_); rintro e' w6 ⟨rfl, hb6⟩; clear xS; (have p6 := box4 p5 hb6); (have hB6 : Hid (Below w.heap.size w w6) := bthen hB5.out hb6); (have hn6 : Hid (Rows w6 1 na nc (N.map chCells)) := hn5.out.later hb6); (have hq6 : Hid (Rows w6 1 qa qc (Q.map chCells)) := hq5.out.later hb6); clear p2 p3 p4 p5 hn2 hn3 hn4 hn5 hq3 hq4 hq5 hb2 hb3 hb4 hb5 hb6; (have xA := dN.out w6 hB6.out); obtain ⟨q0, q1, q2, q3⟩ := p6.out))
  go_wp2_with (first
      | (go_at_call 14; (refine xA.mono ?_); rintro e' w7 ⟨na2, nc2, rfl, hm7, hb7⟩; clear q0 q1 q2 q3 xA; (have p7 := box4 p6 hb7); (have hB7 : Hid (Below w.heap.size w w7) := bthen hB6.out hb7); (have hq7 : Hid (Rows w7 1 qa qc (Q.map chCells)) := hq6.out.later hb7); (have x1 := sameInts_f N na na2 nc nc2 w7 (hn6.out.later hb7) hm7.out))
      | (go_at_call 13; (with_reducible refine x1.mono ?_); rintro e' w8 ⟨rfl, hb8⟩; clear x1; (have p8 := box4 p7 hb8); (have hB8 : Hid (Below w.heap.size w w8) := bthen hB7.out hb8); (have hq8 : Hid (Rows w8 1 qa qc (Q.map chCells)) := hq7.out.later hb8); (have xB := dR.out w8 hB8.out); obtain ⟨q0, q1, q2, q3⟩ := p8.out)
      | (go_at_call 15; (refine xB.mono ?_); rintro e' w9 ⟨qa2, qc2, rfl, hm9, hb9⟩; clear q0 q1 q2 q3 xB; (have p9 := box4 p8 hb9); (have hB9 : Hid (Below w.heap.size w w9) := bthen hB8.out hb9); (have x2 := sameInts_f Q qa qa2 qc qc2 w9 (hq8.out.later hb9) hm9.out))
      | (go_at_call 13; (with_reducible refine x2.mono ?_); rintro e' w10 ⟨rfl, hb10⟩; clear x2; (have p10 := box4 p9 hb10); (have hB10 : Hid (Below w.heap.size w w10) := bthen hB9.out hb10); (have xC := dL.out w10 hB10.out); obtain ⟨q0, q1, q2, q3⟩ := p10.out)
      | (go_at_call 16; (refine xC.mono ?_); rintro e' w11 ⟨r2, rfl, hr2, hb11⟩; clear q0 q1 q2 q3 xC; (have hrr := hsame.out r r2 hr.out hr2.out); clear hr hr2; subst hrr))
  go_ret
  exact ⟨rfl, bthen hB10.out hb11⟩
end Go.Proofs.YtmgmiaonljcfcaaDoor.pg
