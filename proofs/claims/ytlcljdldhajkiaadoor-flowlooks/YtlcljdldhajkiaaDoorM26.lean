/- The document's Idle. -/
import Derived.Test.YtlcljdldhajkiaaDoorM25
import Derived.Test.YtlcljdldhajkiaaDoorM23
import Derived.BigQuiet
namespace Go.Proofs.YtlcljdldhajkiaaDoor.pg
open Go.ChangeShapes Go.WideShapes Go.ChangeAt Go.RowKit Go.Shelf
set_option linter.unusedVariables false
set_option linter.unusedSimpArgs false
set_option maxRecDepth 100000
theorem idl_congr {R T : Nat → Nat → Bool} {g : Nat} : ∀ n, (∀ k, k < n → R g k = T g k) → idl R g n = idl T g n
  | 0, _ => rfl
  | n + 1, h => by rw [idl, idl, idl_congr n fun k hk => h k (by omega), h n (by omega)]
theorem idA_congr {R T : Nat → Nat → Bool} {fns : List Fn} : ∀ m, (∀ g F, g < m → fns[g]? = some F → ∀ k, k < F.code.length → R g k = T g k) → idA R fns m = idA T fns m
  | 0, _ => rfl
  | m + 1, h => by
    rw [idA, idA, idA_congr m fun g F hg => h g F (by omega)]
    congr 1
    cases e : fns[m]? with
    | none => rfl
    | some F => exact idl_congr _ (h m F (by omega) e)
theorem idA_put {D : Nat → Nat → Bool} {fns : List Fn} {g : Nat} {F : Fn} (hF : fns[g]? = some F) (S : Nat → Bool) : idA (fun a => if a = g then S else D a) fns (g + 1) = idA D fns g ++ idl (fun _ => S) g F.code.length := by
  rw [idA, hF]
  congr 1
  · refine idA_congr g fun a F' ha _ k _ => ?_
    show (if a = g then S else D a) k = D a k
    rw [if_neg (by omega)]
  · refine idl_congr F.code.length fun k _ => ?_
    show (if g = g then S else D g) k = S k
    rw [if_pos rfl]
/-- What the document marks, function by function. -/
def IdD (fns : List Fn) (run : Nat → Bool) (D : Nat → Nat → Bool) (c : Nat) : Prop := ∀ g F, g < c → fns[g]? = some F → (run g = true → Least F alw (onePl 0) (D g)) ∧ (run g = false → ∀ k, D g k = false)
theorem IdD.put {fns : List Fn} {run : Nat → Bool} {D : Nat → Nat → Bool} {g : Nat} (h : IdD fns run D g) {F : Fn} (hF : fns[g]? = some F) {S : Nat → Bool} (h1 : run g = true → Least F alw (onePl 0) S) (h2 : run g = false → ∀ k, S k = false) : IdD fns run (fun a => if a = g then S else D a) (g + 1) := fun a F' ha hF' => by
  by_cases e : a = g
  · subst e
    rw [hF] at hF'
    have := Option.some.inj hF'
    subst this
    refine ⟨fun q => ?_, fun q k => ?_⟩
    · show Least F alw (onePl 0) (if a = a then S else D a)
      rw [if_pos rfl]
      exact h1 q
    · show (if a = a then S else D a) k = false
      rw [if_pos rfl]
      exact h2 q k
  · have := h a F' (by omega) hF'
    refine ⟨fun q => ?_, fun q k => ?_⟩
    · show Least F' alw (onePl 0) (if a = g then S else D a)
      rw [if_neg e]
      exact this.1 q
    · show (if a = g then S else D a) k = false
      rw [if_neg e]
      exact this.2 q k
/-- The package's marks and the document's. -/
theorem FnI.all {fns : List Fn} {run : Nat → Bool} (h : FnI fns run) (hc : FnC fns run fns.length) {R : Nat → Nat → Bool} (hR : LeastP fns 0 0 R) {g : Nat} {F : Fn} {T : Nat → Bool} (hF : fns[g]? = some F) (hT : Least F alw (onePl 0) T) (k : Nat) : R g k = (run g && T k) := by
  classical
  have hex : ∀ a : Nat, ∃ S : Nat → Bool, ∀ F : Fn, fns[a]? = some F → Least F alw (onePl 0) S := fun a => by
    cases e : fns[a]? with
    | none => exact ⟨fun _ => false, fun F h => by cases h⟩
    | some F =>
      obtain ⟨S, hS⟩ := least_ex F alw (onePl 0)
      exact ⟨S, fun F' h => by cases h; exact hS⟩
  obtain ⟨S, hS⟩ : ∃ S : Nat → Nat → Bool, ∀ (a : Nat) (F : Fn), fns[a]? = some F → Least F alw (onePl 0) (S a) := ⟨fun a => Classical.choose (hex a), fun a F q => Classical.choose_spec (hex a) F q⟩
  have hcl : ClosedP fns (fun a k => run a && S a k) := by
    refine ⟨fun a F hF pc hp hr hl x hx => ?_, fun a F hF pc hp hr ho => ?_⟩
    · simp only [Bool.and_eq_true] at hr ⊢
      exact ⟨hr.1, (hS a F hF).cl pc hp hr.2 hl x hx⟩
    · simp only [Bool.and_eq_true] at hr ⊢
      have hlt := (List.getElem?_eq_some_iff.mp hF).1
      have h1 := hc a F (S a) hlt hF hr.1 (hS a F hF) pc hp hr.2 ho
      obtain ⟨G, hG⟩ : ∃ G, fns[(insAt F.code pc).b.toNat]? = some G := ⟨_, List.getElem?_eq_getElem (h.tn _ h1)⟩
      exact ⟨h1, (hS _ G hG).up 0 (by simp [onePl])⟩
  have h0 : (fun a k => run a && S a k) 0 0 = true := by
    have hl := h.tn 0 h.z
    obtain ⟨G, hG⟩ : ∃ G, fns[0]? = some G := ⟨_, List.getElem?_eq_getElem hl⟩
    show (run 0 && S 0 0) = true
    rw [h.z, (hS 0 G hG).up 0 (by simp [onePl])]
    rfl
  have hsame := h.same hc hR g
  rw [Bool.eq_iff_iff]
  constructor
  · intro q
    have := hR.le _ h0 hcl g k q
    simp only [Bool.and_eq_true] at this ⊢
    exact ⟨this.1, by rw [← (hS g F hF).same hT]; exact this.2⟩
  · intro q
    simp only [Bool.and_eq_true] at q
    refine hT.le (R g) (fun j hj => ?_) (hR.cl.c g F hF) k q.2
    have : j = 0 := by simpa [onePl] using hj
    rw [this, ← hsame]
    exact q.1
theorem idA_one {fns : List Fn} {run : Nat → Bool} (h : FnI fns run) (hc : FnC fns run fns.length) {R D : Nat → Nat → Bool} (hR : LeastP fns 0 0 R) (hD : IdD fns run D fns.length) : idA D fns fns.length = idA R fns fns.length := idA_congr fns.length fun g F hg hF k _ => by
  obtain ⟨h1, h2⟩ := hD g F hg hF
  obtain ⟨T, hT⟩ := least_ex F alw (onePl 0)
  have e := h.all hc hR hF hT k
  rw [e]
  cases q : run g with
  | false => rw [h2 q k]; rfl
  | true => rw [(h1 q).same hT]; rfl
structure IdV (w W : World) (M : MPr) (n : Nat) (run : Nat → Bool) (L : List (Nat × Nat)) (va : Option Addr) (vc : Nat) : Prop where
  b : Below w.heap.size w W
  p : BoxP W w.heap.size M
  t : Bl W (w.heap.size + 1) (w.heap.size + 1) n n run
  o : OwnL W (w.heap.size + 2) 47 2 va vc (L.map spC)
theorem IdV.later {w W W' : World} {M : MPr} {n : Nat} {run : Nat → Bool} {L : List (Nat × Nat)} {va : Option Addr} {vc : Nat} (h : IdV w W M n run L va vc) (hb : Below W.heap.size W W') : IdV w W' M n run L va vc := ⟨bthen h.b hb, h.p.later hb, h.t.later hb, own_keep h.o (fun b q => hb.block b (blk_lt h.o b q).2)⟩
theorem IdV.grown {w W W' : World} {M : MPr} {n : Nat} {run : Nat → Bool} {L : List (Nat × Nat)} {x : Nat × Nat} {va va' : Option Addr} {vc vc' : Nat} (h : IdV w W M n run L va vc) (hg : Grown W (w.heap.size + 2) 47 2 va (L.map spC) (spC x) va' vc' W') : IdV w W' M n run (L ++ [x]) va' vc' := by
  have hs := h.t.lt
  have hb : Below (w.heap.size + 2) W W' := hg.be.mono (by omega)
  have hp := hb.block w.heap.size (by omega)
  exact ⟨h.b.trans (hb.mono (by omega)), ⟨cell_keepQ h.p.1 hp, cell_keepQ h.p.2.1 hp, cell_keepQ h.p.2.2.1 hp, cell_keepQ h.p.2.2.2 hp⟩, h.t.keep (hb.block _ (by omega)), by rw [List.map_append]; exact hg.ow⟩
/-- And the marks of one function. -/
structure IdM (w W : World) (M : MPr) (n : Nat) (run : Nat → Bool) (L : List (Nat × Nat)) (va : Option Addr) (vc : Nat) (B m cap : Nat) (S : Nat → Bool) : Prop where
  v : IdV w W M n run L va vc
  m : Bl W 0 B m cap S
  ne : B ∉ blk va
theorem IdM.later {w W W' : World} {M : MPr} {n : Nat} {run : Nat → Bool} {L : List (Nat × Nat)} {va : Option Addr} {vc B m cap : Nat} {S : Nat → Bool} (h : IdM w W M n run L va vc B m cap S) (hb : Below W.heap.size W W') : IdM w W' M n run L va vc B m cap S := ⟨h.v.later hb, h.m.later hb, h.ne⟩
theorem IdM.grown {w W W' : World} {M : MPr} {n : Nat} {run : Nat → Bool} {L : List (Nat × Nat)} {x : Nat × Nat} {va va' : Option Addr} {vc vc' B m cap : Nat} {S : Nat → Bool} (h : IdM w W M n run L va vc B m cap S) (hg : Grown W (w.heap.size + 2) 47 2 va (L.map spC) (spC x) va' vc' W') : IdM w W' M n run (L ++ [x]) va' vc' B m cap S := by
  have hl := h.m.lt
  exact ⟨h.v.grown hg, h.m.keep (hg.kp B hl h.ne), fun q => by rcases hg.bk B q with e | e; (exact h.ne e); omega⟩
theorem decT {X : List Int} {i : Nat} {k : Nat} (hx : X[i]? = some (k : Int)) : (fun b : Nat => if b = k then true else decide ((b : Int) ∈ X.take i)) = fun b : Nat => decide ((b : Int) ∈ X.take (i + 1)) := by
  funext b
  rw [Bool.eq_iff_iff, decide_eq_true_eq, take_oneQ X i _ hx, List.mem_append, List.mem_singleton]
  by_cases e : b = k
  · rw [if_pos e]
    simp [e]
  · rw [if_neg e, decide_eq_true_eq]
    constructor
    · exact .inl
    · rintro (q | q)
      · exact q
      · omega
set_option maxHeartbeats 8000000 in
theorem rIdle_any (M : MPr) (w : World) (hM : M.lies w) (hok : (chk insP M.pr).1 = 0) :
    Calls Tryd.prog 18 #[M.val] w fun e w' => ∃ run D va vc, e = .returned (.slice va (idA D M.pr.fns M.pr.fns.length).length vc) ∧ FnI M.pr.fns run ∧ FnC M.pr.fns run M.pr.fns.length ∧ IdD M.pr.fns run D M.pr.fns.length ∧ Rows w' 2 va vc ((idA D M.pr.fns M.pr.fns.length).map spC) ∧ Below w.heap.size w w' := by
  obtain ⟨iB, hiB', hzB', hsB', hbB'⟩ := info_q infoBl
  have hiB : Hid (Tryd.prog.info? 4 = some iB) := hiB'
  have hzB : Hid _ := hzB'
  have hsB : Hid _ := hsB'
  have hbB : Hid _ := hbB'
  obtain ⟨iS, hiS', hzS', hsS', hbS'⟩ := info_q infoSpo
  have hiS : Hid (Tryd.prog.info? 47 = some iS) := hiS'
  have hzS2 : Hid _ := hzS'
  have hsS : Hid _ := hsS'
  have hbS : Hid _ := hbS'
  clear hiB' hzB' hsB' hbB' hiS' hzS' hsS' hbS'
  have hMH : Hid (M.lies w) := hM
  have hn8 : M.fns.length ≤ 8 ∧ 1 ≤ M.fns.length := by (have := (sizes_ok (sizes_of hok)).2.2.2; have e : M.pr.fns.length = M.fns.length := List.length_map _; omega)
  have hnE : Hid (M.pr.fns.length = M.fns.length) := List.length_map _
  have hm : ∀ F ∈ M.fns, F.fn ∈ M.pr.fns := fun F h => List.mem_map.mpr ⟨F, h, rfl⟩
  have hfl : Hid (∀ F ∈ M.fns, FlowF F.fn) := fun F h => flow_of hok F.fn (hm F h)
  have hFnH : Hid (∀ (g : Nat) (F : MFn), M.fns[g]? = some F → M.pr.fns[g]? = some F.fn) := fun g F h => by (show (M.fns.map MFn.fn)[g]? = _; rw [List.getElem?_map, h]; rfl)
  have hAl : Hid (∀ D g, (idA D M.pr.fns g).length ≤ 64 * g) := fun D g => idA_len (fun F' h => by obtain ⟨F'', h2, rfl⟩ := List.mem_map.mp h; exact (hfl.out F'' h2).l64) g
  have cF : ∀ V, Below w.heap.size w V → Calls Tryd.prog 20 #[M.val] V _ := fun V hV => rFuncs_any M V (hMH.out.later hV) hok
  have bP := boxP_new w M
  have hbH : Hid (Below w.heap.size w (w.alloc (objP M)) ∧ BoxP (w.alloc (objP M)) w.heap.size M) := ⟨boxed w (objP M), bP⟩
  clear hM hok hm
  go_enter Tryd.func18, Tryd.ntmps18
  obtain ⟨p0, p1, p2, p3⟩ := bP
  go_upto_region 3 with (refine wpList_mk _ rfl _ _ 79 rfl 4 iB _ Tryd.underlying79 hiB.out hzB.out rfl hsB.out M.fns.length rfl rfl (by rw [hbB.out]; omega) (by omega) ?_; intro w2 hn2 hb2 hs2)
  rw [World.size_alloc] at hn2 hs2
  have hBl : Hid (Bl w2 (w.heap.size + 1) (w.heap.size + 1) M.fns.length M.fns.length fun _ => false) := bl_new hn2 (by omega) (by omega)
  have h2 : Hid (Below w.heap.size w w2 ∧ BoxP w2 w.heap.size M) := ⟨bthen hbH.out.1 hb2, hbH.out.2.later hb2⟩
  try simp only [World.size_alloc]
  have xF := cF w2 h2.out.1
  clear hn2 hb2 p0 p1 p2 p3 cF
  obtain ⟨p0, p1, p2, p3⟩ := h2.out.2
  go_upto_region 4 with (go_at_call 20; (with_reducible refine xF.mono ?_); rintro e w3 ⟨run0, pa, pc, rfl, hI, hC, hR, hb3, hnb⟩)
  have hIH : Hid (FnI M.pr.fns run0 ∧ FnC M.pr.fns run0 M.pr.fns.length) := ⟨hI, hC⟩
  obtain ⟨X, hX⟩ : ∃ X, Hid (lst run0 M.fns.length = X) := ⟨_, rfl⟩
  have hXl : X.length ≤ 8 := by (rw [← hX.out]; have := lst_len run0 M.fns.length; omega)
  rw [hX.out] at hR
  simp only [hX.out]
  have h3 : Hid (FuW w w3 M M.fns.length (fun b : Nat => decide ((b : Int) ∈ X.take 0)) ∧ Rows w3 1 pa pc (X.map chCells)) := ⟨⟨bthen h2.out.1 hb3, h2.out.2.later hb3, (hBl.out.later hb3).congr fun j _ => by simp⟩, hR⟩
  have hpn : Hid (∀ b ∈ blk pa, b ≠ w.heap.size + 1) := fun b hb => by (have h1 := hnb b hb; omega)
  have hrn : Hid (∀ b : Nat, (decide ((b : Int) ∈ X)) = run0 b) := fun b => by
    rw [Bool.eq_iff_iff, decide_eq_true_eq, ← hX.out, lst_mem]
    constructor
    · rintro ⟨k, _, h2, h3⟩
      have : b = k := by omega
      rw [this]; exact h2
    · intro q
      exact ⟨b, by rw [← hnE.out]; exact hI.tn b q, q, rfl⟩
  clear hR hI hC hb3 hnb xF p0 p1 p2 p3 hBl h2 hs2
  go_wp2_with fail
  go_loopw [6] (fun u wr => ∃ i : Nat, i ≤ X.length ∧ u = .int .i64 (i : Int) ∧ Hid (FuW w wr M M.fns.length (fun b : Nat => decide ((b : Int) ∈ X.take i)) ∧ Rows wr 1 pa pc (X.map chCells))) (fun u _ => X.length - (intOf u).toNat)
  case atStart => exact ⟨0, Nat.zero_le _, rfl, h3.out⟩
  case round =>
    clear h3
    obtain ⟨i, hi, rfl, hs⟩ := hrel
    by_cases hil : i < X.length
    · have hiI : (i : Int) < X.length := by omega
      obtain ⟨x, hx, hxm⟩ := get_lt X i hil
      obtain ⟨k, hkl, hSk, rfl⟩ := (lst_mem run0 x M.fns.length).mp (hX.out.symm ▸ hxm)
      obtain ⟨lb, lo, hix, hlb, lcel⟩ := ch_ix hs.out.2 i (k : Int) hx
      have xJ := ix_bl (w.heap.size + 1) M.fns.length M.fns.length k hkl
      have cB : wr.cell? ⟨w.heap.size + 1, k, none⟩ = some (.bool (decide ((k : Int) ∈ X.take i))) := (hs.out.1.t.cell hkl).1
      have fB : wr.frozen? ⟨w.heap.size + 1, k, none⟩ = false := (hs.out.1.t.cell hkl).2
      have nx : Hid (∀ W', W' = wr.setCell ⟨w.heap.size + 1, k, none⟩ (.bool true) → FuW w W' M M.fns.length (fun b : Nat => decide ((b : Int) ∈ X.take (i + 1))) ∧ Rows W' 1 pa pc (X.map chCells)) := fun W' e => by
        rw [e, ← decT hx]
        exact ⟨hs.out.1.set hkl, rows_keepF hs.out.2 ((Below.refl 0 wr).setCell (p := ⟨w.heap.size + 1, k, none⟩) (Nat.zero_le _) _).size fun b q => heap_setCell_other wr ⟨w.heap.size + 1, k, none⟩ b _ (hpn.out b q)⟩
      clear hs hx hxm hlb hSk
      generalize decide ((k : Int) ∈ X.take i) = old at *
      go_wp2_with (first
        | ((with_reducible refine at_storeQ 4 _ _ rfl ?_); refine stopQ_out ?_; refine wpList_putb rfl 4 _ _ rfl ⟨w.heap.size + 1, k, none⟩ rfl true rfl (by kernel_rfl) _ cB fB ?_; intro W1 hW1; (have hn : Hid _ := nx.out W1 hW1); clear hW1 cB fB))
      go_roundw
      case rel => exact ⟨i + 1, by omega, by go_num, hn.out⟩
      case measure => simp [intOf]; omega
    · have hie : i = X.length := by omega
      have hiI : ¬ (i : Int) < X.length := by omega
      have hV : Hid (IdV w wr M M.fns.length run0 (idA (fun _ _ => false) M.pr.fns 0) none 0 ∧ IdD M.pr.fns run0 (fun _ _ => false) 0) := ⟨⟨hs.out.1.b, hs.out.1.p, hs.out.1.t.congr fun j _ => by rw [hie, List.take_length]; exact hrn.out j, own_nil_q _ _ _ _⟩, fun g F hg => absurd hg (Nat.not_lt_zero _)⟩
      clear hs hie hrn hpn hX hXl hi
      have c3 := hV.out.1.p.2.2.2
      go_wp2_with fail
      clear c3
      go_loopw [3, 7] (fun o u wr => ∃ (D : Nat → Nat → Bool) (g : Nat) (va : Option Addr) (vc : Nat), g ≤ M.fns.length ∧ u = .int .i64 (g : Int) ∧ o = .slice va (idA D M.pr.fns g).length vc ∧ Hid (IdV w wr M M.fns.length run0 (idA D M.pr.fns g) va vc ∧ IdD M.pr.fns run0 D g)) (fun _ u _ => M.fns.length - (intOf u).toNat)
      case atStart => exact ⟨_, 0, none, 0, Nat.zero_le _, rfl, rfl, hV.out⟩
      case round =>
        clear hV
        obtain ⟨D, g, va, vc, hg, rfl, rfl, hs⟩ := hrel
        have c3 := hs.out.1.p.2.2.2
        by_cases hlt : g < M.fns.length
        · have hgI : (g : Int) < M.fns.length := by omega
          obtain ⟨F, hFi⟩ : ∃ F, M.fns[g]? = some F := ⟨_, List.getElem?_eq_getElem hlt⟩
          have hFm := List.mem_of_getElem? hFi
          have hflF : Hid (FlowF F.fn) := hfl.out F hFm
          have hFn : Hid (M.fns[g]? = some F ∧ M.pr.fns[g]? = some F.fn) := ⟨hFi, hFnH.out g F hFi⟩
          have hl64 : F.code.length ≤ 64 := hflF.out.l64
          have hl1 : 0 < F.code.length := hflF.out.l1
          obtain ⟨fb, fo, hfix, hfb, f0, f1, f2, f3⟩ := fn_ix (hMH.out.later hs.out.1.b).2.2.1 g F hFi
          have hLl : (idA D M.pr.fns g).length ≤ 512 := by have := hAl.out D g; omega
          have hDg : Hid (IdD M.pr.fns run0 D g) := hs.out.2
          obtain ⟨L, hL⟩ : ∃ L, Hid (idA D M.pr.fns g = L) := ⟨_, rfl⟩
          rw [hL.out] at hLl
          have hs1 : Hid (IdV w wr M M.fns.length run0 L va vc) := by have := hs.out.1; rw [hL.out] at this; exact this
          simp only [hL.out]
          clear hs f0 f1 f3 hfb hFm hFi
          go_upto_region 12 with (refine wpList_mk _ rfl _ _ 79 rfl 4 iB _ Tryd.underlying79 hiB.out hzB.out rfl hsB.out F.code.length rfl rfl (by rw [hbB.out]; omega) (by omega) ?_; intro w5 hn5 hb5 hs5)
          have hm5 : Hid (IdM w w5 M M.fns.length run0 L va vc wr.heap.size F.code.length F.code.length fun _ => false) := ⟨hs1.out.later hb5, bl_new hn5 (by omega) (by omega), fun q => by have := (blk_lt hs1.out.o _ q).2; omega⟩
          clear hn5 hb5 hs5 hfix f2 c3 hs1
          generalize wr.heap.size = B0 at *
          have xT := ix_bl (w.heap.size + 1) M.fns.length M.fns.length g hlt
          have cT : w5.cell? ⟨w.heap.size + 1, g, none⟩ = some (.bool (run0 g)) := (hm5.out.v.t.cell hlt).1
          obtain ⟨rb, hrb⟩ : ∃ rb, run0 g = rb := ⟨_, rfl⟩
          rw [hrb] at cT
          have hrbH : Hid (run0 g = rb) := hrb
          clear hrb
          cases rb with
          | false =>
            have hM6 : Hid (IdM w w5 M M.fns.length run0 L va vc B0 F.code.length F.code.length (fun _ => false)) := hm5.out
            have hD6 : Hid (IdD M.pr.fns run0 (fun a => if a = g then (fun _ => false) else D a) (g + 1)) := hDg.out.put hFn.out.2 (fun q => by rw [hrbH.out] at q; cases q) (fun _ _ => rfl)
            clear hm5 hDg
            generalize (fun _ : Nat => false) = S6 at *
            generalize w5 = W6 at *
            go_upto_region 14 with fail
            go_wp2_with fail
            have hnx : Hid (idA (fun a => if a = g then S6 else D a) M.pr.fns (g + 1) = L ++ idl (fun _ => S6) g F.code.length) := by (show _ = _; rw [idA_put hFn.out.2, hL.out]; rfl)
            go_loopw [3, 9] (fun o u wr => ∃ (c : Nat) (va : Option Addr) (vc : Nat), c ≤ F.code.length ∧ u = .int .i64 (c : Int) ∧ o = .slice va (L ++ idl (fun _ => S6) g c).length vc ∧ Hid (IdM w wr M M.fns.length run0 (L ++ idl (fun _ => S6) g c) va vc B0 F.code.length F.code.length S6)) (fun _ u _ => F.code.length - (intOf u).toNat)
            case atStart => exact ⟨0, va, vc, Nat.zero_le _, rfl, by rw [idl, List.append_nil], by rw [idl, List.append_nil]; exact hM6.out⟩
            case round =>
              clear hM6
              obtain ⟨c, va, vc, hc, rfl, rfl, hJ⟩ := hrel
              by_cases hcl : c < F.code.length
              · have hcI : (c : Int) < F.code.length := by omega
                have xM := ix_bl B0 F.code.length F.code.length c hcl
                have cM : wr.cell? ⟨B0, c, none⟩ = some (.bool (S6 c)) := (hJ.out.m.cell hcl).1
                have hLl : Hid ((L ++ idl (fun _ => S6) g c).length ≤ 2000) := by (show _ ≤ _; rw [List.length_append]; have := idl_len (fun _ => S6) g c; omega)
                have hmo : Hid (L ++ idl (fun _ => S6) g (c + 1) = (L ++ idl (fun _ => S6) g c) ++ (if S6 c = true then [] else [(g, c)])) := by (show _ = _; rw [idl, List.append_assoc])
                obtain ⟨b, hb⟩ : ∃ b, S6 c = b := ⟨_, rfl⟩
                rw [hb] at cM
                generalize L ++ idl (fun _ => S6) g c = L2 at *
                cases b with
                | true =>
                  have hN : Hid (L ++ idl (fun _ => S6) g (c + 1) = L2) := by (show _ = _; rw [hmo.out, if_pos hb, List.append_nil])
                  clear hmo hb
                  go_wp2
                  go_roundw
                  case rel => exact ⟨c + 1, va, vc, by omega, by go_num, by rw [hN.out], by rw [hN.out]; exact hJ⟩
                  case measure => simp [intOf]; omega
                | false =>
                  have hN : Hid (L ++ idl (fun _ => S6) g (c + 1) = L2 ++ [(g, c)]) := by (show _ = _; rw [hmo.out, if_neg (by rw [hb]; exact Bool.false_ne_true)])
                  clear hmo hb
                  go_wp2_with (first
                    | (at_builtin; (refine wpList_app1 rfl (.tmp 64) (.tmp 68) 39 rfl (w.heap.size + 2) 47 iS _ 2 16 Tryd.underlying39 hiS.out hzS2.out hsS.out hbS.out rfl (by decide) va vc (L2.map spC) (by rw [List.length_map]; rfl) hJ.out.v.o (spC (g, c)) rfl rfl (by simp [spC, Value.oneCell']) (by rw [List.length_map]; have := hLl.out; unfold maxLen; omega) (by rw [List.length_map]; have := hLl.out; omega) (by have := hJ.out.v.t.lt; omega) ?_); intro va' vc' w2 hg2; rw [List.length_map]; (have hg3 : Hid (IdM w w2 M M.fns.length run0 (L2 ++ [(g, c)]) va' vc' B0 F.code.length F.code.length S6) := hJ.out.grown hg2); clear hg2))
                  go_roundw
                  case rel => exact ⟨c + 1, va', vc', by omega, by go_num, by rw [hN.out, List.length_append]; rfl, by rw [hN.out]; exact hg3⟩
                  case measure => simp [intOf]; omega
              · have hce : c = F.code.length := by omega
                have hcI : ¬ (c : Int) < F.code.length := by omega
                have hE : Hid (L ++ idl (fun _ => S6) g c = idA (fun a => if a = g then S6 else D a) M.pr.fns (g + 1)) := (by (rw [hnx.out, hce]; exact rfl))
                rw [hE.out] at hJ
                simp only [hE.out]
                go_wp2
                go_roundw
                case rel => exact ⟨_, g + 1, va, vc, by omega, by go_num, rfl, hJ.out.v, hD6.out⟩
                case measure => simp [intOf]; omega
          | true =>
            obtain ⟨p0, p1, p2, p3⟩ := hm5.out.v.p
            go_upto_region 13 with fail
            generalize w5 = V at *
            have hH : Below V.heap.size V V.drew := bey_drew V
            have hrP : ∀ w', Below V.heap.size V w' → w'.rangeAt w.heap.size 0 [.slice M.va M.vars.length M.vcap, .int .i64 M.locks, .slice M.cha M.chans.length M.chcap, .slice M.fa M.fns.length M.fcap] := fun w' h' j v hj => by
              match j, hj with
              | 0, hj => cases hj; exact cell_later h' p0
              | 1, hj => cases hj; exact cell_later h' p1
              | 2, hj => cases hj; exact cell_later h' p2
              | 3, hj => cases hj; exact cell_later h' p3
            refine wp_region_held_drew (S := fun w' => Below V.heap.size V w') (by kernel_rfl) hH (fun _ => ?_)
            refine reg_load (i := 0) rfl (by kernel_rfl) (by kernel_rfl) (by kernel_rfl) (fun _ _ _ _ h => h) rfl 26 _ rfl w.heap.size 0 rfl [.slice M.va M.vars.length M.vcap, .int .i64 M.locks, .slice M.cha M.chans.length M.chcap, .slice M.fa M.fns.length M.fcap] _ hrP Tryd.underlying26 rfl (by kernel_rfl) hH ?_
            simp only [Act.put, List.getElem_toArray, List.getElem_cons_succ, List.getElem_cons_zero, List.setIfInBounds_toArray, List.set_cons_zero, List.set_cons_succ]
            refine reg_move (i := 1) rfl (by kernel_rfl) (by kernel_rfl) (by kernel_rfl) (fun _ _ _ _ h => h) rfl (.int .i64 (g : Int)) (fun _ => by kernel_rfl) hH ?_
            simp only [Act.put, List.getElem_toArray, List.getElem_cons_succ, List.getElem_cons_zero, List.setIfInBounds_toArray, List.set_cons_zero, List.set_cons_succ]
            refine reg_load (i := 2) rfl (by kernel_rfl) (by kernel_rfl) (by kernel_rfl) (fun _ _ _ _ h => h) rfl 26 _ rfl w.heap.size 0 rfl [.slice M.va M.vars.length M.vcap, .int .i64 M.locks, .slice M.cha M.chans.length M.chcap, .slice M.fa M.fns.length M.fcap] _ hrP Tryd.underlying26 rfl (by kernel_rfl) hH ?_
            simp only [Act.put, List.getElem_toArray, List.getElem_cons_succ, List.getElem_cons_zero, List.setIfInBounds_toArray, List.set_cons_zero, List.set_cons_succ]
            refine reg_move (i := 3) rfl (by kernel_rfl) (by kernel_rfl) (by kernel_rfl) (fun _ _ _ _ h => h) rfl (.int .i64 (g : Int)) (fun _ => by kernel_rfl) hH ?_
            simp only [Act.put, List.getElem_toArray, List.getElem_cons_succ, List.getElem_cons_zero, List.setIfInBounds_toArray, List.set_cons_zero, List.set_cons_succ]
            have hMV : Hid (∀ V', Below V.heap.size V V' → M.lies V') := fun V' h => hMH.out.later (bthen hm5.out.v.b h)
            have hFg : M.fns[(g : Int).toNat]? = some F := by rw [Int.toNat_natCast]; exact hFn.out.1
            refine reg_call3F (i := 4) (by kernel_rfl) rfl rfl 40 _ _ _ _ _ _ rfl M.val (.int .i64 (g : Int)) (.int .i64 0) rfl rfl rfl (cf_fn Tryd.func40 (by kernel_rfl) (by kernel_rfl) _ _) _ (rfrom_any M g 0 _ (hMV.out _ hH) F hFg hflF.out (by omega) hl1) ?_
            rintro e3 w3 ⟨B3, rfl, hBl3, hb3⟩
            have hH3 : Below V.heap.size V w3 := bthen hH hb3
            refine ⟨_, rfl, hH3, fun _ => ?_⟩
            simp only [Act.put, List.getElem_toArray, List.getElem_cons_succ, List.getElem_cons_zero, List.setIfInBounds_toArray, List.set_cons_zero, List.set_cons_succ]
            refine reg_call4F (i := 5) (by kernel_rfl) rfl rfl 39 _ _ _ _ _ _ _ _ rfl M.val (.int .i64 (g : Int)) (.slice (some ⟨B3, 0, none⟩) F.code.length F.code.length) (.bool false) rfl rfl rfl rfl (cf_fn Tryd.func39 (by kernel_rfl) (by kernel_rfl) _ _) _ (rmarked_any M g w3 (hMV.out _ hH3) F hFg hflF.out (by omega) false (onePl 0) (onePl_out hl1) _ B3 F.code.length hBl3) ?_
            rintro e4 W6 ⟨B6, cap6, S6, rfl, hBl4, hR, hRo, hb4⟩
            have hH4 : Below V.heap.size V W6 := bthen hH3 hb4
            refine ⟨_, rfl, hH4, fun _ => ?_⟩
            simp only [Act.put, List.getElem_toArray, List.getElem_cons_succ, List.getElem_cons_zero, List.setIfInBounds_toArray, List.set_cons_zero, List.set_cons_succ]
            refine reg_move (i := 6) rfl (by kernel_rfl) (by kernel_rfl) (by kernel_rfl) (fun _ _ _ _ h => h) rfl (.slice (some ⟨B6, 0, none⟩) F.code.length cap6) (fun _ => rfl) hH4 ?_
            simp only [Act.put, List.getElem_toArray, List.getElem_cons_succ, List.getElem_cons_zero, List.setIfInBounds_toArray, List.set_cons_zero, List.set_cons_succ]
            refine wpAnyH_done (by kernel_rfl) ?_ _
            have hal : LL false = alw := by funext op; simp [LL, alw]
            rw [hal] at hR
            have hD6 : Hid (IdD M.pr.fns run0 (fun a => if a = g then S6 else D a) (g + 1)) := hDg.out.put hFn.out.2 (fun _ => hR) (fun q => by rw [hrbH.out] at q; cases q)
            have hM6 : Hid (IdM w W6 M M.fns.length run0 L va vc B6 F.code.length cap6 S6) := ⟨hm5.out.v.later hH4, hBl4.mono (Nat.zero_le _), fun q => by have h1 := (blk_lt hm5.out.v.o _ q).2; have h2 := hBl4.lo; have h3 := hH3.size; omega⟩
            clear hR hRo hal hBl4 hBl3 hMV hrP p0 p1 p2 p3 hm5 hH hH3 hH4 hb3 hb4 xT cT hDg hFg
            go_wp2_with fail
            have hnx : Hid (idA (fun a => if a = g then S6 else D a) M.pr.fns (g + 1) = L ++ idl (fun _ => S6) g F.code.length) := by (show _ = _; rw [idA_put hFn.out.2, hL.out]; rfl)
            go_loopw [3, 9] (fun o u wr => ∃ (c : Nat) (va : Option Addr) (vc : Nat), c ≤ F.code.length ∧ u = .int .i64 (c : Int) ∧ o = .slice va (L ++ idl (fun _ => S6) g c).length vc ∧ Hid (IdM w wr M M.fns.length run0 (L ++ idl (fun _ => S6) g c) va vc B6 F.code.length cap6 S6)) (fun _ u _ => F.code.length - (intOf u).toNat)
            case atStart => exact ⟨0, va, vc, Nat.zero_le _, rfl, by rw [idl, List.append_nil], by rw [idl, List.append_nil]; exact hM6.out⟩
            case round =>
              clear hM6
              obtain ⟨c, va, vc, hc, rfl, rfl, hJ⟩ := hrel
              by_cases hcl : c < F.code.length
              · have hcI : (c : Int) < F.code.length := by omega
                have xM := ix_bl B6 F.code.length cap6 c hcl
                have cM : wr.cell? ⟨B6, c, none⟩ = some (.bool (S6 c)) := (hJ.out.m.cell hcl).1
                have hLl : Hid ((L ++ idl (fun _ => S6) g c).length ≤ 2000) := by (show _ ≤ _; rw [List.length_append]; have := idl_len (fun _ => S6) g c; omega)
                have hmo : Hid (L ++ idl (fun _ => S6) g (c + 1) = (L ++ idl (fun _ => S6) g c) ++ (if S6 c = true then [] else [(g, c)])) := by (show _ = _; rw [idl, List.append_assoc])
                obtain ⟨b, hb⟩ : ∃ b, S6 c = b := ⟨_, rfl⟩
                rw [hb] at cM
                generalize L ++ idl (fun _ => S6) g c = L2 at *
                cases b with
                | true =>
                  have hN : Hid (L ++ idl (fun _ => S6) g (c + 1) = L2) := by (show _ = _; rw [hmo.out, if_pos hb, List.append_nil])
                  clear hmo hb
                  go_wp2
                  go_roundw
                  case rel => exact ⟨c + 1, va, vc, by omega, by go_num, by rw [hN.out], by rw [hN.out]; exact hJ⟩
                  case measure => simp [intOf]; omega
                | false =>
                  have hN : Hid (L ++ idl (fun _ => S6) g (c + 1) = L2 ++ [(g, c)]) := by (show _ = _; rw [hmo.out, if_neg (by rw [hb]; exact Bool.false_ne_true)])
                  clear hmo hb
                  go_wp2_with (first
                    | (at_builtin; (refine wpList_app1 rfl (.tmp 64) (.tmp 68) 39 rfl (w.heap.size + 2) 47 iS _ 2 16 Tryd.underlying39 hiS.out hzS2.out hsS.out hbS.out rfl (by decide) va vc (L2.map spC) (by rw [List.length_map]; rfl) hJ.out.v.o (spC (g, c)) rfl rfl (by simp [spC, Value.oneCell']) (by rw [List.length_map]; have := hLl.out; unfold maxLen; omega) (by rw [List.length_map]; have := hLl.out; omega) (by have := hJ.out.v.t.lt; omega) ?_); intro va' vc' w2 hg2; rw [List.length_map]; (have hg3 : Hid (IdM w w2 M M.fns.length run0 (L2 ++ [(g, c)]) va' vc' B6 F.code.length cap6 S6) := hJ.out.grown hg2); clear hg2))
                  go_roundw
                  case rel => exact ⟨c + 1, va', vc', by omega, by go_num, by rw [hN.out, List.length_append]; rfl, by rw [hN.out]; exact hg3⟩
                  case measure => simp [intOf]; omega
              · have hce : c = F.code.length := by omega
                have hcI : ¬ (c : Int) < F.code.length := by omega
                have hE : Hid (L ++ idl (fun _ => S6) g c = idA (fun a => if a = g then S6 else D a) M.pr.fns (g + 1)) := (by (rw [hnx.out, hce]; exact rfl))
                rw [hE.out] at hJ
                simp only [hE.out]
                go_wp2
                go_roundw
                case rel => exact ⟨_, g + 1, va, vc, by omega, by go_num, rfl, hJ.out.v, hD6.out⟩
                case measure => simp [intOf]; omega
        · have hge : g = M.fns.length := by omega
          have hgI : ¬ (g : Int) < M.fns.length := by omega
          have hO : Hid (IdV w wr M M.fns.length run0 (idA D M.pr.fns M.pr.fns.length) va vc ∧ IdD M.pr.fns run0 D M.pr.fns.length) := by have := hs.out; rw [hge, ← hnE.out] at this; rw [← hnE.out]; exact this
          clear hs
          simp only [hge, ← hnE.out]
          rw [← hnE.out] at c3
          go_wp2
          go_ret
          exact ⟨run0, D, va, vc, rfl, hIH.out.1, hIH.out.2, hO.out.2, own_rows hO.out.1.o (sp_len _), hO.out.1.b⟩
end Go.Proofs.YtlcljdldhajkiaaDoor.pg
/- Both sides of FlowLooks, together. -/
namespace Go.Proofs.YtlcljdldhajkiaaDoor.pg
open Go.ChangeShapes Go.WideShapes Go.ChangeAt Go.RowKit Go.Shelf
set_option linter.unusedVariables false
set_option linter.unusedSimpArgs false
set_option maxRecDepth 100000
theorem fitP_first (M : MPr) (f : Int) : fitP M.pr f 0 = fitF M.pr f := by
  by_cases h : fitF M.pr f = 0
  · obtain ⟨F, hFi, hFm, eF⟩ := fn_get h
    have h1 := (flow_of (fitF_ok h).1 F.fn (List.mem_map.mpr ⟨F, hFm, rfl⟩)).l1
    rw [fitP, if_pos h, eF, if_pos ⟨by omega, by omega⟩, h]
  · rw [fitP, if_neg h]
theorem fitF_first (M : MPr) (hok : (chk insP M.pr).1 = 0) : fitF M.pr 0 = 0 := by
  have h1 := (sizes_ok (sizes_of hok)).2.2.2
  rw [fitF, if_pos hok, if_pos ⟨by omega, by omega⟩]
theorem fitF_bad (M : MPr) (f : Int) (hok : ¬ (chk insP M.pr).1 = 0) : fitF M.pr f = 3 := by rw [fitF, if_neg hok]
/-- What Spins answers. -/
def SpX (M : MPr) (f : Int) (X : List Int) : Prop := fitF M.pr f ≠ 0 ∧ X = [] ∨ fitF M.pr f = 0 ∧ ∃ F s, M.fns[f.toNat]? = some F ∧ X = lst s 64 ∧ (∀ k, k < F.code.length → RingP F.fn k (s k)) ∧ ∀ k, F.code.length ≤ k → s k = false
/-- And Heads. -/
def HdX (M : MPr) (f : Int) (X : List Int) : Prop := fitF M.pr f ≠ 0 ∧ X = [] ∨ fitF M.pr f = 0 ∧ ∃ F s, M.fns[f.toNat]? = some F ∧ X = lst s 64 ∧ HdK F.fn F.code.length s
def FuX (M : MPr) (X : List Int) : Prop := ∃ R, LeastP M.pr.fns 0 0 R ∧ X = lst (fun g => R g 0) 8
def IdX (M : MPr) (X : List (Nat × Nat)) : Prop := ∃ R, LeastP M.pr.fns 0 0 R ∧ X = idA R M.pr.fns M.pr.fns.length
theorem fspins_all (M : MPr) (f : Int) (w : World) (hM : M.lies w) (hPF : prog.Forms w) (e : Int) (he : Hid (e = fitF M.pr f)) :
    Calls Tryd.prog 13 #[M.val, .int .i64 f] w fun e' w' => ∃ X va vc, e' = .returned (.tuple #[.slice va X.length vc, .int .i64 e]) ∧ SpX M f X ∧ Rows w' 1 va vc (X.map chCells) ∧ Below w.heap.size w w' := by
  by_cases h : e = 0
  · subst h
    have h0 : fitF M.pr f = 0 := he.out.symm
    obtain ⟨F, hFi, hFm, eF⟩ := fn_get h0
    obtain ⟨hok, f0, _⟩ := fitF_ok h0
    refine (fspins_ok M f w hM hPF F hFi (flow_of hok F.fn (List.mem_map.mpr ⟨F, hFm, rfl⟩)) f0 h0).mono ?_
    rintro e' w' ⟨s, va, vc, rfl, h1, h2, h3, h4⟩
    exact ⟨_, va, vc, rfl, .inr ⟨h0, F, s, hFi, rfl, h1, h2⟩, h3, h4⟩
  · refine (fspins_err M f w hM hPF e he h).mono ?_
    rintro e' w' ⟨rfl, hb⟩
    exact ⟨[], none, 0, rfl, .inl ⟨by rw [← he.out]; exact h, rfl⟩, rows_none _, hb⟩
theorem fheads_all (M : MPr) (f : Int) (w : World) (hM : M.lies w) (hPF : prog.Forms w) (e : Int) (he : Hid (e = fitF M.pr f)) :
    Calls Tryd.prog 14 #[M.val, .int .i64 f] w fun e' w' => ∃ X va vc, e' = .returned (.tuple #[.slice va X.length vc, .int .i64 e]) ∧ HdX M f X ∧ Rows w' 1 va vc (X.map chCells) ∧ Below w.heap.size w w' := by
  by_cases h : e = 0
  · subst h
    have h0 : fitF M.pr f = 0 := he.out.symm
    obtain ⟨F, hFi, hFm, eF⟩ := fn_get h0
    obtain ⟨hok, f0, _⟩ := fitF_ok h0
    refine (fheads_ok M f w hM hPF F hFi (flow_of hok F.fn (List.mem_map.mpr ⟨F, hFm, rfl⟩)) f0 h0).mono ?_
    rintro e' w' ⟨s, va, vc, rfl, h1, h3, h4⟩
    exact ⟨_, va, vc, rfl, .inr ⟨h0, F, s, hFi, rfl, h1⟩, h3, h4⟩
  · refine (fheads_err M f w hM hPF e he h).mono ?_
    rintro e' w' ⟨rfl, hb⟩
    exact ⟨[], none, 0, rfl, .inl ⟨by rw [← he.out]; exact h, rfl⟩, rows_none _, hb⟩
theorem ffuncs_all (M : MPr) (w : World) (hM : M.lies w) (hPF : prog.Forms w) (hok : (chk insP M.pr).1 = 0) :
    Calls Tryd.prog 15 #[M.val] w fun e' w' => ∃ X va vc, e' = .returned (.tuple #[.slice va X.length vc, .int .i64 0]) ∧ FuX M X ∧ Rows w' 1 va vc (X.map chCells) ∧ Below w.heap.size w w' := by
  refine (ffuncs_ok M w hM hPF (fitF_first M hok)).mono ?_
  rintro e' w' ⟨R, va, vc, rfl, hR, hL⟩
  exact ⟨_, va, vc, rfl, ⟨R, hR, rfl⟩, hL.rows, hL.be⟩
theorem fidle_all (M : MPr) (w : World) (hM : M.lies w) (hPF : prog.Forms w) (hok : (chk insP M.pr).1 = 0) :
    Calls Tryd.prog 16 #[M.val] w fun e' w' => ∃ X va vc, e' = .returned (.tuple #[.slice va X.length vc, .int .i64 0]) ∧ IdX M X ∧ Rows w' 2 va vc (X.map spC) ∧ Below w.heap.size w w' := by
  refine (fidle_ok M w hM hPF (fitF_first M hok)).mono ?_
  rintro e' w' ⟨R, va, vc, rfl, hR, hL, hb⟩
  exact ⟨_, va, vc, rfl, ⟨R, hR, rfl⟩, own_rows hL (sp_len _), hb⟩
theorem rspins_all (M : MPr) (f : Int) (w : World) (hM : M.lies w) (X : List Int) (hX : SpX M f X) (h0 : fitF M.pr f = 0) :
    Calls Tryd.prog 21 #[M.val, .int .i64 f] w fun e' w' => ∃ va vc, e' = .returned (.slice va X.length vc) ∧ Rows w' 1 va vc (X.map chCells) ∧ Below w.heap.size w w' := by
  rcases hX with ⟨h, _⟩ | ⟨_, F, s, hFi, hX, h1, h2⟩
  · exact absurd h0 h
  obtain ⟨hok, f0, _⟩ := fitF_ok h0
  have hFm := List.mem_of_getElem? hFi
  have hfl := flow_of hok F.fn (List.mem_map.mpr ⟨F, hFm, rfl⟩)
  refine (rSpins_any M f w hM F hFi hfl f0 s (fun k hk => ringP_D hk (h1 k hk))).mono ?_
  rintro e' w' ⟨t, va, vc, rfl, h3, h4, h5⟩
  have hl64 : F.code.length ≤ 64 := hfl.l64
  have e : lst t F.code.length = X := by
    rw [hX, lst_cut 64 hl64 fun k q _ => h2 k q]
    exact lst_congr _ fun k hk => ringD_same (h3 k hk) (ringP_D hk (h1 k hk))
  rw [e] at h4
  exact ⟨va, vc, by rw [e], h4, h5⟩
theorem rheads_all (M : MPr) (f : Int) (w : World) (hM : M.lies w) (X : List Int) (hX : HdX M f X) (h0 : fitF M.pr f = 0) :
    Calls Tryd.prog 22 #[M.val, .int .i64 f] w fun e' w' => ∃ va vc, e' = .returned (.slice va X.length vc) ∧ Rows w' 1 va vc (X.map chCells) ∧ Below w.heap.size w w' := by
  rcases hX with ⟨h, _⟩ | ⟨_, F, s, hFi, hX, h1⟩
  · exact absurd h0 h
  obtain ⟨hok, f0, _⟩ := fitF_ok h0
  have hFm := List.mem_of_getElem? hFi
  have hfl := flow_of hok F.fn (List.mem_map.mpr ⟨F, hFm, rfl⟩)
  refine (rHeads_any M f w hM F hFi hfl f0).mono ?_
  rintro e' w' ⟨L, va, vc, rfl, h3, h4, h5, h6⟩
  have e : L = X := hX ▸ ris_ext h3 (lst_ris s 64) fun x => by
    rw [h4, lst_mem]
    constructor
    · intro q
      have hb := hdM_bd hfl (Nat.le_refl _) q
      refine ⟨x.toNat, by omega, (h1 x.toNat (by omega)).mpr ?_, by omega⟩
      rw [show ((x.toNat : Nat) : Int) = x by omega]
      exact q
    · rintro ⟨k, hk, hs, rfl⟩
      exact (h1 k hk).mp hs
  rw [e] at h5
  exact ⟨va, vc, by rw [e], h5, h6⟩
theorem rfuncs_all (M : MPr) (w : World) (hM : M.lies w) (hok : (chk insP M.pr).1 = 0) (X : List Int) (hX : FuX M X) :
    Calls Tryd.prog 20 #[M.val] w fun e' w' => ∃ va vc, e' = .returned (.slice va X.length vc) ∧ Rows w' 1 va vc (X.map chCells) ∧ Below w.heap.size w w' := by
  obtain ⟨R, hR, rfl⟩ := hX
  refine (rFuncs_any M w hM hok).mono ?_
  rintro e' w' ⟨run, va, vc, rfl, hI, hC, h1, h2, _⟩
  have hn : M.pr.fns.length = M.fns.length := List.length_map _
  have h8 := (sizes_ok (sizes_of hok)).2.2.2
  have e : lst run M.fns.length = lst (fun g => R g 0) 8 := by
    rw [lst_cut (m := M.fns.length) 8 (by omega) fun k q _ => ?_]
    · exact lst_congr _ fun k _ => hI.same hC hR k
    · rw [← hI.same hC hR k]
      cases q2 : run k with
      | false => rfl
      | true => have := hI.tn k q2; omega
  rw [e] at h1
  exact ⟨va, vc, by rw [e], h1, h2⟩
theorem ridle_all (M : MPr) (w : World) (hM : M.lies w) (hok : (chk insP M.pr).1 = 0) (X : List (Nat × Nat)) (hX : IdX M X) :
    Calls Tryd.prog 18 #[M.val] w fun e' w' => ∃ va vc, e' = .returned (.slice va X.length vc) ∧ Rows w' 2 va vc (X.map spC) ∧ Below w.heap.size w w' := by
  obtain ⟨R, hR, rfl⟩ := hX
  refine (rIdle_any M w hM hok).mono ?_
  rintro e' w' ⟨run, D, va, vc, rfl, hI, hC, hD, h1, h2⟩
  rw [idA_one hI hC hR hD] at h1
  exact ⟨va, vc, by rw [idA_one hI hC hR hD], h1, h2⟩
end Go.Proofs.YtlcljdldhajkiaaDoor.pg
/- FlowLooks, walked. -/
namespace Go.Proofs.YtlcljdldhajkiaaDoor.pg
open Go.ChangeShapes Go.WideShapes Go.ChangeAt Go.RowKit Go.Shelf
set_option linter.unusedVariables false
set_option linter.unusedSimpArgs false
set_option maxRecDepth 100000
attribute [local go_sem ↓] Go.wp_at_zero Go.wp_at_succ
theorem sp_none (w : World) : Rows w 2 none 0 (([] : List (Nat × Nat)).map spC) := own_rows (own_nil_q w 0 47 2) (sp_len [])
structure LkS (w W : World) (M : MPr) (X Y Z : List Int) (I : List (Nat × Nat)) (xa ya za ia : Option Addr) (xc yc zc ic : Nat) : Prop where
  b : Below w.heap.size w W
  p : BoxP W w.heap.size M
  x : Rows W 1 xa xc (X.map chCells)
  y : Rows W 1 ya yc (Y.map chCells)
  z : Rows W 1 za zc (Z.map chCells)
  i : Rows W 2 ia ic (I.map spC)
theorem LkS.later {w W W' : World} {M : MPr} {X Y Z : List Int} {I : List (Nat × Nat)} {xa ya za ia : Option Addr} {xc yc zc ic : Nat} (h : LkS w W M X Y Z I xa ya za ia xc yc zc ic) (hb : Below W.heap.size W W') : LkS w W' M X Y Z I xa ya za ia xc yc zc ic := ⟨bthen h.b hb, h.p.later hb, h.x.later hb, h.y.later hb, h.z.later hb, h.i.later hb⟩
set_option maxHeartbeats 8000000 in
theorem flowLooks_any (M : MPr) (f : Int) (w : World) (hM : M.lies w) (hF : prog.Forms w) : Calls Tryd.prog 4 #[M.val, .int .i64 f] w fun e w' => e = .returned (.bool true) ∧ Below w.heap.size w w' := by
  have hb := boxed w (objP M)
  have bP := boxP_new w M
  have bPH : Hid (BoxP (w.alloc (objP M)) w.heap.size M) := bP
  have hbH : Hid (Below w.heap.size w (w.alloc (objP M))) := hb
  have hMH : Hid (M.lies w) := hM
  have hPH : Hid (prog.Forms w) := hF
  have cS : ∀ V, Below w.heap.size w V → Calls Tryd.prog 9 #[] V fun e' w' => e' = .returned (.bool true) ∧ Below V.heap.size V w' := fun V hV => speaksF_any V (hPH.out.later hV)
  have hri : Hid _ := right_iff M.pr
  by_cases hok : (chk insP M.pr).1 = 0
  rotate_left
  · have e3 : Hid ((3 : Int) = fitF M.pr f) := (fitF_bad M f hok).symm
    have e30 : Hid ((3 : Int) = fitF M.pr 0) := (fitF_bad M 0 hok).symm
    have e3P : Hid ((3 : Int) = fitP M.pr f 0) := by (show _ = _; rw [fitP_first]; exact e3.out)
    have c1 : ∀ V, Below w.heap.size w V → Calls Tryd.prog 13 #[M.val, .int .i64 f] V _ := fun V hV => fspins_err M f V (hMH.out.later hV) (hPH.out.later hV) 3 e3 (by decide)
    have c2 : ∀ V, Below w.heap.size w V → Calls Tryd.prog 14 #[M.val, .int .i64 f] V _ := fun V hV => fheads_err M f V (hMH.out.later hV) (hPH.out.later hV) 3 e3 (by decide)
    have c3 : ∀ V, Below w.heap.size w V → Calls Tryd.prog 15 #[M.val] V _ := fun V hV => ffuncs_err M V (hMH.out.later hV) (hPH.out.later hV) 3 e30 (by decide)
    have c4 : ∀ V, Below w.heap.size w V → Calls Tryd.prog 16 #[M.val] V _ := fun V hV => fidle_err M V (hMH.out.later hV) (hPH.out.later hV) 3 e30 (by decide)
    have c5 : ∀ V, Below w.heap.size w V → Calls Tryd.prog 8 #[M.val, .int .i64 f, .int .i64 0] V fun e' w' => e' = .returned (.int .i64 3) ∧ Below V.heap.size V w' := fun V hV => rfit_any M f 0 V (hMH.out.later hV) 3 e3P
    have c6 : ∀ V, Below w.heap.size w V → Calls Tryd.prog 17 #[M.val] V fun e' w' => e' = .returned (.bool false) ∧ Below V.heap.size V w' := fun V hV => rright_any M V (hMH.out.later hV) false (decide_eq_false fun q => hok (hri.out.mpr q))
    clear hM hF hb hok e3 e30 e3P
    have x1 := c1 _ hbH.out
    go_enter Tryd.func4, Tryd.ntmps4
    go_wp2_with (first
      | (go_at_call 13; (with_reducible refine x1.mono ?_); rintro e' w2 ⟨rfl, hb2⟩; (have h2 : Hid (Below w.heap.size w w2 ∧ BoxP w2 w.heap.size M) := ⟨bthen hbH.out hb2, bPH.out.later hb2⟩); clear hb2 x1 bP; (have bP := h2.out.2); obtain ⟨p0, p1, p2, p3⟩ := bP; (have x2 := c2 w2 h2.out.1))
      | (go_at_call 14; (with_reducible refine x2.mono ?_); rintro e' w3 ⟨rfl, hb3⟩; (have h3 : Hid (Below w.heap.size w w3 ∧ BoxP w3 w.heap.size M) := ⟨bthen h2.out.1 hb3, h2.out.2.later hb3⟩); clear hb3 x2 p0 p1 p2 p3; (have bP := h3.out.2); obtain ⟨p0, p1, p2, p3⟩ := bP; (have x3 := c3 w3 h3.out.1))
      | (go_at_call 15; (with_reducible refine x3.mono ?_); rintro e' w4 ⟨rfl, hb4⟩; (have h4 : Hid (Below w.heap.size w w4 ∧ BoxP w4 w.heap.size M) := ⟨bthen h3.out.1 hb4, h3.out.2.later hb4⟩); clear hb4 x3 p0 p1 p2 p3; (have bP := h4.out.2); obtain ⟨p0, p1, p2, p3⟩ := bP; (have x4 := c4 w4 h4.out.1))
      | (go_at_call 16; (with_reducible refine x4.mono ?_); rintro e' w5 ⟨rfl, hb5⟩; (have h5 : Hid (Below w.heap.size w w5 ∧ BoxP w5 w.heap.size M) := ⟨bthen h4.out.1 hb5, h4.out.2.later hb5⟩); clear hb5 x4 p0 p1 p2 p3; (have bP := h5.out.2); obtain ⟨p0, p1, p2, p3⟩ := bP; (have x5 := c5 w5 h5.out.1))
      | (go_at_call 8; (with_reducible refine x5.mono ?_); rintro e' w6 ⟨rfl, hb6⟩; (have h6 : Hid (Below w.heap.size w w6 ∧ BoxP w6 w.heap.size M) := ⟨bthen h5.out.1 hb6, h5.out.2.later hb6⟩); clear hb6 x5 p0 p1 p2 p3; (have bP := h6.out.2); obtain ⟨p0, p1, p2, p3⟩ := bP; (have x6 := cS w6 h6.out.1))
      | (go_at_call 9; (with_reducible refine x6.mono ?_); rintro e' w7 ⟨rfl, hb7⟩; (have h7 : Hid (Below w.heap.size w w7 ∧ BoxP w7 w.heap.size M) := ⟨bthen h6.out.1 hb7, h6.out.2.later hb7⟩); clear hb7 x6 p0 p1 p2 p3; (have bP := h7.out.2); obtain ⟨p0, p1, p2, p3⟩ := bP; (have x7 := c6 w7 h7.out.1))
      | (go_at_call 17; (with_reducible refine x7.mono ?_); rintro e' w8 ⟨rfl, hb8⟩; (have h8 : Hid (Below w.heap.size w w8 ∧ BoxP w8 w.heap.size M) := ⟨bthen h7.out.1 hb8, h7.out.2.later hb8⟩); clear hb8 x7 p0 p1 p2 p3; (have bP := h8.out.2); obtain ⟨p0, p1, p2, p3⟩ := bP))
    go_ret
    exact ⟨rfl, h8.out.1⟩
  obtain ⟨e, he⟩ : ∃ e, Hid (e = fitF M.pr f) := ⟨_, rfl⟩
  have heP : Hid (e = fitP M.pr f 0) := by (show _ = _; rw [fitP_first]; exact he.out)
  have c1 : ∀ V, Below w.heap.size w V → Calls Tryd.prog 13 #[M.val, .int .i64 f] V _ := fun V hV => fspins_all M f V (hMH.out.later hV) (hPH.out.later hV) e he
  have c2 : ∀ V, Below w.heap.size w V → Calls Tryd.prog 14 #[M.val, .int .i64 f] V _ := fun V hV => fheads_all M f V (hMH.out.later hV) (hPH.out.later hV) e he
  have c3 : ∀ V, Below w.heap.size w V → Calls Tryd.prog 15 #[M.val] V _ := fun V hV => ffuncs_all M V (hMH.out.later hV) (hPH.out.later hV) hok
  have c4 : ∀ V, Below w.heap.size w V → Calls Tryd.prog 16 #[M.val] V _ := fun V hV => fidle_all M V (hMH.out.later hV) (hPH.out.later hV) hok
  have c5 : ∀ V, Below w.heap.size w V → Calls Tryd.prog 8 #[M.val, .int .i64 f, .int .i64 0] V fun e' w' => e' = .returned (.int .i64 e) ∧ Below V.heap.size V w' := fun V hV => rfit_any M f 0 V (hMH.out.later hV) e heP
  have c6 : ∀ V, Below w.heap.size w V → Calls Tryd.prog 17 #[M.val] V fun e' w' => e' = .returned (.bool true) ∧ Below V.heap.size V w' := fun V hV => rright_any M V (hMH.out.later hV) true (decide_eq_true (hri.out.mp hok))
  have hokH : Hid ((chk insP M.pr).1 = 0) := hok
  have d2 : (e != e) = false := by simp
  clear hM hF hb hok heP
  have x1 := c1 _ hbH.out
  go_enter Tryd.func4, Tryd.ntmps4
  go_upto_region 2 with (go_at_call 13; (with_reducible refine x1.mono ?_); rintro e' w2 ⟨X, xa, xc, rfl, hX, hXr, hb2⟩)
  have hXH : Hid (SpX M f X) := hX
  have h2 : Hid (LkS w w2 M X [] [] [] xa none none none xc 0 0 0) := ⟨bthen hbH.out hb2, bPH.out.later hb2, hXr, rows_none _, rows_none _, sp_none _⟩
  clear hX hXr hb2 x1 c1 bP bPH hbH
  obtain ⟨p0, p1, p2, p3⟩ := h2.out.p
  have x2 := c2 w2 h2.out.b
  go_upto_region 3 with (go_at_call 14; (with_reducible refine x2.mono ?_); rintro e' w3 ⟨Y, ya, yc, rfl, hY, hYr, hb3⟩)
  have hYH : Hid (HdX M f Y) := hY
  have h3 : Hid (LkS w w3 M X Y [] [] xa ya none none xc yc 0 0) := ⟨bthen h2.out.b hb3, h2.out.p.later hb3, h2.out.x.later hb3, hYr, rows_none _, sp_none _⟩
  clear hY hYr hb3 x2 c2 h2 p0 p1 p2 p3
  obtain ⟨p0, p1, p2, p3⟩ := h3.out.p
  have x3 := c3 w3 h3.out.b
  go_upto_region 4 with (go_at_call 15; (with_reducible refine x3.mono ?_); rintro e' w4 ⟨Z, za, zc, rfl, hZ, hZr, hb4⟩)
  have hZH : Hid (FuX M Z) := hZ
  have h4 : Hid (LkS w w4 M X Y Z [] xa ya za none xc yc zc 0) := ⟨bthen h3.out.b hb4, h3.out.p.later hb4, h3.out.x.later hb4, h3.out.y.later hb4, hZr, sp_none _⟩
  clear hZ hZr hb4 x3 c3 h3 p0 p1 p2 p3
  obtain ⟨p0, p1, p2, p3⟩ := h4.out.p
  have x4 := c4 w4 h4.out.b
  go_upto_region 5 with (go_at_call 16; (with_reducible refine x4.mono ?_); rintro e' w5 ⟨I, ia, ic, rfl, hI, hIr, hb5⟩)
  have hIH : Hid (IdX M I) := hI
  have h5 : Hid (LkS w w5 M X Y Z I xa ya za ia xc yc zc ic) := ⟨bthen h4.out.b hb5, h4.out.p.later hb5, h4.out.x.later hb5, h4.out.y.later hb5, h4.out.z.later hb5, hIr⟩
  clear hI hIr hb5 x4 c4 h4 p0 p1 p2 p3
  obtain ⟨p0, p1, p2, p3⟩ := h5.out.p
  have x5 := c5 w5 h5.out.b
  go_upto_region 6 with (go_at_call 8; (with_reducible refine x5.mono ?_); rintro e' w6 ⟨rfl, hb6⟩)
  have h6 : Hid (LkS w w6 M X Y Z I xa ya za ia xc yc zc ic) := h5.out.later hb6
  clear hb6 x5 c5 h5 p0 p1 p2 p3
  have x6 := cS w6 h6.out.b
  go_upto_region 8 with (go_at_call 9; (with_reducible refine x6.mono ?_); rintro e' w7 ⟨rfl, hb7⟩; (have h7 : Hid (LkS w w7 M X Y Z I xa ya za ia xc yc zc ic) := h6.out.later hb7); clear hb7 x6 cS h6)
  obtain ⟨p0, p1, p2, p3⟩ := h7.out.p
  have x7 := c6 w7 h7.out.b
  go_upto_region 10 with (go_at_call 17; (with_reducible refine x7.mono ?_); rintro e' w8 ⟨rfl, hb8⟩; (have h8 : Hid (LkS w w8 M X Y Z I xa ya za ia xc yc zc ic) := h7.out.later hb8); clear hb8 x7 c6 h7 p0 p1 p2 p3)
  obtain ⟨p0, p1, p2, p3⟩ := h8.out.p
  have x8 := ridle_all M w8 (hMH.out.later h8.out.b) hokH.out I hIH.out
  go_upto_region 11 with (go_at_call 18; (with_reducible refine x8.mono ?_); rintro e' w9 ⟨wa, wc, rfl, hW, hb9⟩)
  have h9 : Hid (LkS w w9 M X Y Z I xa ya za ia xc yc zc ic ∧ Rows w9 2 wa wc (I.map spC)) := ⟨h8.out.later hb9, hW⟩
  clear hW hb9 x8 h8 p0 p1 p2 p3
  obtain ⟨p0, p1, p2, p3⟩ := h9.out.1.p
  have dI : ((I.length : Int) != (I.length : Int)) = false := by simp
  have x9 := rfuncs_all M w9 (hMH.out.later h9.out.1.b) hokH.out Z hZH.out
  go_upto_region 13 with (first
    | (go_at_call 20; (with_reducible refine x9.mono ?_); rintro e' wA ⟨na, nc, rfl, hN, hbA⟩; (have hA : Hid (LkS w wA M X Y Z I xa ya za ia xc yc zc ic ∧ Rows wA 2 wa wc (I.map spC)) := ⟨h9.out.1.later hbA, h9.out.2.later hbA⟩); clear hbA x9 h9 p0 p1 p2 p3; (have xA := sameInts_f Z za na zc nc wA hA.out.1.z hN))
    | (go_at_call 19; (with_reducible refine xA.mono ?_); rintro e' wB ⟨rfl, hbB⟩; (have hB : Hid (LkS w wB M X Y Z I xa ya za ia xc yc zc ic ∧ Rows wB 2 wa wc (I.map spC)) := ⟨hA.out.1.later hbB, hA.out.2.later hbB⟩); clear hbB xA hA hN))
  go_wp2_with fail
  go_loopw [15] (fun u wr => ∃ k : Nat, k ≤ I.length ∧ u = .int .i64 k ∧ Hid (LkS w wr M X Y Z I xa ya za ia xc yc zc ic ∧ Rows wr 2 wa wc (I.map spC))) (fun u _ => I.length - (intOf u).toNat)
  case atStart => exact ⟨0, Nat.zero_le _, rfl, hB.out⟩
  case round =>
    clear hB
    obtain ⟨k, hk, rfl, hs⟩ := hrel
    have hlI : (I.length : Int) ≤ 9223372036854775807 := rows_len hs.out.2
    by_cases hlt : k < I.length
    · obtain ⟨y, hy, hym⟩ := get_lt I k hlt
      obtain ⟨b1, o1, hix1, hbl1, k0, k1⟩ := spot_ix hs.out.1.i k y hy
      obtain ⟨b2, o2, hix2, hbl2, m0, m1⟩ := spot_ix hs.out.2 k y hy
      have hkI : (k : Int) < I.length := by omega
      have heq : ∀ wx, (binOp .neq 47 (.agg #[.int .i64 (y.1 : Int), .int .i64 (y.2 : Int)]) (.agg #[.int .i64 (y.1 : Int), .int .i64 (y.2 : Int)])).run Tryd.prog wx = .ok (.bool false) wx := fun wx => run_neSp y wx
      have hn : Hid (∀ n, LkS w (wr.drewN n) M X Y Z I xa ya za ia xc yc zc ic ∧ Rows (wr.drewN n) 2 wa wc (I.map spC)) := fun n => ⟨hs.out.1.later (below_drewN (Below.refl _ _) n), hs.out.2.later (below_drewN (Below.refl _ _) n)⟩
      clear hs hy hym hbl1 hbl2
      go_wp2_with fail
      go_quiet (fail)
      go_wp2
      go_roundw
      case rel => exact ⟨k + 1, by omega, by go_num, hn.out _⟩
      case measure => simp [intOf]; omega
    · have hk2 : k = I.length := by omega
      subst hk2
      have h0 : Hid (LkS w wr M X Y Z I xa ya za ia xc yc zc ic) := hs.out.1
      clear hs
      by_cases e0 : e = 0
      rotate_left
      · have d : (e != 0) = true := by simpa using e0
        have hx0 : X = [] := by
          rcases hXH.out with ⟨_, h⟩ | ⟨h, _⟩
          · exact h
          · exact absurd (he.out.trans h) e0
        have hy0 : Y = [] := by
          rcases hYH.out with ⟨_, h⟩ | ⟨h, _⟩
          · exact h
          · exact absurd (he.out.trans h) e0
        have hE : Hid (Below w.heap.size w wr) := h0.out.b
        clear h0 e0
        subst hx0 hy0
        go_wp2
        go_ret
        exact ⟨rfl, hE.out⟩
      · subst e0
        obtain ⟨p0, p1, p2, p3⟩ := h0.out.p
        have x10 := rspins_all M f wr (hMH.out.later h0.out.b) X hXH.out he.out.symm
        have c11 : ∀ V, Below w.heap.size w V → Calls Tryd.prog 22 #[M.val, .int .i64 f] V _ := fun V hV => rheads_all M f V (hMH.out.later hV) Y hYH.out he.out.symm
        clear d2
        go_wp2_with (first
          | (go_at_call 21; (with_reducible refine x10.mono ?_); rintro e' wC ⟨sa, sc, rfl, hS, hbC⟩; clear p0 p1 p2 p3 x10; (have hC : Hid (LkS w wC M X Y Z I xa ya za ia xc yc zc ic) := h0.out.later hbC); (have xB := sameInts_f X xa sa xc sc wC hC.out.x hS); clear hS hbC h0)
          | (go_at_call 19; (with_reducible refine xB.mono ?_); rintro e' wD ⟨rfl, hbD⟩; clear xB; (have hD : Hid (LkS w wD M X Y Z I xa ya za ia xc yc zc ic) := hC.out.later hbD); (have bP := hD.out.p); obtain ⟨p0, p1, p2, p3⟩ := bP; (have xC := c11 wD hD.out.b); clear hbD hC)
          | (go_at_call 22; (with_reducible refine xC.mono ?_); rintro e' wE ⟨ta, tc, rfl, hT, hbE⟩; clear p0 p1 p2 p3 xC; (have hE : Hid (LkS w wE M X Y Z I xa ya za ia xc yc zc ic) := hD.out.later hbE); (have xD := sameInts_f Y ya ta yc tc wE hE.out.y hT); clear hT hbE hD)
          | (go_at_call 19; (with_reducible refine xD.mono ?_); rintro e' wG ⟨rfl, hbG⟩; clear xD; (have hG : Hid (Below w.heap.size w wG) := bthen hE.out.b hbG); clear hbG hE))
        go_ret
        exact ⟨rfl, hG.out⟩
end Go.Proofs.YtlcljdldhajkiaaDoor.pg
