/- One number added at a cut of a map; the entries of a map, one by one. -/
import Derived.Test.YtkadlopcomjonaaM20
import Derived.Lib.MinMax
namespace Go.Proofs.Ytkadlopcomjonaa.pg
open Go.ChangeShapes Go.WideShapes Go.ChangeAt Go.RowKit Go.Shelf
open Go.Maps (Keyed IsMap)
open Go.WideMaps (KeyLaw)
open Go.ChangeMaps Go.MapKept
set_option linter.unusedVariables false
set_option linter.unusedSimpArgs false
set_option maxRecDepth 100000
theorem lawL : KeyLaw Try.prog 86 := deep_law_laid (by kernel_rfl) (m := 3) (by omega) (of_decide_eq_true (by kernel_rfl)) (by kernel_rfl) (by rw [Try.underlying86])
theorem setBlock_at {w : World} {b : Nat} {o o' : Obj} (h : w.heap[b]? = some o) : (setBlock w b o').heap[b]? = some o' := by
  have hl := (Array.getElem?_eq_some_iff.mp h).1
  simp [setBlock, hl]
theorem setBlock_ne {w : World} {b c : Nat} {o : Obj} (h : c ≠ b) : (setBlock w b o).heap[c]? = w.heap[c]? := by
  simp [setBlock, Array.getElem?_setIfInBounds_ne (Ne.symm h)]
theorem setBlock_size (w : World) (b : Nat) (o : Obj) : (setBlock w b o).heap.size = w.heap.size := by simp [setBlock]
theorem setBlock_below {w : World} {n b : Nat} (o : Obj) (h : n ≤ b) : Below n w (setBlock w b o) := ⟨rfl, rfl, rfl, by rw [setBlock_size]; exact Nat.le_refl _, fun k hk => setBlock_ne (by omega)⟩
/-- What an entry is, and what a store into it leaves. -/
theorem MapC.entry {w : World} {b n : Nat} {E : List (Ck × Nat)} {D : DataW Unit} (h : MapC w b n E D) (hn : n < maxLen) (c : Ck) {l : Lit} (hl : keyOf Try.prog 86 c.val = some l) (x : Nat) (hxI : I64 (x : Int))
    (hx : (∃ e ∈ E, e.1 = c ∧ x = e.2) ∨ (c ∉ E.map Prod.fst ∧ x = 0)) :
    ∃ (v0 : Value) (st : Nat) (es1 : Array MapEntry) (clock1 : Nat), (Instr.mapEntry 99 (.map (some b)) c.val).run Try.prog w = .ok (.tuple #[v0, goInt st]) (setBlock w b (.map es1 clock1)) ∧
      (∀ w2 : World, w2.heap[b]? = some (.map es1 clock1) → (Instr.lookup 99 (.map (some b)) c.val false).run Try.prog w2 = .ok (.int .i64 (x : Int)) w2) ∧
      (∀ w2 : World, w2.heap[b]? = w.heap[b]? → (Instr.lookup 99 (.map (some b)) c.val false).run Try.prog w2 = .ok (.int .i64 (x : Int)) w2) ∧
      ∀ (w2 : World) (v : Int), I64 v → w2.heap[b]? = some (.map es1 clock1) → ∃ es' clock', (Instr.entryStore 99 (.map (some b)) (goInt st) (.int .i64 v)).run Try.prog w2 = .ok () (setBlock w2 b (.map es' clock')) ∧
        ∀ w3 : World, w3.heap[b]? = some (.map es' clock') → w3.ownsMap Try.prog 86 (plainElem Try.prog 3) b (n + 1) (D.put l (.lit (.int .i64 v))) := by
  obtain ⟨es, clock, hb, F, hsz, hD⟩ := id h.o
  have hzz : ∀ u : World, (zeroValue 3).run Try.prog u = .ok (.int .i64 0) u := zero0K
  obtain ⟨v0, st, es1, clock1, hrun, hv0, hst⟩ := Go.WideElems.entry_then_store lawL Try.underlying99 hzz hb F hl
  have hat : D.atKey l (.lit (.int .i64 0)) = .lit (.int .i64 (x : Int)) := by
    rcases hx with ⟨e, hm, e1, e2⟩ | ⟨hno, rfl⟩
    · subst e1 e2
      exact h.at_ e hm l hl _
    · exact h.no c l hl hno _
  have hlook : ∀ {w2 : World} {n2 : Nat} {D2 : DataW Unit}, w2.ownsMap Try.prog 86 (plainElem Try.prog 3) b n2 D2 → D2.atKey l (.lit (.int .i64 0)) = .lit (.int .i64 (x : Int)) → (Instr.lookup 99 (.map (some b)) c.val false).run Try.prog w2 = .ok (.int .i64 (x : Int)) w2 := fun {w2 n2 D2} ho ha => by
    obtain ⟨c2, hc2, hat2, _⟩ := ho.lookup_int lawC Try.underlying99 Try.underlying3 (zero0K w2) hl
    rw [ha] at hat2
    simp only [DataW.lit.injEq, Lit.int.injEq, true_and] at hat2
    rw [hc2, hat2]
  refine ⟨v0, st, es1, clock1, hrun, fun w2 hw2 => ?_, fun w2 hw2 => ?_, fun w2 v hv hw2 => ?_⟩
  · rcases lawL.find w hl es.toList F.keys with ⟨h1, h2⟩ | ⟨j, e0, h1, h2, h3⟩
    · have hr2 : (Instr.mapEntry 99 (.map (some b)) c.val).run Try.prog w = .ok (.tuple #[.int .i64 0, goInt clock]) (setBlock w b (.map (es.push ⟨c.val, .int .i64 0, clock⟩) (clock + 1))) := by
        simp [Instr.mapEntry, run_underlying Try.underlying99, MapKept.run_getObj_map hb, lawL.check w false hl, h1, hzz, MapKept.run_setObj_map _ hb, Result.andThen, setBlock]
      have hu2 : (Instr.mapUpdate 99 (.map (some b)) c.val (.int .i64 0)).run Try.prog w = .ok () (setBlock w b (.map (es.push ⟨c.val, .int .i64 0, clock⟩) (clock + 1))) := by
        simp [Instr.mapUpdate, run_underlying Try.underlying99, MapKept.run_getObj_map hb, lawL.check w false hl, h1, MapKept.run_setObj_map _ hb, Result.andThen, setBlock]
      obtain ⟨w', hr, ho, _⟩ := h.o.update lawC Try.underlying99 hn hl (plainElem_int Try.underlying3 (wf_ofK (z := 0) ⟨by decide, by decide⟩))
      rw [hu2] at hr
      simp only [Result.ok.injEq, true_and] at hr
      rw [hr2] at hrun
      simp only [Result.ok.injEq] at hrun
      have hW := hrun.2
      have hbl : (setBlock w b (.map es1 clock1)).heap[b]? = w'.heap[b]? := by rw [← hW, hr]
      rw [setBlock_at hb] at hbl
      have ho2 : w2.ownsMap Try.prog 86 (plainElem Try.prog 3) b (n + 1) (D.put l (.lit (.int .i64 0))) := by
        obtain ⟨es3, c3, q1, q2⟩ := ho
        exact ⟨es3, c3, by rw [hw2, hbl]; exact q1, q2⟩
      refine hlook ho2 ?_
      rw [Go.Maps.atKey_put_same h.m (lawC.key hl)]
      have hx0 : x = 0 := by
        have h5 := WideElems.atKey_none lawL F hl h2 (.lit (.int .i64 0))
        rw [← hD, hat] at h5
        simpa using h5
      rw [hx0]
      rfl
    · have hj : es[j]? = some e0 := by simpa using h2
      have hsame : es.modify j (fun e => { e with key := c.val }) = es := by
        apply Array.ext'
        rw [Array.toList_modify, modify_eq_set _ _ _ _ h2]
        have : ({ e0 with key := c.val } : MapEntry) = e0 := by rw [← h3]
        rw [this]
        exact Go.WideElems.set_self _ _ _ h2
      have hr2 : (Instr.mapEntry 99 (.map (some b)) c.val).run Try.prog w = .ok (.tuple #[e0.val, goInt e0.born]) (setBlock w b (.map es clock)) := by
        simp [Instr.mapEntry, run_underlying Try.underlying99, MapKept.run_getObj_map hb, lawL.check w false hl, h1, hj, h3, lawL.stays w hl, hsame, MapKept.run_setObj_map _ hb, Result.andThen, setBlock]
      rw [hr2] at hrun
      simp only [Result.ok.injEq] at hrun
      have hbl : (setBlock w b (.map es1 clock1)).heap[b]? = some (.map es clock) := by rw [← hrun.2, setBlock_at hb]
      rw [setBlock_at hb] at hbl
      exact hlook (n2 := n) (D2 := D) ⟨es, clock, by rw [hw2, hbl], F, hsz, hD⟩ hat
  · exact hlook (n2 := n) (D2 := D) ⟨es, clock, by rw [hw2]; exact hb, F, hsz, hD⟩ hat
  · obtain ⟨es', clock', h1, h2⟩ := hst w2 (.int .i64 v) hw2
    obtain ⟨w', hr, ho, _⟩ := h.o.update lawC Try.underlying99 hn hl (plainElem_int Try.underlying3 (wf_ofK hv))
    rw [h2] at hr
    simp only [Result.ok.injEq, true_and] at hr
    refine ⟨es', clock', h1, fun w3 hw3 => ?_⟩
    obtain ⟨es3, c3, q1, q2⟩ := ho
    rw [← hr, setBlock_at hb] at q1
    exact ⟨es3, c3, by rw [hw3]; exact q1, q2⟩
/-- An entry that comes is one of those. -/
theorem MapC.comes {w : World} {b n : Nat} {E : List (Ck × Nat)} {D : DataW Unit} (h : MapC w b n E D) {x : Ck} {c : Int} {kl : Lit} {y : DataW Unit × List MemPlace} (hk : keyOf Try.prog 86 x.val = some kl) (hv : plainElem Try.prog 3 (.int .i64 c) = some y) (hat : ∀ z, D.atKey kl z = y.1) : ∃ v : Nat, c = (v : Int) ∧ (x, v) ∈ E := by
  obtain ⟨a, e1, e2, _⟩ := plainElem_int_inv Try.underlying3 hv
  simp only [Value.int.injEq, true_and] at e1
  subst e1
  rcases h.find x with ⟨v, E1, E2, rfl⟩ | hno
  · refine ⟨v, ?_, by simp⟩
    have h1 := h.at_ (x, v) (by simp) kl hk (.lit (.int .i64 0))
    rw [hat, e2] at h1
    simpa using h1
  · exfalso
    have h1 := h.no x kl hk hno
    have h2 := (h1 (.lit (.int .i64 0))).symm.trans (hat _)
    have h3 := (h1 (.lit (.int .i64 1))).symm.trans (hat _)
    rw [← h2] at h3
    simp at h3
theorem kf_ex : ∃ kf : Ck → Lit, ∀ c l, keyOf Try.prog 86 c.val = some l → kf c = l := ⟨fun c => (keyOf Try.prog 86 c.val).getD (.bool false), fun c l h => by simp only [h, Option.getD_some]⟩
/-- The entries that have come. -/
def gone (kf : Ck → Lit) (left : Lit → Bool) (E : List (Ck × Nat)) : List (Ck × Nat) := E.filter fun e => !left (kf e.1)
theorem gone_none {kf : Ck → Lit} {left : Lit → Bool} {E : List (Ck × Nat)} (h : ∀ e ∈ E, left (kf e.1) = true) : gone kf left E = [] := by
  unfold gone
  rw [List.filter_eq_nil_iff]
  intro e he
  rw [h e he]
  simp
theorem gone_all {kf : Ck → Lit} {left : Lit → Bool} {E : List (Ck × Nat)} (h : ∀ l, left l = false) : gone kf left E = E := by
  unfold gone
  rw [List.filter_eq_self]
  intro e _
  rw [h]
  rfl
theorem gone_more {w : World} {b n : Nat} {E : List (Ck × Nat)} {D : DataW Unit} (h : MapC w b n E D) {kf : Ck → Lit} (hkf : ∀ c l, keyOf Try.prog 86 c.val = some l → kf c = l) {left : Lit → Bool} {x : Ck} {v : Nat} {kl : Lit} (hm : (x, v) ∈ E) (hk : keyOf Try.prog 86 x.val = some kl) (hl : left kl = true) (g : Ck → Nat) :
    wsum g (gone kf (fun z => left z && !z.sameKey kl) E) = wsum g (gone kf left E) + v * g x := by
  obtain ⟨E1, E2, rfl⟩ := List.append_of_mem hm
  have hnd := h.nd
  rw [List.map_append] at hnd
  have hap : ∀ e ∈ E1 ++ E2, e.1 ≠ x := fun e he e2 => by
    rw [List.nodup_append] at hnd
    rcases List.mem_append.mp he with q | q
    · exact hnd.2.2 e.1 (List.mem_map.mpr ⟨e, q, rfl⟩) x (by simp) e2
    · exact (List.nodup_cons.mp hnd.2.1).1 (by rw [← e2]; exact List.mem_map.mpr ⟨e, q, rfl⟩)
  have hsame : ∀ e ∈ E1 ++ E2, (left (kf e.1) && !(kf e.1).sameKey kl) = left (kf e.1) := fun e he => by
    obtain ⟨l2, h2⟩ := keyC_ex e.1 (h.wf e (by rcases List.mem_append.mp he with q | q <;> simp [q]))
    rw [hkf _ _ h2, Go.Maps.sameKey_ne (fun q => by subst q; exact hap e he (val_injK (lawC.inj h2 hk)))]
    simp
  have hx1 : (kf x).sameKey kl = true := by rw [hkf _ _ hk]; exact WideAt.sameKey_self (lawC.key hk)
  have hx2 : left (kf x) = true := by rw [hkf _ _ hk]; exact hl
  have f1 : ∀ F : List (Ck × Nat), (∀ e ∈ F, e ∈ E1 ++ E2) → gone kf (fun z => left z && !z.sameKey kl) F = gone kf left F := fun F hF => by
    unfold gone
    refine List.filter_congr fun e he => ?_
    show (!(left (kf e.1) && !(kf e.1).sameKey kl)) = _
    rw [hsame e (hF e he)]
  have e1 : gone kf (fun z => left z && !z.sameKey kl) (E1 ++ (x, v) :: E2) = gone kf left E1 ++ (x, v) :: gone kf left E2 := by
    rw [← f1 E1 (fun e he => by simp [he]), ← f1 E2 (fun e he => by simp [he])]
    unfold gone
    rw [List.filter_append, List.filter_cons]
    simp [hx1]
  have e2 : gone kf left (E1 ++ (x, v) :: E2) = gone kf left E1 ++ gone kf left E2 := by
    unfold gone
    rw [List.filter_append, List.filter_cons]
    simp [hx2]
  rw [e1, e2, wsum_app, wsum_app, wsum_cons]
  simp only
  omega
end Go.Proofs.Ytkadlopcomjonaa.pg
/- The cuts with one event more: package canon's further. -/
namespace Go.Proofs.Ytkadlopcomjonaa.pg
open Go.ChangeShapes Go.WideShapes Go.ChangeAt Go.RowKit Go.Shelf
open Go.Maps (Keyed IsMap)
open Go.ChangeMaps Go.MapKept
set_option linter.unusedVariables false
set_option linter.unusedSimpArgs false
set_option maxRecDepth 100000
attribute [local go_sem] Oper.semAt_some
theorem preC_congr {B : Nat → Nat → Bool} {g : Nat → Nat} {n : Nat} : ∀ (m : Nat) {c c' : Nat → Nat}, (∀ a, a < 6 → c a = c' a) → preC B g n m c = preC B g n m c'
  | 0, _, _, _ => rfl
  | m + 1, c, c', h => by
    rw [preC, preC, freeL_congr h]
    congr 1
    refine List.map_congr_left fun x _ => preC_congr m fun a ha => ?_
    unfold incC
    rw [h a ha]
/-- How many ways there are to go on behind a cut. -/
def pw (B : Nat → Nat → Bool) (l : List Ev) (m : Nat) (c : Ck) : Nat := preC B (gof l) l.length m (cfK c)
theorem pw_zero (B : Nat → Nat → Bool) (l : List Ev) (c : Ck) : pw B l 0 c = 1 := rfl
theorem cfK_tk {c : Ck} (hc : okCut c) {g : Nat} (hg : g < 6) {a : Nat} (ha : a < 6) : cfK (tk c g) a = incC (cfK c) g a := by
  have h1 := hc a ha
  show ((tk c g).of a).toNat = if a = g then (c.of a).toNat + 1 else (c.of a).toNat
  rw [of_tk hg ha]
  by_cases e : a = g
  · rw [if_pos e, if_pos e]; omega
  · rw [if_neg e, if_neg e]; omega
/-- What the events that have come add. -/
def adds (B : Nat → Nat → Bool) (l : List Ev) (m : Nat) (c : Ck) (pre : List Nat) : Nat := (pre.map fun y => pw B l m (tk c (gof l y))).sum
theorem adds_snoc (B : Nat → Nat → Bool) (l : List Ev) (m : Nat) (c : Ck) (pre : List Nat) (y : Nat) : adds B l m c (pre ++ [y]) = adds B l m c pre + pw B l m (tk c (gof l y)) := by
  unfold adds
  rw [List.map_append, List.sum_append_nat]
  simp
theorem adds_all {B : Nat → Nat → Bool} {l : List Ev} (hrt : ∀ x ∈ l, rightP x) (m : Nat) {c : Ck} (hc : okCut c) : adds B l m c (freeL B (gof l) l.length (cfK c)) = pw B l (m + 1) c := by
  unfold adds pw
  rw [preC]
  congr 1
  refine List.map_congr_left fun y hy => ?_
  obtain ⟨a, _, h⟩ := List.mem_filterMap.mp hy
  have hg := gof_lt hrt (freeA_g h).1
  exact preC_congr m fun a ha => cfK_tk hc hg ha
theorem four6 (w : World) (a b c d : Obj) : ((((w.alloc a).alloc b).alloc c).alloc d).heap[w.heap.size]? = some a ∧ ((((w.alloc a).alloc b).alloc c).alloc d).heap[w.heap.size + 1]? = some b ∧ ((((w.alloc a).alloc b).alloc c).alloc d).heap[w.heap.size + 1 + 1]? = some c ∧ ((((w.alloc a).alloc b).alloc c).alloc d).heap[w.heap.size + 1 + 1 + 1]? = some d ∧ ((((w.alloc a).alloc b).alloc c).alloc d).heap.size = w.heap.size + 1 + 1 + 1 + 1 ∧ Below w.heap.size w ((((w.alloc a).alloc b).alloc c).alloc d) := by
  obtain ⟨h1, h2⟩ := two6 w a b
  obtain ⟨h3, h4⟩ := two6 ((w.alloc a).alloc b) c d
  have hs : ((w.alloc a).alloc b).heap.size = w.heap.size + 1 + 1 := by rw [World.size_alloc, World.size_alloc]
  have hb := boxed2w ((w.alloc a).alloc b) c d
  rw [hs] at h3 h4
  refine ⟨(hb.block _ (by omega)).trans h1, (hb.block _ (by omega)).trans h2, h3, h4, by rw [World.size_alloc, World.size_alloc, hs], bthen (boxed2w w a b) hb⟩
theorem mapC_at {w : World} {b : Nat} (h : w.heap[b]? = some (.map #[] 0)) : MapC w b 0 [] (.map []) := by
  obtain ⟨⟨es, c, h1, h2⟩, h3, h4, h5, h6, h7⟩ := mapC_new w
  rw [heap_alloc_new] at h1
  cases h1
  exact ⟨⟨_, _, h, h2⟩, h3, h4, h5, h6, h7⟩
theorem addK {x v : Nat} (h : x + v ≤ 200000) : wrap64 ((x : Int) + (v : Int)) = (x : Int) + (v : Int) ∧ IntKind.i64.wrap ((x : Int) + (v : Int)) = (x : Int) + (v : Int) := by
  have h1 : wrap64 ((x : Int) + (v : Int)) = (x : Int) + (v : Int) := by unfold wrap64; omega
  exact ⟨h1, by rw [IntKind.wrap_i64]; omega⟩
theorem set_tkK (c : Ck) {g : Nat} (h : g < 6) : ([.int .i64 c.c0, .int .i64 c.c1, .int .i64 c.c2, .int .i64 c.c3, .int .i64 c.c4, .int .i64 c.c5] : List Value).set g (.int .i64 (c.of g + 1)) = (tk c g).cells := by
  match g, h with
  | 0, _ => rfl
  | 1, _ => rfl
  | 2, _ => rfl
  | 3, _ => rfl
  | 4, _ => rfl
  | 5, _ => rfl
/-- How all lies. -/
structure FU (w W : World) (l : List Ev) (la : Option Addr) (lc : Nat) (ca : Option Addr) (cc : Nat) (pa : Nat → Option Addr) (pc : Nat → Nat) (bw nw : Nat) (D : DataW Unit) (left : Lit → Bool) (cnt n' : Nat) (E' : List (Ck × Nat)) (D' : DataW Unit) (s : Nat) : Prop where
  b : Below w.heap.size w W
  p : W.heap[w.heap.size]? = some (objPas l la lc ca cc pa pc)
  n : MapC W (w.heap.size + 1) n' E' D'
  nb : W.heap[w.heap.size + 1 + 1]? = some (.cells #[.map (some (w.heap.size + 1))] 99)
  sb : W.heap[w.heap.size + 1 + 1 + 1]? = some (.cells #[.int .i64 (s : Int)] 3)
  rg : W.ranges Try.prog 86 (plainElem Try.prog 3) bw (w.heap.size + 1 + 1 + 1 + 1) nw D left cnt
theorem ranges_keep {w w' : World} {b r n : Nat} {D : DataW Unit} {left : Lit → Bool} {cnt : Nat} (h : w.ranges Try.prog 86 (plainElem Try.prog 3) b r n D left cnt) (h1 : w'.heap[b]? = w.heap[b]?) (h2 : w'.heap[r]? = w.heap[r]?) : w'.ranges Try.prog 86 (plainElem Try.prog 3) b r n D left cnt := by
  obtain ⟨es, clock, since, seen, c0, q1, q2, q3, q4, q5, q6⟩ := h
  exact ⟨es, clock, since, seen, c0, h1.trans q1, q2, q3, q4, h2.trans q5, q6⟩
section
variable {w W W' : World} {l : List Ev} {la : Option Addr} {lc : Nat} {ca : Option Addr} {cc : Nat} {pa : Nat → Option Addr} {pc : Nat → Nat} {bw nw : Nat} {D : DataW Unit} {left : Lit → Bool} {cnt n' : Nat} {E' : List (Ck × Nat)} {D' : DataW Unit} {s : Nat}
theorem FU.lt (h : FU w W l la lc ca cc pa pc bw nw D left cnt n' E' D' s) : w.heap.size + 1 + 1 + 1 + 1 < W.heap.size := by
  obtain ⟨es, clock, since, seen, c0, q1, q2, q3, q4, q5, q6⟩ := h.rg
  exact (Array.getElem?_eq_some_iff.mp q5).1
theorem FU.keep (h : FU w W l la lc ca cc pa pc bw nw D left cnt n' E' D' s) (hbw : bw < w.heap.size) (hb : Below w.heap.size W W') (hk : ∀ b, b < w.heap.size + 5 → W'.heap[b]? = W.heap[b]?) : FU w W' l la lc ca cc pa pc bw nw D left cnt n' E' D' s :=
  ⟨h.b.trans hb, (hk _ (by omega)).trans h.p, h.n.kept (hk _ (by omega)), (hk _ (by omega)).trans h.nb, (hk _ (by omega)).trans h.sb, ranges_keep h.rg (hk _ (by omega)) (hk _ (by omega))⟩
theorem FU.later (h : FU w W l la lc ca cc pa pc bw nw D left cnt n' E' D' s) (hbw : bw < w.heap.size) (hb : Below W.heap.size W W') : FU w W' l la lc ca cc pa pc bw nw D left cnt n' E' D' s := h.keep hbw (hb.mono (by have := h.lt; omega)) fun b q => hb.block b (by have := h.lt; omega)
end
/-- What is known of the numbers, between two entries. -/
structure FW (N : Nat) (B : Nat → Nat → Bool) (l : List Ev) (E : List (Ck × Nat)) (kf : Ck → Lit) (left : Lit → Bool) (E' : List (Ck × Nat)) (s n' : Nat) : Prop where
  ws : ∀ m, wsum (pw B l m) E' = wsum (pw B l (m + 1)) (gone kf left E)
  sm : s = wsum (fun _ => 1) E'
  ok : ∀ e ∈ E', okN N e.1 ∧ 1 ≤ e.2
  nn : n' ≤ s
  bd : s ≤ 6 * wsum (fun _ => 1) (gone kf left E)
/-- And between two events of one. -/
structure FV (N : Nat) (B : Nat → Nat → Bool) (l : List Ev) (E : List (Ck × Nat)) (kf : Ck → Lit) (left : Lit → Bool) (c : Ck) (v : Nat) (pre : List Nat) (E' : List (Ck × Nat)) (s n' : Nat) : Prop where
  ws : ∀ m, wsum (pw B l m) E' = wsum (pw B l (m + 1)) (gone kf left E) + v * adds B l m c pre
  sm : s = wsum (fun _ => 1) E'
  ok : ∀ e ∈ E', okN N e.1 ∧ 1 ≤ e.2
  nn : n' ≤ s
  bd : s ≤ 6 * wsum (fun _ => 1) (gone kf left E) + v * pre.length
theorem FW.begin {N : Nat} {B : Nat → Nat → Bool} {l : List Ev} {E : List (Ck × Nat)} {kf : Ck → Lit} {left : Lit → Bool} {E' : List (Ck × Nat)} {s n' : Nat} (h : FW N B l E kf left E' s n') (c : Ck) (v : Nat) : FV N B l E kf left c v [] E' s n' :=
  ⟨fun m => by rw [h.ws m]; rfl, h.sm, h.ok, h.nn, by have := h.bd; simpa using this⟩
theorem wsum_mem {E : List (Ck × Nat)} {e : Ck × Nat} (h : e ∈ E) : e.2 ≤ wsum (fun _ => 1) E := by
  obtain ⟨E1, E2, rfl⟩ := List.append_of_mem h
  rw [wsum_app, wsum_cons]
  show e.2 ≤ _ + (e.2 * 1 + _)
  omega
theorem gone_le {E : List (Ck × Nat)} (kf : Ck → Lit) (left : Lit → Bool) (g : Ck → Nat) : wsum g (gone kf left E) ≤ wsum g E := by
  unfold gone
  induction E with
  | nil => exact Nat.le_refl _
  | cons e E ih =>
    rw [List.filter_cons]
    split
    · rw [wsum_cons, wsum_cons]; omega
    · rw [wsum_cons]; omega
theorem okCut_wf {c : Ck} (h : okCut c) : c.wf := by
  have h0 := h 0 (by decide)
  have h1 := h 1 (by decide)
  have h2 := h 2 (by decide)
  have h3 := h 3 (by decide)
  have h4 := h 4 (by decide)
  have h5 := h 5 (by decide)
  obtain ⟨c0, c1, c2, c3, c4, c5⟩ := c
  simp only [Ck.of, Ck.list, List.getD_cons_zero, List.getD_cons_succ] at h0 h1 h2 h3 h4 h5
  show I64 c0 ∧ I64 c1 ∧ I64 c2 ∧ I64 c3 ∧ I64 c4 ∧ I64 c5
  exact ⟨⟨by omega, by omega⟩, ⟨by omega, by omega⟩, ⟨by omega, by omega⟩, ⟨by omega, by omega⟩, ⟨by omega, by omega⟩, ⟨by omega, by omega⟩⟩
theorem FV.put {N : Nat} {B : Nat → Nat → Bool} {l : List Ev} {E : List (Ck × Nat)} {kf : Ck → Lit} {left : Lit → Bool} {c : Ck} {v : Nat} {pre : List Nat} {E' : List (Ck × Nat)} {s n' : Nat} (h : FV N B l E kf left c v pre E' s n') (hv : 1 ≤ v) {y : Nat} (hok : okN N (tk c (gof l y))) {E2 : List (Ck × Nat)}
    (hw : ∀ g, wsum g E2 = wsum g E' + v * g (tk c (gof l y))) (hk : ∀ e ∈ E2, e.1 = tk c (gof l y) ∨ ∃ e' ∈ E', e'.1 = e.1) (hp : ∀ e ∈ E2, 1 ≤ e.2) : FV N B l E kf left c v (pre ++ [y]) E2 (s + v) (n' + 1) := by
  refine ⟨fun m => ?_, ?_, fun e he => ⟨?_, hp e he⟩, by have := h.nn; omega, ?_⟩
  · rw [hw, h.ws m, adds_snoc, Nat.mul_add]; omega
  · rw [hw, h.sm]; omega
  · rcases hk e he with q | ⟨e', h1, h2⟩
    · rw [q]; exact hok
    · rw [← h2]; exact (h.ok e' h1).1
  · have := h.bd
    rw [List.length_append, List.length_cons, List.length_nil, Nat.mul_add]
    omega
theorem FV.done {N : Nat} {B : Nat → Nat → Bool} {l : List Ev} {E : List (Ck × Nat)} {kf : Ck → Lit} {left left' : Lit → Bool} {c : Ck} {v : Nat} {E' : List (Ck × Nat)} {s n' : Nat} (hrt : ∀ x ∈ l, rightP x) (hc : okCut c) (h : FV N B l E kf left c v (freeL B (gof l) l.length (cfK c)) E' s n') (hg : ∀ g, wsum g (gone kf left' E) = wsum g (gone kf left E) + v * g c) : FW N B l E kf left' E' s n' := by
  refine ⟨fun m => ?_, h.sm, h.ok, h.nn, ?_⟩
  · rw [hg, h.ws m, adds_all hrt m hc]
  · have h1 := h.bd
    rw [hg]
    have h2 : (freeL B (gof l) l.length (cfK c)).length ≤ 6 := freeT_len B (gof l) l.length (cfK c) 6
    have h3 : v * (freeL B (gof l) l.length (cfK c)).length ≤ v * 6 := Nat.mul_le_mul_left v h2
    omega
theorem run_lookC {P : Program} {o : Oper} {a : Act} {w : World} {t : TypeId} {m k r : Value} (x : Operand) {y : Operand} (ho : o.op = .lookup t x y false) (hx : a.eval x = m) (hy : a.eval y = k) (h : (Instr.lookup t m k false).run P w = .ok r w) : (execOp a.eval o).run P w = .ok (.value r) w := by
  simp [execOp, ho, hx, hy, h, Result.andThen]
theorem run_entC {P : Program} {o : Oper} {a : Act} {w w' : World} {t : TypeId} {m k r : Value} (x : Operand) {y : Operand} (ho : o.op = .mapEntry t x y) (hx : a.eval x = m) (hy : a.eval y = k) (h : (Instr.mapEntry t m k).run P w = .ok r w') : (execOp a.eval o).run P w = .ok (.value r) w' := by
  simp [execOp, ho, hx, hy, h, Result.andThen]
theorem run_stC {P : Program} {o : Oper} {a : Act} {w w' : World} {t : TypeId} {m k r : Value} (x : Operand) {y z : Operand} (ho : o.op = .entryStore t x y z) (hx : a.eval x = m) (hy : a.eval y = k) (hz : a.eval z = r) (h : (Instr.entryStore t m k r).run P w = .ok () w') : (execOp a.eval o).run P w = .ok .skip w' := by
  simp [execOp, ho, hx, hy, hz, h, Result.andThen]
/-- A value, and the world turned. -/
theorem arm_turn {P : Program} {ops : Array Oper} {Q : Exit → Act → World → Prop} {S : World → Prop} {fuel : Nat} {listed : Array Bool} {a : Act} {w : World} {i : Nat} {o : Oper} (hw : Region.wanted o (yielded ops a.tmps) = true) (v : Value) (w1 : World) (hrun : (execOp a.eval o).run P w = .ok (.value v) w1) (hS : S w1) (h : wpAnyH P .any ops Q S fuel (listed.setIfInBounds i true) (a.put o.dst v) w1) :
    ∀ K' : Act → World → Prop, Shut (∀ a w, S w → (S w → wpAnyH P .any ops Q S fuel (listed.setIfInBounds i true) a w) → K' a w) → if Region.wanted o (yielded ops a.tmps) = true then Oper.wp P o a w K' Q else K' (a.put o.dst undef) w := fun K hK => by
  rw [if_pos hw]
  unfold Oper.wp
  rw [hrun]
  exact hK.out _ _ hS fun _ => h
def fuA (q bw : Nat) (l : List Ev) (la : Option Addr) (lc : Nat) (ca : Option Addr) (cc : Nat) (pa : Nat → Option Addr) (pc : Nat → Nat) (u8 u9 u10 u11 u15 u16 u17 u18 u19 u20 u21 u22 u23 u24 u25 u26 u27 u28 u29 u30 u31 u32 u33 u34 u35 u36 u37 u38 u39 u40 u41 u42 u43 u44 : Value) (d : List Deferred) : Act := { tmps := #[.agg (pasV l la lc ca cc pa pc).toArray, .map (some bw), .pointer (some ⟨q, 0, none⟩), undef, .map none, .int .i64 0, .pointer (some ⟨q + 1 + 1, 0, none⟩), .pointer (some ⟨q + 1 + 1 + 1, 0, none⟩), u8, u9, u10, u11, .map (some (q + 1)), .map (some bw), .pointer (some ⟨q + 1 + 1 + 1 + 1, 0, none⟩), u15, u16, u17, u18, u19, u20, u21, u22, u23, u24, u25, u26, u27, u28, u29, u30, u31, u32, u33, u34, u35, u36, u37, u38, u39, u40, u41, u42, u43, u44, undef, undef], defers := d }
abbrev objMb (q : Nat) : Obj := .cells #[.map (some (q + 1))] 99
abbrev objNv (v : Int) : Obj := .cells #[.int .i64 v] 3
set_option maxHeartbeats 8000000 in
theorem further_any (l : List Ev) (la : Option Addr) (lc : Nat) (ca : Option Addr) (cc : Nat) (pa : Nat → Option Addr) (pc : Nat → Nat) (lo0 bw nw N : Nat) (E : List (Ck × Nat)) (D : DataW Unit) (w : World) (hl : Rows w 26 la lc (l.map Ev.cells)) (hP : Pst w lo0 l ca cc pa pc) (hlen : l.length ≤ 256) (hrt : ∀ x ∈ l, rightP x) {B : Nat → Nat → Bool} (hB : Tells (dpf l) B) (hM : MapC w bw nw E D) (hE : ∀ e ∈ E, okN N e.1 ∧ 1 ≤ e.2) (hN : N ≤ 256) (hT : wsum (fun _ => 1) E ≤ 10000) :
    Calls Try.prog 56 #[.agg (pasV l la lc ca cc pa pc).toArray, .map (some bw)] w fun e w' => ∃ (n' : Nat) (E' : List (Ck × Nat)) (D' : DataW Unit) (s : Nat), e = .returned (.tuple #[.map (some (w.heap.size + 1)), .int .i64 (s : Int)]) ∧ MapC w' (w.heap.size + 1) n' E' D' ∧ (∀ m, wsum (pw B l m) E' = wsum (pw B l (m + 1)) E) ∧ s = wsum (fun _ => 1) E' ∧ (∀ e ∈ E', okN (N + 1) e.1 ∧ 1 ≤ e.2) ∧ Below w.heap.size w w' := by
  have hmm := @run_makeMap Try.prog
  have hbw : bw < w.heap.size := hM.lt
  obtain ⟨kf, hkf⟩ := kf_ex
  have huP : Hid (Try.prog.underlying 82 = _) := Try.underlying82
  have huK : Hid (Try.prog.underlying 86 = _) := Try.underlying86
  have hlH : Hid (Rows w 26 la lc (l.map Ev.cells)) := hl
  have hPH : Hid (Pst w lo0 l ca cc pa pc) := hP
  have hrH : Hid (∀ x ∈ l, rightP x) := hrt
  have hBH : Hid (Tells (dpf l) B) := hB
  have hEH : Hid (∀ e ∈ E, okN N e.1 ∧ 1 ≤ e.2) := hE
  have hTH : Hid (wsum (fun _ => 1) E ≤ 10000) := hT
  have hMH : Hid (MapC w bw nw E D) := hM
  have hkH : Hid (∀ c l, keyOf Try.prog 86 c.val = some l → kf c = l) := hkf
  have invV : ∀ (v : Value) (y : DataW Unit × List MemPlace), plainElem Try.prog 3 v = some y → ∃ c, v = Value.int .i64 c := fun v y hv => by
    obtain ⟨c, rfl, _⟩ := plainElem_int_inv Try.underlying3 hv
    exact ⟨c, rfl⟩
  have hinv : Hid (∀ (v : Value) (y : DataW Unit × List MemPlace), plainElem Try.prog 3 v = some y → ∃ c, v = Value.int .i64 c) := invV
  clear hl hP hrt hB hE hT hM hkf invV
  have hV : Hid (((((w.alloc (objPas l la lc ca cc pa pc)).alloc (.map #[] 0)).alloc (objMb w.heap.size)).alloc (objNv 0)).heap[w.heap.size]? = some (objPas l la lc ca cc pa pc) ∧ ((((w.alloc (objPas l la lc ca cc pa pc)).alloc (.map #[] 0)).alloc (objMb w.heap.size)).alloc (objNv 0)).heap[w.heap.size + 1]? = some (.map #[] 0) ∧ ((((w.alloc (objPas l la lc ca cc pa pc)).alloc (.map #[] 0)).alloc (objMb w.heap.size)).alloc (objNv 0)).heap[w.heap.size + 1 + 1]? = some (objMb w.heap.size) ∧ ((((w.alloc (objPas l la lc ca cc pa pc)).alloc (.map #[] 0)).alloc (objMb w.heap.size)).alloc (objNv 0)).heap[w.heap.size + 1 + 1 + 1]? = some (objNv 0) ∧ ((((w.alloc (objPas l la lc ca cc pa pc)).alloc (.map #[] 0)).alloc (objMb w.heap.size)).alloc (objNv 0)).heap.size = w.heap.size + 1 + 1 + 1 + 1 ∧ Below w.heap.size w ((((w.alloc (objPas l la lc ca cc pa pc)).alloc (.map #[] 0)).alloc (objMb w.heap.size)).alloc (objNv 0))) := four6 w _ _ _ _
  refine (callsIn_wide (n := 3)).1 ?_
  refine callsIn_of_wp_marks Try.func56 rfl trivial ?_ rfl
  simp only [Try.ntmps56, List.size_toArray, List.length_cons, List.length_nil, Nat.reduceAdd, Nat.reduceSub, Array.replicate_succ, Array.replicate_zero, List.push_toArray, List.append_toArray, List.nil_append, List.cons_append]
  refine wpIn_wide.2 ?_
  go_upto_region 2 with fail
  generalize (((w.alloc (objPas l la lc ca cc pa pc)).alloc (.map #[] 0)).alloc (objMb w.heap.size)).alloc (objNv 0) = V at *
  obtain ⟨v1, v2, v3, v4, v5, v6⟩ := hV.out
  have hown : V.ownsMap Try.prog 86 (plainElem Try.prog 3) bw nw D := (hMH.out.kept (v6.block bw hbw)).o
  clear hV
  go_wp2_with (at_range; refine wpList_range_own _ rfl _ 99 rfl 86 3 lawC Try.underlying99 _ bw nw D rfl hown ?_; intro w0 hrg0 hg0 hs0)
  go_frame
  rw [v5] at hrg0 ⊢
  have hb0 : Below V.heap.size V w0 := ⟨hg0.os, hg0.tape, hg0.output, hg0.size, fun i hi => hg0.block i hi (by simp)⟩
  have hn0 := mapC_at v2
  have hfu0 : Hid (FU w w0 l la lc ca cc pa pc bw nw D (Maps.has D) (Maps.size D) 0 [] (.map []) 0) := ⟨bthen v6 hb0, (hb0.block _ (by omega)).trans v1, hn0.kept (hb0.block _ (by omega)), (hb0.block _ (by omega)).trans v3, (hb0.block _ (by omega)).trans v4, hrg0⟩
  have hfw0 : Hid (FW (N + 1) B l E kf (Maps.has D) [] 0 0) := by
    have hgn : gone kf (Maps.has D) E = [] := gone_none fun e he => by
      obtain ⟨l2, h2⟩ := keyC_ex e.1 (hMH.out.wf e he)
      rw [hkH.out _ _ h2]
      exact Go.Maps.has_true_of_atKey (hMH.out.at_ e he l2 h2)
    exact ⟨fun m => by rw [hgn]; rfl, rfl, by simp, Nat.le_refl _, Nat.zero_le _⟩
  clear v1 v2 v3 v4 v6 hown hrg0 hg0 hs0 hb0 hn0 hmm v5
  obtain ⟨q, hq⟩ : ∃ q, q = w.heap.size := ⟨_, rfl⟩
  have hqH : Hid (q = w.heap.size) := hq
  simp only [← hq]
  clear hq
  refine wp_loop (fun a' W' => ∃ (left : Lit → Bool) (cnt n' : Nat) (E' : List (Ck × Nat)) (D' : DataW Unit) (s : Nat) (Ds : List Nat) (u8 u9 u10 u11 u15 u16 u17 u18 u19 u20 u21 u22 u23 u24 u25 u26 u27 u28 u29 u30 u31 u32 u33 u34 u35 u36 u37 u38 u39 u40 u41 u42 u43 u44 : Value), Hid (FU w W' l la lc ca cc pa pc bw nw D left cnt n' E' D' s ∧ FW (N + 1) B l E kf left E' s n' ∧ MarksK w.heap.size Ds W') ∧ a' = fuA q bw l la lc ca cc pa pc u8 u9 u10 u11 u15 u16 u17 u18 u19 u20 u21 u22 u23 u24 u25 u26 u27 u28 u29 u30 u31 u32 u33 u34 u35 u36 u37 u38 u39 u40 u41 u42 u43 u44 (Ds.map mkK)) (fun _ W' => W'.rangeLeft bw (w.heap.size + 1 + 1 + 1 + 1)) ?_ ?_
  · exact ⟨_, _, _, _, _, _, [], undef, undef, undef, undef, undef, undef, undef, undef, undef, undef, undef, undef, undef, undef, undef, undef, undef, undef, undef, undef, undef, undef, undef, undef, undef, undef, undef, undef, undef, undef, undef, undef, undef, undef, ⟨hfu0.out, hfw0.out, MarksK.nil _ _⟩, rfl⟩
  · rintro a' W ⟨left, cnt, n', E', D', s, Ds, u8, u9, u10, u11, u15, u16, u17, u18, u19, u20, u21, u22, u23, u24, u25, u26, u27, u28, u29, u30, u31, u32, u33, u34, u35, u36, u37, u38, u39, u40, u41, u42, u43, u44, hs, rfl⟩
    clear hfu0 hfw0
    unfold fuA
    have hrg := hs.out.1.rg
    rw [← hqH.out] at hrg
    go_wp2_with (at_next; refine wpList_next_ranges _ rfl _ rfl 86 lawC (plainElem Try.prog 3) Ck.val (Value.int .i64) keyC_inv hinv.out bw (q + 1 + 1 + 1 + 1) nw D left cnt rfl hrg ?_ ?_)
    · intro hc0 hl0
      have hgn : gone kf left E = E := gone_all hl0
      have d1 := cell_ofK (k := 0) hs.out.1.nb rfl
      have d2 := cell_ofK (k := 0) hs.out.1.sb rfl
      rw [← hqH.out] at d1 d2
      have hsH : Hid (FU w W l la lc ca cc pa pc bw nw D left cnt n' E' D' s ∧ FW (N + 1) B l E kf left E' s n' ∧ MarksK w.heap.size Ds W) := hs
      clear hrg hl0
      go_wp2_with fail
      go_quiet (fail)
      rename_i nq
      go_wp2_with fail
      have hbq : Below W.heap.size W (W.drewN nq) := below_drewN (Below.refl _ _) _
      refine leaves_marksK (n₀ := w.heap.size) Ds _ (hsH.out.2.2.later hbq) fun W' hk' => ?_
      refine ⟨_, results_two Try.results56 _ _ (.map (some (q + 1))) (.int .i64 (s : Int)) rfl rfl, n', E', D', s, by rw [hqH.out], ?_, fun m => by rw [hsH.out.2.1.ws m, hgn], hsH.out.2.1.sm, hsH.out.2.1.ok, ?_⟩
      · have hm1 := hsH.out.1.n
        obtain ⟨es, ck0, h1, h2⟩ := id hm1.o
        exact hm1.kept ((hk'.c _ _ (show (W.drewN nq).heap[w.heap.size + 1]? = _ from h1) (fun z q9 => by cases q9)).trans h1.symm)
      · exact (bthen hsH.out.1.b hbq).trans hk'.b
    · intro c cI kl yd yp w1 cnt1 hkey hlk hv hat hrg1 hlt hg1 hs1 hen
      obtain ⟨v, rfl, hcv⟩ := hMH.out.comes hkey hv hat
      have hWl := hs.out.1.lt
      have hk1 : ∀ b, b < W.heap.size → b ≠ q + 1 + 1 + 1 + 1 → w1.heap[b]? = W.heap[b]? := fun b hb hne => hg1.block b hb (by simp [hne])
      have hb1 : Below w.heap.size W w1 := ⟨hg1.os, hg1.tape, hg1.output, hg1.size, fun i hi => hk1 i (by omega) (by rw [hqH.out]; omega)⟩
      have hfu1 : Hid (FU w w1 l la lc ca cc pa pc bw nw D (fun z => left z && !z.sameKey kl) cnt1 n' E' D' s) := ⟨hs.out.1.b.trans hb1, (hk1 _ (by omega) (by rw [hqH.out]; omega)).trans hs.out.1.p, hs.out.1.n.kept (hk1 _ (by omega) (by rw [hqH.out]; omega)), (hk1 _ (by omega) (by rw [hqH.out]; omega)).trans hs.out.1.nb, (hk1 _ (by omega) (by rw [hqH.out]; omega)).trans hs.out.1.sb, by rw [← hqH.out]; exact hrg1⟩
      have hmk1 : Hid (MarksK w.heap.size Ds w1) := hs.out.2.2.keep fun E0 hE0 => hk1 E0 (hs.out.2.2.lt hE0) fun e => by
        obtain ⟨_, _, _, _, _, _, _, _, _, r5, _⟩ := hs.out.1.rg
        have h9 := (hs.out.2.2.at_ E0 hE0).2
        rw [e, hqH.out, r5] at h9
        cases h9
      have hgm : Hid (∀ g, wsum g (gone kf (fun z => left z && !z.sameKey kl) E) = wsum g (gone kf left E) + v * g c) := fun g => gone_more hMH.out hkH.out hcv hkey hlk g
      have hcE : Hid (okN N c ∧ 1 ≤ v) := hEH.out _ hcv
      have hvT : Hid (wsum (fun _ => 1) (gone kf left E) + v ≤ 10000) := by
        have h1 := hgm.out (fun _ => 1)
        have h2 := gone_le (E := E) kf (fun z => left z && !z.sameKey kl) (fun _ => 1)
        have h3 := hTH.out
        show _ ≤ _
        omega
      have hms : Hid (w1.rangeLeft bw (w.heap.size + 1 + 1 + 1 + 1) < W.rangeLeft bw (w.heap.size + 1 + 1 + 1 + 1)) := by
        show _ < _
        rw [← hqH.out, hrg1.left_eq, hrg.left_eq]
        exact hlt
      have hfv0 : Hid (FV (N + 1) B l E kf left c v [] E' s n') := hs.out.2.1.begin c v
      clear hs hrg hat hv hkey hlk hlt hg1 hs1 hrg1 hk1 hb1 hWl hcv
      go_upto_region 5 with fail
      have hCB : Hid (((w1.alloc (objK c)).alloc (objNv v)).heap[w1.heap.size]? = some (objK c) ∧ ((w1.alloc (objK c)).alloc (objNv v)).heap[w1.heap.size + 1]? = some (objNv v)) := two6 w1 _ _
      have hb4 : Below w1.heap.size w1 ((w1.alloc (objK c)).alloc (objNv v)) := boxed2w _ _ _
      have hfu4 : Hid (FU w ((w1.alloc (objK c)).alloc (objNv v)) l la lc ca cc pa pc bw nw D (fun z => left z && !z.sameKey kl) cnt1 n' E' D' s) := hfu1.out.later hbw hb4
      have hmk4 : Hid (MarksK w.heap.size Ds ((w1.alloc (objK c)).alloc (objNv v))) := hmk1.out.later hb4
      have hsz4 : Hid (((w1.alloc (objK c)).alloc (objNv v)).heap.size = w1.heap.size + 1 + 1) := by show _ = _; rw [World.size_alloc, World.size_alloc]
      have hl1 : Hid (w.heap.size + 1 + 1 + 1 + 1 < w1.heap.size) := hfu1.out.lt
      have hDl : Hid (∀ D0 ∈ Ds, D0 < w1.heap.size) := fun D0 hD0 => hmk1.out.lt hD0
      have hms4 : Hid (∀ V' : World, V'.heap[bw]? = w1.heap[bw]? → V'.heap[w.heap.size + 1 + 1 + 1 + 1]? = w1.heap[w.heap.size + 1 + 1 + 1 + 1]? → V'.rangeLeft bw (w.heap.size + 1 + 1 + 1 + 1) < W.rangeLeft bw (w.heap.size + 1 + 1 + 1 + 1)) := fun V' e1 e2 => by
        have h1 := hms.out
        unfold World.rangeLeft at h1 ⊢
        rw [e1, e2]
        exact h1
      have hrgs : Hid (w1.ranges Try.prog 86 (plainElem Try.prog 3) bw (w.heap.size + 1 + 1 + 1 + 1) nw D (fun z => left z && !z.sameKey kl) cnt1) := hfu1.out.rg
      clear hfu1 hmk1 hb4 hen hms
      generalize (w1.alloc (objK c)).alloc (objNv v) = Wk at *
      generalize w1.heap.size = CB at *
      have hp := hfu4.out.p
      have hc : Wk.heap[CB]? = some (.cells c.cells.toArray 86) := hCB.out.1
      rw [← hqH.out] at hp
      have cF := fun V => free_any l la lc ca cc pa pc c V
      go_wp2_with (first
        | (refine wpList_load_row rfl 82 _ rfl q rfl _ _ _ _ hp huP.out rfl infoPa ?_)
        | (refine wpList_load_row rfl 86 _ rfl CB rfl _ _ _ _ hc huK.out rfl (by kernel_rfl) ?_)
        | (go_at_call 45; (refine (cF _).mono ?_); rintro e w2 ⟨rfl, hw2⟩))
      clear cF hp hc
      have hbW : Below Wk.heap.size Wk w2 := by rw [hw2]; exact boxed2w _ _ _
      obtain ⟨q1, q2⟩ := two6 Wk (objPas l la lc ca cc pa pc) (objK c)
      rw [← hw2] at q1 q2 ⊢
      have hsz : w2.heap.size = CB + 4 := by rw [hw2]; simp [World.size_alloc, hsz4.out]
      have hfu2 := hfu4.out.later hbw hbW
      have hm2 := hmk4.out.later hbW
      have hcb2 : w2.heap[CB]? = some (objK c) ∧ w2.heap[CB + 1]? = some (objNv v) := ⟨(hbW.block _ (by rw [hsz4.out]; omega)).trans hCB.out.1, (hbW.block _ (by rw [hsz4.out]; omega)).trans hCB.out.2⟩
      clear hw2 hfu4 hmk4 hCB
      have hl1' := hl1.out
      have hD2 : ∀ D0 ∈ Ds, D0 < w2.heap.size := fun D0 hD0 => by have := hDl.out D0 hD0; omega
      have hcok : okCut c := okN_mono hcE.out.1 (by omega)
      refine (wpIn_wide (n := 3)).1 ?_
      refine wpIn_rangeFunc_ownG (n := 3) rfl (by omega) (gf := 74) (lb := #[.pointer (some ⟨Wk.heap.size, 0, none⟩), .pointer (some ⟨Wk.heap.size + 1, 0, none⟩)]) rfl trivial (enters_of Try.func74 (by kernel_rfl) rfl)
        (free_stops 2 w l la lc ca cc pa pc lo0 hlH.out hPH.out hlen hrH.out hBH.out c hcok Wk.heap.size (Wk.heap.size + 1) w2 hfu2.b q1 q2) KeepP.trans (keepP_b (by omega) (by rw [hsz4.out]; omega) (by rw [hsz4.out]; omega)) (Below.refl _ _) (fun _ => rfl)
        (fun pre V => ∃ n2 E2 D2 s2, FU w V l la lc ca cc pa pc bw nw D (fun z => left z && !z.sameKey kl) cnt1 n2 E2 D2 s2 ∧ FV (N + 1) B l E kf left c v (pre.map (·.1)) E2 s2 n2 ∧ MarksK w.heap.size Ds V ∧ V.heap[CB]? = some (objK c) ∧ V.heap[CB + 1]? = some (objNv v))
        (fun _ _ _ => False) ?own (fun _ _ _ _ _ hs _ _ => hs) ⟨n', E', D', s, hfu2, hfv0.out, hm2, hcb2⟩
        (fun x => { tmps := #[.agg (pasV l la lc ca cc pa pc).toArray, .map (some bw), .pointer (some ⟨q, 0, none⟩), undef, .map none, .int .i64 0, .pointer (some ⟨q + 1 + 1, 0, none⟩), .pointer (some ⟨q + 1 + 1 + 1, 0, none⟩), .pointer (some ⟨CB, 0, none⟩), .pointer (some ⟨CB + 1, 0, none⟩), .int .i64 (x.1 : Int), u11, .map (some (q + 1)), .map (some bw), .pointer (some ⟨q + 1 + 1 + 1 + 1, 0, none⟩), .tuple #[.bool true, c.val, .int .i64 (v : Int)], .bool true, .tuple #[c.val, .int .i64 (v : Int)], c.val, .int .i64 (v : Int), .agg (pasV l la lc ca cc pa pc).toArray, .agg c.cells.toArray, .func (.func 74) #[] #[.pointer (some ⟨Wk.heap.size, 0, none⟩), .pointer (some ⟨Wk.heap.size + 1, 0, none⟩)], .int .i64 (x.1 : Int), u24, u25, u26, u27, u28, u29, u30, u31, u32, u33, u34, u35, u36, u37, u38, u39, u40, u41, u42, u43, u44, undef, undef], defers := [] }) ?assign ?body ?done ?stop
      case own =>
        rintro pre A B' row ⟨n2, E2, D2, s2, h1, h2, h3, h4, h5⟩ hgr hr
        have hA := h1.lt
        have hne : ∀ b, b < w2.heap.size → some b ≠ row := fun b hb e => by have := (hr b e.symm).1; omega
        have h5l := (Array.getElem?_eq_some_iff.mp h5).1
        exact ⟨n2, E2, D2, s2, h1.keep hbw ((Below.refl _ A).grown hgr (by omega) (fun r e => by have := (hr r e).1; omega)) (fun b hb => hgr.block b (by omega) (hne b (by omega))), h2, h3.keep (fun D0 hD0 => hgr.block D0 (h3.lt hD0) (hne D0 (hD2 D0 hD0))), (hgr.block _ (by omega) (hne _ (by omega))).trans h4, (hgr.block _ h5l (hne _ (by omega))).trans h5⟩
      case assign =>
        intro ll x V K hK
        gi_wp2
        exact hK
      case body =>
        rintro ll pre x V ⟨n2, E2, D2, s2, h1, h2, h3, h4, h5⟩ hpl
        have hg6 := gof_lt hrH.out x.2
        have hVl := h1.lt
        have h5l := (Array.getElem?_eq_some_iff.mp h5).1
        have hbL := boxed V (objK c)
        obtain ⟨b0, o0, hix, hbl, hrg⟩ := ev_row (hlH.out.later (bthen h1.b hbL)) x.1 (evf l x.1) (evf_at x.2)
        obtain ⟨gn, hgn⟩ : ∃ gn, gn = gof l x.1 := ⟨_, rfl⟩
        rw [← hgn] at hg6
        have e0 : (V.alloc (objK c)).cell? ⟨b0, o0, none⟩ = some (.int .i64 (gn : Int)) := by
          have h6 := (hrH.out (evf l x.1) (List.mem_of_getElem? (evf_at x.2))).1
          rw [show ((gn : Nat) : Int) = (evf l x.1).go by rw [hgn]; unfold gof; omega]
          exact hrg 0 _ rfl
        have k0 := cell_ofK (k := 0) h4 (v := .int .i64 c.c0) rfl
        have k1 := cell_ofK (k := 1) h4 (v := .int .i64 c.c1) rfl
        have k2 := cell_ofK (k := 2) h4 (v := .int .i64 c.c2) rfl
        have k3 := cell_ofK (k := 3) h4 (v := .int .i64 c.c3) rfl
        have k4 := cell_ofK (k := 4) h4 (v := .int .i64 c.c4) rfl
        have k5 := cell_ofK (k := 5) h4 (v := .int .i64 c.c5) rfl
        have p0 : (V.alloc (objK c)).cell? ⟨q, 0, none⟩ = some (.slice la l.length lc) := by rw [hqH.out]; exact cell_later hbL (cell_ofK (k := 0) h1.p rfl)
        have xg := ck_at V.heap.size gn hg6
        obtain ⟨_, hof⟩ := of_mem (x := c) hg6
        obtain ⟨cg, fg⟩ := InB.cell (z := c) (heap_alloc_new V (objK c)) hof
        have hcb := hcE.out.1 gn hg6
        have hw1 : wrap64 (c.of gn + 1) = c.of gn + 1 := by unfold wrap64; omega
        have hxI : ((x.1 : Nat) : Int) < l.length := by have := x.2; omega
        have hset : Hid (V.alloc (.cells (([.int .i64 c.c0, .int .i64 c.c1, .int .i64 c.c2, .int .i64 c.c3, .int .i64 c.c4, .int .i64 c.c5] : List Value).set gn (.int .i64 (c.of gn + 1))).toArray 86) = V.alloc (.cells (tk c gn).cells.toArray 86)) := by
          show _ = _
          rw [set_tkK c hg6]
        have h1H : Hid (FU w V l la lc ca cc pa pc bw nw D (fun z => left z && !z.sameKey kl) cnt1 n2 E2 D2 s2) := h1
        have h2H : Hid (FV (N + 1) B l E kf left c v (pre.map (·.1)) E2 s2 n2) := h2
        have h3H : Hid (MarksK w.heap.size Ds V) := h3
        have h4H : Hid (V.heap[CB]? = some (objK c)) := h4
        have h5H : Hid (V.heap[CB + 1]? = some (objNv v)) := h5
        have hgnH : Hid (gn = gof l x.1) := hgn
        clear h1 h2 h3 h4 h5 hrg hbl hof hcb hbL hgn
        generalize hcn : c.of gn = cn at *
        gi_wp2_with fail
        have hset2 := hset.out
        simp only [hset2]
        clear k0 k1 k2 k3 k4 k5 p0 xg cg fg hw1 hix e0 hset hset2 hcn
        have hbx : Below V.heap.size V (V.alloc (.cells (tk c gn).cells.toArray 86)) := boxed _ _
        have hLB : (V.alloc (.cells (tk c gn).cells.toArray 86)).heap[V.heap.size]? = some (.cells (tk c gn).cells.toArray 86) := heap_alloc_new _ _
        have hszx : (V.alloc (.cells (tk c gn).cells.toArray 86)).heap.size = V.heap.size + 1 := World.size_alloc _ _
        generalize V.alloc (.cells (tk c gn).cells.toArray 86) = Wx at *
        obtain ⟨LB, hLBe⟩ : ∃ LB, LB = V.heap.size := ⟨_, rfl⟩
        rw [← hLBe] at hLB ⊢
        have hbd : Below V.heap.size V Wx.drew := bthen hbx (bey_drew Wx)
        have hfx := h1H.out.later hbw hbd
        have hmx : MapC Wx.drew (q + 1) n2 E2 D2 := by rw [hqH.out]; exact hfx.n
        have hokt : okN (N + 1) (tk c gn) := okN_tk hcE.out.1 hg6
        have hwf : (tk c gn).wf := okCut_wf (okN_mono hokt (by omega))
        obtain ⟨lk, hlk⟩ := keyC_ex (tk c gn) hwf
        have hs2b : s2 ≤ 100000 := by
          have i1 := h2H.out.bd
          have i2 := hvT.out
          have i3 : v * (pre.map (·.1)).length ≤ v * 6 := Nat.mul_le_mul_left v (by rw [List.length_map]; omega)
          omega
        have hvb : v ≤ 10000 := by have := hvT.out; omega
        obtain ⟨x0, hx0, hx0b⟩ : ∃ x0 : Nat, ((∃ e ∈ E2, e.1 = tk c gn ∧ x0 = e.2) ∨ (tk c gn ∉ E2.map Prod.fst ∧ x0 = 0)) ∧ x0 ≤ s2 := by
          rcases hmx.find (tk c gn) with ⟨v', E3, E4, he⟩ | hno
          · have hm9 : (tk c gn, v') ∈ E2 := by rw [he]; simp
            exact ⟨v', .inl ⟨_, hm9, rfl, rfl⟩, by have := wsum_mem hm9; rw [h2H.out.sm]; exact this⟩
          · exact ⟨0, .inr ⟨hno, rfl⟩, Nat.zero_le _⟩
        have hn2 : n2 < maxLen := by have := h2H.out.nn; unfold maxLen; omega
        obtain ⟨v0, st, es1, ck1, hent, hlk1, hlk2, hst⟩ := hmx.entry hn2 (tk c gn) hlk x0 ⟨by omega, by omega⟩ hx0
        have hbN : ∃ o, Wx.drew.heap[q + 1]? = some o := by
          obtain ⟨es, c9, h9, _⟩ := id hmx.o
          exact ⟨_, h9⟩
        obtain ⟨oN, hbN⟩ := hbN
        obtain ⟨W5, hW5⟩ : ∃ W5, W5 = setBlock Wx.drew (q + 1) (.map es1 ck1) := ⟨_, rfl⟩
        rw [← hW5] at hent
        have hW5b : W5.heap[q + 1]? = some (.map es1 ck1) := by rw [hW5]; exact setBlock_at hbN
        have hW5k : ∀ b, b ≠ q + 1 → W5.heap[b]? = Wx.drew.heap[b]? := fun b hb => by rw [hW5]; exact setBlock_ne hb
        obtain ⟨es2, ck2, hsto, hown⟩ := hst W5 ((x0 + v : Nat) : Int) ⟨by omega, by omega⟩ hW5b
        obtain ⟨W6, hW6⟩ : ∃ W6, W6 = setBlock W5 (q + 1) (.map es2 ck2) := ⟨_, rfl⟩
        rw [← hW6] at hsto
        have hW6b : W6.heap[q + 1]? = some (.map es2 ck2) := by rw [hW6]; exact setBlock_at hW5b
        have hW6k : ∀ b, b ≠ q + 1 → W6.heap[b]? = Wx.drew.heap[b]? := fun b hb => by rw [hW6]; exact (setBlock_ne hb).trans (hW5k b hb)
        have hW6s : Below w.heap.size Wx.drew W6 := by rw [hW6, hW5]; exact (setBlock_below _ (by rw [hqH.out]; omega)).trans (setBlock_below _ (by rw [hqH.out]; omega))
        have hW6z : W6.heap.size = Wx.heap.size := by rw [hW6, hW5, setBlock_size, setBlock_size]; rfl
        obtain ⟨E3, hm3, hw3, hp3, hk3⟩ := hmx.put (w' := W6) (tk c gn) hwf x0 v hlk hx0 (hown W6 hW6b)
        have hVlt := h1H.out.lt
        have hS : Wx.drew.cell? ⟨q + 1 + 1, 0, none⟩ = some (.map (some (q + 1))) ∧ Wx.drew.rangeAt LB 0 (tk c gn).cells ∧ Wx.drew.cell? ⟨CB + 1, 0, none⟩ = some (.int .i64 (v : Int)) := ⟨by rw [hqH.out]; exact cell_ofK (k := 0) hfx.nb rfl, range_of (w := Wx.drew) hLB, cell_ofK (k := 0) ((hbd.block _ h5l).trans h5H.out) rfl⟩
        have hSk : ∀ W9 : World, (∀ b, b ≠ q + 1 → W9.heap[b]? = Wx.drew.heap[b]?) → W9.cell? ⟨q + 1 + 1, 0, none⟩ = some (.map (some (q + 1))) ∧ W9.rangeAt LB 0 (tk c gn).cells ∧ W9.cell? ⟨CB + 1, 0, none⟩ = some (.int .i64 (v : Int)) := fun W9 h9 => ⟨by rw [cell_eqK (h9 _ (by omega))]; exact hS.1, fun j u hj => by rw [cell_eqK (h9 _ (by rw [hLBe, hqH.out]; omega))]; exact hS.2.1 j u hj, by rw [cell_eqK (h9 _ (by rw [hqH.out]; omega))]; exact hS.2.2⟩
        have hS1 := hSk W5 hW5k
        have hS2 := hSk W6 hW6k
        have haw := (addK (show x0 + v ≤ 200000 by omega)).2
        have haw2 : Hid (wrap64 ((s2 : Int) + (v : Int)) = (s2 : Int) + (v : Int)) := (addK (show s2 + v ≤ 200000 by omega)).1
        have hsbq : Wx.drew.heap[q + 1 + 1 + 1]? = some (.cells #[.int .i64 (s2 : Int)] 3) := by rw [hqH.out]; exact hfx.sb
        have h96 := (hW6k (q + 1 + 1 + 1) (by omega)).trans hsbq
        have d3 : W6.cell? ⟨q + 1 + 1 + 1, 0, none⟩ = some (.int .i64 (s2 : Int)) := cell_ofK (k := 0) h96 rfl
        have f3 : W6.frozen? ⟨q + 1 + 1 + 1, 0, none⟩ = false := frozen_of_row _ _ _ _ _ h96
        have d4 : W6.cell? ⟨CB + 1, 0, none⟩ = some (.int .i64 (v : Int)) := hS2.2.2
        have nx : Hid (∀ W', W' = W6.setCell ⟨q + 1 + 1 + 1, 0, none⟩ (.int .i64 ((s2 : Int) + (v : Int))) → KeepsFrom w2.heap.size V W' ∧ KeepP w.heap.size Wk.heap.size (Wk.heap.size + 1) V W' ∧ ∃ n3 E3 D3 s3, FU w W' l la lc ca cc pa pc bw nw D (fun z => left z && !z.sameKey kl) cnt1 n3 E3 D3 s3 ∧ FV (N + 1) B l E kf left c v ((pre ++ [x]).map (·.1)) E3 s3 n3 ∧ MarksK w.heap.size Ds W' ∧ W'.heap[CB]? = some (objK c) ∧ W'.heap[CB + 1]? = some (objNv v)) := fun W' e => by
          have hk9 : ∀ b, b ≠ q + 1 + 1 + 1 → W'.heap[b]? = W6.heap[b]? := fun b hb => by rw [e]; exact Below.heap_setCell _ _ _ _ hb
          have hkV : ∀ b, b < V.heap.size → b ≠ q + 1 → b ≠ q + 1 + 1 + 1 → W'.heap[b]? = V.heap[b]? := fun b hb h8 h9 => (hk9 b h9).trans ((hW6k b h8).trans (hbd.block b hb))
          have hsz' : W'.heap.size = V.heap.size + 1 := by rw [e, World.size_setCell, hW6z, hszx]
          have hbW' : Below w.heap.size Wx.drew W' := by rw [e]; exact hW6s.setCell (p := ⟨q + 1 + 1 + 1, 0, none⟩) (by show w.heap.size ≤ q + 1 + 1 + 1; rw [hqH.out]; omega) _
          have hbV : Below w.heap.size V W' := (hbd.mono (by omega)).trans hbW'
          have hsz4' := hsz4.out
          refine ⟨⟨by omega, fun b o hb h8 h9 => (hkV b (Array.getElem?_eq_some_iff.mp h8).1 (by rw [hqH.out]; omega) (by rw [hqH.out]; omega)).trans h8⟩, ⟨hbV, fun cs t z h8 => (hkV _ (Array.getElem?_eq_some_iff.mp h8).1 (by rw [hqH.out]; omega) (by rw [hqH.out]; omega)).trans h8, fun cs t z h8 => (hkV _ (Array.getElem?_eq_some_iff.mp h8).1 (by rw [hqH.out]; omega) (by rw [hqH.out]; omega)).trans h8⟩, n2 + 1, E3, D2.put lk (.lit (.int .i64 ((x0 + v : Nat) : Int))), s2 + v, ?_, ?_, ?_, ?_, ?_⟩
          · refine ⟨h1H.out.b.trans hbV, (hkV _ (by omega) (by rw [hqH.out]; omega) (by rw [hqH.out]; omega)).trans h1H.out.p, ?_, (hkV _ (by omega) (by rw [hqH.out]; omega) (by rw [hqH.out]; omega)).trans h1H.out.nb, ?_, ranges_keep h1H.out.rg (hkV _ (by omega) (by rw [hqH.out]; omega) (by rw [hqH.out]; omega)) (hkV _ (by omega) (by rw [hqH.out]; omega) (by rw [hqH.out]; omega))⟩
            · rw [← hqH.out]
              exact hm3.kept (hk9 _ (by omega))
            · rw [← hqH.out, e, setCell_eq_setRow W6 (q + 1 + 1 + 1) 0 _ _ _ _ h96, setRow_heap W6 (q + 1 + 1 + 1) _ _ _ _ h96, Int.natCast_add]
              rfl
          · rw [List.map_append]
            refine h2H.out.put hcE.out.2 (y := x.1) (by rw [← hgnH.out]; exact hokt) (by rw [← hgnH.out]; exact hw3) (by rw [← hgnH.out]; exact hk3) fun e9 he9 => ?_
            have i1 := hcE.out.2
            rcases hp3 e9 he9 with i2 | i2
            · exact (h2H.out.ok e9 i2).2
            · omega
          · refine h3H.out.keep fun D0 hD0 => hkV D0 (h3H.out.lt hD0) (fun e9 => ?_) (fun e9 => ?_)
            · obtain ⟨es9, c9, i1, _⟩ := id h1H.out.n.o
              have i2 := (h3H.out.at_ D0 hD0).2
              rw [e9, hqH.out, i1] at i2
              cases i2
            · have i2 := (h3H.out.at_ D0 hD0).2
              rw [e9, hqH.out, h1H.out.sb] at i2
              cases i2
          · exact (hkV _ (by omega) (by rw [hqH.out]; omega) (by rw [hqH.out]; omega)).trans h4H.out
          · exact (hkV _ h5l (by rw [hqH.out]; omega) (by rw [hqH.out]; omega)).trans h5H.out
        clear hm3 hw3 hp3 hk3 hown hst hSk hW6s hW6k hW5k hfx hbx hszx hbd hW5 hW6 hLBe h96 hsbq hW6z hW6b
        refine wpR_held (fun w' => w'.cell? ⟨q + 1 + 1, 0, none⟩ = some (.map (some (q + 1))) ∧ w'.rangeAt LB 0 (tk c gn).cells ∧ w'.cell? ⟨CB + 1, 0, none⟩ = some (.int .i64 (v : Int))) (by kernel_rfl) (by kernel_rfl) (by rintro ⟨_, _, h⟩; exact h) ?_
        refine reg_load1 (i := 0) rfl (by kernel_rfl) (by kernel_rfl) (by kernel_rfl) (fun _ _ _ _ h => h) rfl 99 _ rfl ⟨q + 1 + 1, 0, none⟩ rfl _ Try.underlying99 rfl (.map (some (q + 1))) (fun w' h' => h'.1) hS ?_
        simp only [Act.put, List.getElem_toArray, List.getElem_cons_succ, List.getElem_cons_zero, List.setIfInBounds_toArray, List.set_cons_zero, List.set_cons_succ]
        refine reg_load (i := 1) rfl (by kernel_rfl) (by kernel_rfl) (by kernel_rfl) (fun _ _ _ _ h => h) rfl 86 _ rfl LB 0 rfl (tk c gn).cells _ (fun w' h' => h'.2.1) Try.underlying86 rfl (by kernel_rfl) hS ?_
        simp only [Act.put, List.getElem_toArray, List.getElem_cons_succ, List.getElem_cons_zero, List.setIfInBounds_toArray, List.set_cons_zero, List.set_cons_succ]
        refine reg_load1 (i := 3) rfl (by kernel_rfl) (by kernel_rfl) (by kernel_rfl) (fun _ _ _ _ h => h) rfl 3 _ rfl ⟨CB + 1, 0, none⟩ rfl _ Try.underlying3 rfl (.int .i64 (v : Int)) (fun w' h' => h'.2.2) hS ?_
        simp only [Act.put, List.getElem_toArray, List.getElem_cons_succ, List.getElem_cons_zero, List.setIfInBounds_toArray, List.set_cons_zero, List.set_cons_succ]
        refine wpAnyH_ready (rs := [2, 5]) (by kernel_rfl) (by simp) (AllReadyH.cons rfl ?pa (AllReadyH.cons rfl ?pb AllReadyH.nil))
        case pa =>
          refine arm_value rfl (.int .i64 (x0 : Int)) (run_lookC _ rfl rfl rfl (hlk2 _ rfl)) hS ?_
          simp only [Act.put, List.getElem_toArray, List.getElem_cons_succ, List.getElem_cons_zero, List.setIfInBounds_toArray, List.set_cons_zero, List.set_cons_succ]
          refine reg_move (i := 4) rfl (by kernel_rfl) (by kernel_rfl) (by kernel_rfl) (fun _ _ _ _ h => h) rfl (.int .i64 ((x0 + v : Nat) : Int)) (fun wx => by simp [execOp, go_sem, haw]) hS ?_
          simp only [Act.put, List.getElem_toArray, List.getElem_cons_succ, List.getElem_cons_zero, List.setIfInBounds_toArray, List.set_cons_zero, List.set_cons_succ]
          refine wpAnyH_ready (rs := [5]) (by kernel_rfl) (by simp) (AllReadyH.cons rfl ?_ AllReadyH.nil)
          refine arm_turn rfl _ _ (run_entC _ rfl rfl rfl hent) hS1 ?_
          simp only [Act.put, List.getElem_toArray, List.getElem_cons_succ, List.getElem_cons_zero, List.setIfInBounds_toArray, List.set_cons_zero, List.set_cons_succ]
          refine reg_move (i := 6) rfl (by kernel_rfl) (by kernel_rfl) (by kernel_rfl) (fun _ _ _ _ h => h) rfl (goInt st) (fun _ => by kernel_rfl) hS1 ?_
          simp only [Act.put, List.getElem_toArray, List.getElem_cons_succ, List.getElem_cons_zero, List.setIfInBounds_toArray, List.set_cons_zero, List.set_cons_succ]
          refine wpAnyH_ready (rs := [7]) (by kernel_rfl) (by simp) (AllReadyH.cons rfl ?_ AllReadyH.nil)
          refine arm_skip rfl _ (run_stC _ rfl rfl rfl rfl hsto) hS2 ?_
          simp only [Act.put, List.getElem_toArray, List.getElem_cons_succ, List.getElem_cons_zero, List.setIfInBounds_toArray, List.set_cons_zero, List.set_cons_succ]
          refine wpAnyH_done (by kernel_rfl) ?_ _
          gi_wp2
          exact nx.out _ rfl
        case pb =>
          refine arm_turn rfl _ _ (run_entC _ rfl rfl rfl hent) hS1 ?_
          simp only [Act.put, List.getElem_toArray, List.getElem_cons_succ, List.getElem_cons_zero, List.setIfInBounds_toArray, List.set_cons_zero, List.set_cons_succ]
          refine reg_move (i := 6) rfl (by kernel_rfl) (by kernel_rfl) (by kernel_rfl) (fun _ _ _ _ h => h) rfl (goInt st) (fun _ => by kernel_rfl) hS1 ?_
          simp only [Act.put, List.getElem_toArray, List.getElem_cons_succ, List.getElem_cons_zero, List.setIfInBounds_toArray, List.set_cons_zero, List.set_cons_succ]
          refine wpAnyH_ready (rs := [2]) (by kernel_rfl) (by simp) (AllReadyH.cons rfl ?_ AllReadyH.nil)
          refine arm_value rfl (.int .i64 (x0 : Int)) (run_lookC _ rfl rfl rfl (hlk1 _ hW5b)) hS1 ?_
          simp only [Act.put, List.getElem_toArray, List.getElem_cons_succ, List.getElem_cons_zero, List.setIfInBounds_toArray, List.set_cons_zero, List.set_cons_succ]
          refine reg_move (i := 4) rfl (by kernel_rfl) (by kernel_rfl) (by kernel_rfl) (fun _ _ _ _ h => h) rfl (.int .i64 ((x0 + v : Nat) : Int)) (fun wx => by simp [execOp, go_sem, haw]) hS1 ?_
          simp only [Act.put, List.getElem_toArray, List.getElem_cons_succ, List.getElem_cons_zero, List.setIfInBounds_toArray, List.set_cons_zero, List.set_cons_succ]
          refine wpAnyH_ready (rs := [7]) (by kernel_rfl) (by simp) (AllReadyH.cons rfl ?_ AllReadyH.nil)
          refine arm_skip rfl _ (run_stC _ rfl rfl rfl rfl hsto) hS2 ?_
          simp only [Act.put, List.getElem_toArray, List.getElem_cons_succ, List.getElem_cons_zero, List.setIfInBounds_toArray, List.set_cons_zero, List.set_cons_succ]
          refine wpAnyH_done (by kernel_rfl) ?_ _
          gi_wp2
          exact nx.out _ rfl
      case done =>
        rintro D0 ys V hD0 rfl ⟨n2, E2, D2, s2, h1, h2, h3, h4, h5⟩ hK
        rw [subK_val] at h2
        have hfw := h2.done hrH.out hcok hgm.out
        have hmm2 := h3.more (D := D0) (by omega) (fun e => by have := hD2 D0 e; omega) hK
        have hfin : Hid (FU w V l la lc ca cc pa pc bw nw D (fun z => left z && !z.sameKey kl) cnt1 n2 E2 D2 s2 ∧ FW (N + 1) B l E kf (fun z => left z && !z.sameKey kl) E2 s2 n2 ∧ MarksK w.heap.size (D0 :: Ds) V) := ⟨h1, hfw, hmm2⟩
        have hmeas : V.rangeLeft bw (w.heap.size + 1 + 1 + 1 + 1) < W.rangeLeft bw (w.heap.size + 1 + 1 + 1 + 1) := by
          rw [h1.rg.left_eq]
          have h9 := hms4.out w1 rfl rfl
          rw [hrgs.out.left_eq] at h9
          exact h9
        clear h1 h2 h3 h4 h5 hK hfw hmm2
        go_wp2
        exact ⟨⟨_, _, _, _, _, _, D0 :: Ds, _, _, _, _, _, _, _, _, _, _, _, _, _, _, _, _, _, _, _, _, _, _, _, _, _, _, _, _, _, _, _, _, _, _, hfin, rfl⟩, hmeas⟩
      case stop =>
        rintro D0 cd pre V _ _ h _
        exact h.elim
end Go.Proofs.Ytkadlopcomjonaa.pg
/- How many orders there are: package canon's Count. -/
namespace Go.Proofs.Ytkadlopcomjonaa.pg
open Go.ChangeShapes Go.WideShapes Go.ChangeAt Go.RowKit Go.Shelf
open Go.Maps (Keyed IsMap)
open Go.ChangeMaps Go.MapKept
set_option linter.unusedVariables false
set_option linter.unusedSimpArgs false
set_option maxRecDepth 100000
theorem zeroK_wf : zeroK.wf := by
  refine ⟨⟨?_, ?_⟩, ⟨?_, ?_⟩, ⟨?_, ?_⟩, ⟨?_, ?_⟩, ⟨?_, ?_⟩, ⟨?_, ?_⟩⟩ <;> decide
theorem okN_zero : okN 0 zeroK := fun a ha => by rw [of_zero ha]; exact ⟨by decide, by decide⟩
/-- The map with which it begins. -/
theorem map_one (V : World) : ∃ (w3 : World) (E : List (Ck × Nat)) (D : DataW Unit), (Instr.mapUpdate 99 (.map (some V.heap.size)) zeroK.val (.int .i64 1)).run Try.prog (V.alloc (.map #[] 0)) = .ok () w3 ∧ MapC w3 V.heap.size 1 E D ∧ (∀ g, wsum g E = g zeroK) ∧ (∀ e ∈ E, okN 0 e.1 ∧ 1 ≤ e.2) ∧ Below V.heap.size V w3 := by
  have h := mapC_new V
  obtain ⟨l, hl⟩ := keyC_ex zeroK zeroK_wf
  obtain ⟨w', hr, ho, hg⟩ := h.o.update lawC Try.underlying99 (by unfold maxLen; omega) hl (plainElem_int Try.underlying3 (wf_ofK (z := 1) ⟨by decide, by decide⟩))
  obtain ⟨E, h1, h2, h3, h4⟩ := h.put (w' := w') zeroK zeroK_wf 0 1 hl (.inr ⟨by simp, rfl⟩) ho
  refine ⟨w', E, _, hr, h1, fun g => by rw [h2, wsum_nil]; omega, fun e he => ⟨?_, ?_⟩, ?_⟩
  · rcases h4 e he with q | ⟨_, q, _⟩
    · rw [q]; exact okN_zero
    · cases q
  · rcases h3 e he with q | q
    · cases q
    · omega
  · exact (boxed V (.map #[] 0)).trans ⟨hg.os, hg.tape, hg.output, hg.size, fun i hi => hg.block i (by rw [World.size_alloc]; omega) (by simp; omega)⟩
/-- How many orders there are. -/
def allW (B : Nat → Nat → Bool) (l : List Ev) : Nat := pw B l l.length zeroK
theorem pw_empty {B : Nat → Nat → Bool} {l : List Ev} (hB : Tells (dpf l) B) (hrt : ∀ x ∈ l, rightP x) (m : Nat) : pw B l m zeroK = preS B l.length m (fun _ => false) := by
  rw [← pre_same hB (ord_ok hrt) (fun k hk => gof_lt hrt hk) m (DownS.nil B l.length)]
  unfold pw
  refine preC_congr m fun a ha => ?_
  have := (FO.start B l).cf a ha
  rw [memS_nil] at this
  exact this
theorem pw_le {B : Nat → Nat → Bool} {l : List Ev} (hB : Tells (dpf l) B) (hrt : ∀ x ∈ l, rightP x) {k : Nat} (hk : k ≤ l.length) : pw B l k zeroK ≤ allW B l := by
  unfold allW
  rw [pw_empty hB hrt, pw_empty hB hrt]
  refine preS_le hk ?_
  rw [cnt_cut (m := 0) (n := l.length) (Nat.zero_le _) fun k _ _ => rfl]
  show 0 + _ ≤ _
  omega
/-- How all lies while the cuts grow. -/
structure CI (w1 W : World) (l : List Ev) (la : Option Addr) (lc : Nat) (ca : Option Addr) (cc : Nat) (pa : Nat → Option Addr) (pc : Nat → Nat) (B : Nat → Nat → Bool) (k bw nw : Nat) (E : List (Ck × Nat)) (D : DataW Unit) (s : Nat) : Prop where
  b : Below w1.heap.size w1 W
  p : W.heap[w1.heap.size]? = some (objPas l la lc ca cc pa pc)
  m : MapC W bw nw E D
  ws : ∀ m, wsum (pw B l m) E = pw B l (k + m) zeroK
  sm : s = wsum (fun _ => 1) E
  ok : ∀ e ∈ E, okN k e.1 ∧ 1 ≤ e.2
theorem CI.is {w1 W : World} {l : List Ev} {la : Option Addr} {lc : Nat} {ca : Option Addr} {cc : Nat} {pa : Nat → Option Addr} {pc : Nat → Nat} {B : Nat → Nat → Bool} {k bw nw : Nat} {E : List (Ck × Nat)} {D : DataW Unit} {s : Nat} (h : CI w1 W l la lc ca cc pa pc B k bw nw E D s) : s = pw B l k zeroK := by
  have := h.ws 0
  rw [Nat.add_zero] at this
  rw [← this, h.sm]
  rfl
set_option maxHeartbeats 1000000 in
theorem count_bad (l : List Ev) (la : Option Addr) (lc : Nat) (most : Int) (w : World) (hl : Rows w 26 la lc (l.map Ev.cells)) (c : Int) (hc : checkP l c) (h0 : c = 2 ∨ c = 7) :
    Calls Try.prog 29 #[.slice la l.length lc, .int .i64 most] w fun e w' => e = .returned (.tuple #[.int .i64 0, .int .i64 c]) ∧ Below w.heap.size w w' := by
  have c1 := klook_bad l la lc w hl c hc h0
  have d : (c != 0) = true := by rcases h0 with rfl | rfl <;> rfl
  have hzK : Hid (∀ w, (zeroValue 82).run Try.prog w = .ok (.agg #[.slice none 0 0, .slice none 0 0, .slice none 0 0, .slice none 0 0, .slice none 0 0, .slice none 0 0, .slice none 0 0, .slice none 0 0]) w) := fun w => by kernel_rfl
  clear hl hc h0
  go_enter Try.func29, Try.ntmps29
  go_wp2_with (first
    | (go_at_call 44; (with_reducible refine c1.mono ?_); rintro e w1 ⟨rfl, hb1⟩; (have hbH : Hid (Below w.heap.size w w1) := hb1); clear hb1)
    | (refine wpList_alloc_big rfl 82 rfl hzK.out ?_)
    | (refine wpList_store_row rfl 82 _ _ rfl w1.heap.size _ rfl rfl _ _ (heap_alloc_new w1 _) infoPa rfl (by simp [Value.oneCell']) ?_))
  go_ret2
  exact ⟨rfl, (bthen hbH.out (boxed w1 _)).trans (below_rowK hbH.out.size)⟩
set_option maxHeartbeats 1000000 in
theorem count_arg (l : List Ev) (la : Option Addr) (lc : Nat) (most : Int) (w : World) (hl : Rows w 26 la lc (l.map Ev.cells)) (hlen : l.length ≤ 256) (hrt : ∀ x ∈ l, rightP x) (hm : ¬ (1 ≤ most ∧ most ≤ 10000)) :
    Calls Try.prog 29 #[.slice la l.length lc, .int .i64 most] w fun e w' => e = .returned (.tuple #[.int .i64 0, .int .i64 1]) ∧ Below w.heap.size w w' := by
  have c1 := klook_ok l la lc w hl hlen hrt
  have hzK : Hid (∀ w, (zeroValue 82).run Try.prog w = .ok (.agg #[.slice none 0 0, .slice none 0 0, .slice none 0 0, .slice none 0 0, .slice none 0 0, .slice none 0 0, .slice none 0 0, .slice none 0 0]) w) := fun w => by kernel_rfl
  have hm2 : most < 1 ∨ (¬ most < 1 ∧ 10000 < most) := by omega
  clear hl hrt hm
  rcases hm2 with d1 | ⟨d1, d2⟩
  all_goals
    go_enter Try.func29, Try.ntmps29
    go_wp2_with (first
      | (go_at_call 44; (with_reducible refine c1.mono ?_); rintro e w1 ⟨ca, cc, pa, pc, rfl, hp1, hb1⟩; (have hbH : Hid (Below w.heap.size w w1) := hb1); clear hb1 hp1)
      | (refine wpList_alloc_big rfl 82 rfl hzK.out ?_)
      | (refine wpList_store_row rfl 82 _ _ rfl w1.heap.size (pasV l la lc ca cc pa pc).toArray rfl rfl _ _ (heap_alloc_new w1 _) infoPa rfl (pas_one _ _ _ _ _ _ _ _) ?_))
    go_ret2
    exact ⟨rfl, (bthen hbH.out (boxed w1 _)).trans (below_rowK hbH.out.size)⟩
set_option maxHeartbeats 4000000 in
theorem count_ok (l : List Ev) (la : Option Addr) (lc : Nat) (most : Int) (w : World) (hl : Rows w 26 la lc (l.map Ev.cells)) (hlen : l.length ≤ 256) (hrt : ∀ x ∈ l, rightP x) {B : Nat → Nat → Bool} (hB : Tells (dpf l) B) (hm1 : 1 ≤ most) (hm2 : most ≤ 10000) :
    Calls Try.prog 29 #[.slice la l.length lc, .int .i64 most] w fun e w' => ∃ r, e = .returned (.tuple #[.int .i64 r, .int .i64 0]) ∧ r = min (allW B l : Int) most ∧ Below w.heap.size w w' := by
  have c1 := klook_ok l la lc w hl hlen hrt
  have hmm := @run_makeMap Try.prog
  have hzK : Hid (∀ w, (zeroValue 82).run Try.prog w = .ok (.agg #[.slice none 0 0, .slice none 0 0, .slice none 0 0, .slice none 0 0, .slice none 0 0, .slice none 0 0, .slice none 0 0, .slice none 0 0]) w) := fun w => by kernel_rfl
  have huP : Hid (Try.prog.underlying 82 = _) := Try.underlying82
  have hlenI : (l.length : Int) ≤ 256 := by omega
  have hlH : Hid (Rows w 26 la lc (l.map Ev.cells)) := hl
  have hrH : Hid (∀ x ∈ l, rightP x) := hrt
  have hBH : Hid (Tells (dpf l) B) := hB
  have d1 : ¬ most < 1 := by omega
  have d2 : ¬ 10000 < most := by omega
  clear hl hrt hB
  go_enter Try.func29, Try.ntmps29
  go_upto_region 6 with (first
    | (go_at_call 44; (with_reducible refine c1.mono ?_); rintro e w1 ⟨ca, cc, pa, pc, rfl, hp1, hb1⟩; (have hp1H : Hid (Pst w1 w.heap.size l ca cc pa pc) := hp1); (have hb1H : Hid (Below w.heap.size w w1) := hb1); clear hp1 hb1)
    | (refine wpList_alloc_big rfl 82 rfl hzK.out ?_)
    | (refine wpList_store_row rfl 82 _ _ rfl w1.heap.size (pasV l la lc ca cc pa pc).toArray rfl rfl _ _ (heap_alloc_new w1 _) infoPa rfl (pas_one _ _ _ _ _ _ _ _) ?_))
  have hV0 : Hid (((w1.alloc objPz).setRow w1.heap.size (pasV l la lc ca cc pa pc).toArray).heap[w1.heap.size]? = some (objPas l la lc ca cc pa pc)) := setRow_heap _ _ _ _ _ _ (heap_alloc_new w1 _)
  have hVb : Hid (Below w1.heap.size w1 ((w1.alloc objPz).setRow w1.heap.size (pasV l la lc ca cc pa pc).toArray)) := (boxed w1 _).trans (below_rowK (Nat.le_refl _))
  generalize (w1.alloc objPz).setRow w1.heap.size (pasV l la lc ca cc pa pc).toArray = V at *
  obtain ⟨w3, E0, D0, hup, hM0, hw0, hok0, hb3⟩ := map_one V
  have hci : Hid (CI w1 w3 l la lc ca cc pa pc B 0 V.heap.size 1 E0 D0 1) := ⟨bthen hVb.out hb3, (hb3.block _ (Array.getElem?_eq_some_iff.mp hV0.out).1).trans hV0.out, hM0, fun m => by rw [hw0, Nat.zero_add], by rw [hw0], hok0⟩
  clear hM0 hw0 hok0 hb3 hV0 hVb c1
  go_upto_region 8 with fail
  generalize V.heap.size = b0 at *
  clear hup hmm
  go_loopw [8, 9, 31] (fun m u kk wr => ∃ (k bw nw s : Nat) (E : List (Ck × Nat)) (D : DataW Unit), k ≤ l.length ∧ m = .map (some bw) ∧ u = .int .i64 (s : Int) ∧ kk = .int .i64 (k : Int) ∧ Hid (CI w1 wr l la lc ca cc pa pc B k bw nw E D s)) (fun _ _ kk _ => l.length - (intOf kk).toNat)
  case atStart => exact ⟨0, b0, 1, 1, E0, D0, Nat.zero_le _, rfl, rfl, rfl, hci⟩
  case round =>
    clear hci
    obtain ⟨k, bw, nw, s, E, D, hk, rfl, rfl, rfl, hs⟩ := hrel
    by_cases hlt : k < l.length
    · have hkI : (k : Int) < l.length := by omega
      by_cases hsm : most ≤ (s : Int)
      · have hfin : Hid (min (s : Int) most = min (allW B l : Int) most) := by
          have h1 := hs.out.is
          have h2 := pw_le hBH.out hrH.out hk
          show _ = _
          rw [← h1] at h2
          omega
        have hbe : Hid (Below w.heap.size w wr) := bthen hb1H.out hs.out.b
        clear hs
        go_wp2_with fail
        go_ret2
        exact ⟨_, rfl, hfin.out, hbe.out⟩
      · have hst : wsum (fun _ => 1) E ≤ 10000 := by rw [← hs.out.sm]; omega
        have cF := further_any l la lc ca cc pa pc w.heap.size bw nw k E D wr ((hlH.out.later hb1H.out).later hs.out.b) (hp1H.out.later hs.out.b) hlen hrH.out hBH.out hs.out.m hs.out.ok (by omega) hst
        have hp := hs.out.p
        have hsH : Hid (CI w1 wr l la lc ca cc pa pc B k bw nw E D s) := hs
        clear hs hst
        go_wp2_with (first
          | (refine wpList_load_row rfl 82 _ rfl w1.heap.size rfl _ _ _ _ hp huP.out rfl infoPa ?_)
          | (go_at_call 56; (refine cF.mono ?_); rintro e w4 ⟨n', E', D', s', rfl, hm4, hw4, hs4, ho4, hb4⟩; (have hci4 : Hid (CI w1 w4 l la lc ca cc pa pc B (k + 1) (wr.heap.size + 1) n' E' D' s') := ⟨bthen hsH.out.b hb4, (hb4.block _ (Array.getElem?_eq_some_iff.mp hsH.out.p).1).trans hsH.out.p, hm4, fun m => (by rw [hw4, hsH.out.ws, show k + (m + 1) = k + 1 + m by omega]), hs4, ho4⟩); clear hm4 hw4 hs4 ho4 hb4))
        go_roundw
        case rel => exact ⟨k + 1, wr.heap.size + 1, n', s', E', D', by omega, rfl, rfl, by go_num, hci4⟩
        case measure => simp [intOf]; omega
    · have hkI : ¬ ((k : Int) < l.length) := by omega
      have hke : k = l.length := by omega
      have hfin : Hid (min (s : Int) most = min (allW B l : Int) most) := by
        have h1 := hs.out.is
        rw [hke] at h1
        show _ = _
        rw [h1]
        rfl
      have hbe : Hid (Below w.heap.size w wr) := bthen hb1H.out hs.out.b
      clear hs hke
      go_wp2_with fail
      go_ret2
      exact ⟨_, rfl, hfin.out, hbe.out⟩
end Go.Proofs.Ytkadlopcomjonaa.pg
