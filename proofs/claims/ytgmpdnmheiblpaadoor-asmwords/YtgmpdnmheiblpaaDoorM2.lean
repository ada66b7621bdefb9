/- A state's numbers in their order, and their text: which state it is of can be told from it. -/
import Derived.Test.YtgmpdnmheiblpaaDoorM1
import Derived.Lib.Join
import Derived.Lib.ItoaLen
import Derived.Test.YtgmpdnmheiblpaaDoorProg
import Derived.WalkSpells
namespace Go.Proofs.YtgmpdnmheiblpaaDoor.pg
open Go.ChangeShapes Go.WideShapes Go.ChangeAt Go.RowKit
set_option linter.unusedVariables false
def b01 (b : Bool) : Int := if b then 1 else 0
theorem b01_inj {a b : Bool} (h : b01 a = b01 b) : a = b := by cases a <;> cases b <;> simp_all [b01]
theorem b01_I (b : Bool) : I64 (b01 b) := by cases b <;> (unfold b01 I64; simp)
def Chc.five (c : Chc) : List Int := [c.ln, b01 c.shut, c.off, c.frm, c.val]
def Chc.nums (c : Chc) : List Int := c.buf ++ c.five
def Gr.four (g : Gr) : List Int := [g.st, g.fn, g.pc, g.why]
def Gr.nums (g : Gr) : List Int := g.four ++ g.rg
def Sts.nums (s : Sts) : List Int := s.vars ++ s.own ++ (s.ch.map Chc.nums).flatten ++ (s.gos.map Gr.nums).flatten ++ [s.cnt]
theorem Chc.nums_len {c : Chc} (h : c.wf) : c.nums.length = 9 := by simp [Chc.nums, Chc.five, h.2.2.2.2.1]
theorem Gr.nums_len {g : Gr} (h : g.wf) : g.nums.length = 12 := by simp [Gr.nums, Gr.four, h.2.2.2.2.1]
theorem flat_lenI {α : Type} (C : α → List Int) (k : Nat) : ∀ (l : List α), (∀ x ∈ l, (C x).length = k) → (l.map C).flatten.length = l.length * k
  | [], _ => by simp
  | x :: t, h => by
    rw [List.map_cons, List.flatten_cons, List.length_append, h x (by simp), flat_lenI C k t fun y hy => h y (by simp [hy]), List.length_cons, Nat.add_mul]
    omega
theorem Sts.nums_len {s : Sts} (h : s.wf) : s.nums.length = 121 := by
  simp only [Sts.nums, List.length_append, h.lv, h.lo, flat_lenI Chc.nums 9 s.ch fun c hc => Chc.nums_len (h.ac c hc), flat_lenI Gr.nums 12 s.gos fun g hg => Gr.nums_len (h.ag g hg), h.lc, h.lg, List.length_cons, List.length_nil]
theorem Chc.nums_I {c : Chc} (h : c.wf) : AllI c.nums := by
  intro x hx
  unfold Chc.nums Chc.five at hx
  simp only [List.mem_append, List.mem_cons, List.not_mem_nil, or_false] at hx
  rcases hx with hx | rfl | rfl | rfl | rfl | rfl
  · exact h.2.2.2.2.2 x hx
  · exact h.1
  · exact b01_I _
  · exact h.2.1
  · exact h.2.2.1
  · exact h.2.2.2.1
theorem Gr.nums_I {g : Gr} (h : g.wf) : AllI g.nums := by
  intro x hx
  unfold Gr.nums Gr.four at hx
  simp only [List.mem_append, List.mem_cons, List.not_mem_nil, or_false] at hx
  rcases hx with (rfl | rfl | rfl | rfl) | hx
  · exact h.1
  · exact h.2.1
  · exact h.2.2.1
  · exact h.2.2.2.1
  · exact h.2.2.2.2.2 x hx
theorem Sts.nums_I {s : Sts} (h : s.wf) : AllI s.nums := by
  intro x hx
  unfold Sts.nums at hx
  simp only [List.mem_append, List.mem_flatten, List.mem_map, List.mem_singleton] at hx
  rcases hx with (((hx | hx) | ⟨l, ⟨c, hc, rfl⟩, hx⟩) | ⟨l, ⟨g, hg, rfl⟩, hx⟩) | rfl
  · exact h.av x hx
  · exact h.ao x hx
  · exact Chc.nums_I (h.ac c hc) x hx
  · exact Gr.nums_I (h.ag g hg) x hx
  · exact h.cn
theorem Chc.nums_inj {a b : Chc} (ha : a.wf) (hb : b.wf) (h : a.nums = b.nums) : a = b := by
  obtain ⟨h1, h2⟩ := List.append_inj h (by rw [ha.2.2.2.2.1, hb.2.2.2.2.1])
  cases a; cases b
  simp only [Chc.five, List.cons.injEq] at h1 h2
  obtain ⟨e1, e2, e3, e4, e5, _⟩ := h2
  rw [h1, e1, b01_inj e2, e3, e4, e5]
theorem Gr.nums_inj {a b : Gr} (h : a.nums = b.nums) : a = b := by
  obtain ⟨h1, h2⟩ := List.append_inj h rfl
  cases a; cases b
  simp only [Gr.four, List.cons.injEq] at h1 h2
  obtain ⟨e1, e2, e3, e4, _⟩ := h1
  rw [h2, e1, e2, e3, e4]
theorem flat_injI {α : Type} (C : α → List Int) (Q : α → Prop) (k : Nat) (hk : ∀ x, Q x → (C x).length = k) (hi : ∀ x y, Q x → Q y → C x = C y → x = y) : ∀ (l m : List α), (∀ x ∈ l, Q x) → (∀ x ∈ m, Q x) → l.length = m.length → (l.map C).flatten = (m.map C).flatten → l = m
  | [], [], _, _, _, _ => rfl
  | [], _ :: _, _, _, h, _ => by simp at h
  | _ :: _, [], _, _, h, _ => by simp at h
  | x :: l, y :: m, hl, hm, h, e => by
    rw [List.map_cons, List.flatten_cons, List.map_cons, List.flatten_cons] at e
    obtain ⟨h1, h2⟩ := List.append_inj e (by rw [hk x (hl x (by simp)), hk y (hm y (by simp))])
    rw [hi x y (hl x (by simp)) (hm y (by simp)) h1, flat_injI C Q k hk hi l m (fun z hz => hl z (by simp [hz])) (fun z hz => hm z (by simp [hz])) (by simpa using h) h2]
theorem Sts.nums_inj {s t : Sts} (hs : s.wf) (ht : t.wf) (h : s.nums = t.nums) : s = t := by
  unfold Sts.nums at h
  obtain ⟨h, e5⟩ := List.append_inj' h rfl
  have ls : (s.gos.map Gr.nums).flatten.length = 72 := by rw [flat_lenI Gr.nums 12 s.gos fun g hg => Gr.nums_len (hs.ag g hg), hs.lg]
  have lt : (t.gos.map Gr.nums).flatten.length = 72 := by rw [flat_lenI Gr.nums 12 t.gos fun g hg => Gr.nums_len (ht.ag g hg), ht.lg]
  obtain ⟨h, e4⟩ := List.append_inj' h (by rw [ls, lt])
  have ks : (s.ch.map Chc.nums).flatten.length = 36 := by rw [flat_lenI Chc.nums 9 s.ch fun c hc => Chc.nums_len (hs.ac c hc), hs.lc]
  have kt : (t.ch.map Chc.nums).flatten.length = 36 := by rw [flat_lenI Chc.nums 9 t.ch fun c hc => Chc.nums_len (ht.ac c hc), ht.lc]
  obtain ⟨h, e3⟩ := List.append_inj' h (by rw [ks, kt])
  obtain ⟨e1, e2⟩ := List.append_inj h (by rw [hs.lv, ht.lv])
  have f4 := flat_injI Gr.nums Gr.wf 12 (fun x h => Gr.nums_len h) (fun x y _ _ h => Gr.nums_inj h) _ _ hs.ag ht.ag (by rw [hs.lg, ht.lg]) e4
  have f3 := flat_injI Chc.nums Chc.wf 9 (fun x h => Chc.nums_len h) (fun x y h1 h2 h => Chc.nums_inj h1 h2 h) _ _ hs.ac ht.ac (by rw [hs.lc, ht.lc]) e3
  cases s; cases t
  simp only [List.cons.injEq, and_true] at e5
  simp only at e1 e2 f3 f4
  rw [e1, e2, f3, f4, e5]
/-- Numbers, a blank ahead of each. -/
def spB (l : List Int) : List UInt8 := l.flatMap fun n => 32 :: Lib.itoa n
theorem spB_app (l m : List Int) : spB (l ++ m) = spB l ++ spB m := by simp [spB]
theorem spB_one (n : Int) : spB [n] = 32 :: Lib.itoa n := by simp [spB]
theorem not32 : ¬ isN 32 := by unfold isN; decide
theorem spB_inj : ∀ {l m : List Int}, spB l = spB m → l = m
  | [], [], _ => rfl
  | [], y :: m, h => by simp [spB] at h
  | x :: l, [], h => by simp [spB] at h
  | x :: l, y :: m, h => by
    have h2 : spB (x :: l) ++ [32] = spB (y :: m) ++ [32] := by rw [h]
    have e : ∀ (z : Int) (k : List Int), ∃ r, spB (z :: k) ++ [32] = 32 :: (Lib.itoa z ++ 32 :: r) ∧ spB k ++ [32] = 32 :: r := fun z k => by
      cases k with
      | nil => exact ⟨[], by simp [spB], by simp [spB]⟩
      | cons a k => exact ⟨Lib.itoa a ++ spB k ++ [32], by simp [spB], by simp [spB]⟩
    obtain ⟨r, e1, e2⟩ := e x l
    obtain ⟨q, f1, f2⟩ := e y m
    rw [e1, f1] at h2
    obtain ⟨g1, _, g3⟩ := cut_num not32 not32 (itoa_N x) (itoa_N y) (List.cons.inj h2).2
    have h3 : spB l ++ [32] = spB m ++ [32] := by rw [e2, f2, g3]
    rw [itoa_inj g1, spB_inj (List.append_cancel_right h3)]
/-- The text of some numbers. -/
def txB (l : List Int) : List UInt8 := (spB l).drop 1
theorem txB_inj {l m : List Int} (hl : l ≠ []) (hm : m ≠ []) (h : txB l = txB m) : l = m := by
  cases l with
  | nil => exact absurd rfl hl
  | cons x l =>
    cases m with
    | nil => exact absurd rfl hm
    | cons y m =>
      refine spB_inj ?_
      have e : ∀ (z : Int) (k : List Int), spB (z :: k) = 32 :: txB (z :: k) := fun z k => by simp [txB, spB]
      rw [e, e, h]
theorem join_tx : ∀ (l : List Int), l ≠ [] → Lib.join (l.map Lib.itoa) [32] = txB l
  | [], h => absurd rfl h
  | [x], _ => by rw [List.map_cons, List.map_nil, Lib.join_one]; simp [txB, spB]
  | x :: y :: l, _ => by
    have ih := join_tx (y :: l) (by simp)
    have e : spB (y :: l) = 32 :: txB (y :: l) := by simp [txB, spB]
    have e2 : txB (x :: y :: l) = Lib.itoa x ++ spB (y :: l) := by simp [txB, spB]
    rw [e2, e, ← ih]
    simp [Lib.join]
theorem spB_len : ∀ (l : List Int), AllI l → (spB l).length ≤ 22 * l.length
  | [], _ => by simp [spB]
  | n :: l, h => by
    have h1 := Lib.itoa_length_le n (h n (by simp)).1 (h n (by simp)).2
    have ih := spB_len l fun x hx => h x (by simp [hx])
    have : spB (n :: l) = 32 :: Lib.itoa n ++ spB l := by simp [spB]
    rw [this, List.length_append, List.length_cons, List.length_cons]
    omega
theorem text_iff {s t : Sts} (hs : s.wf) (ht : t.wf) : txB s.nums = txB t.nums ↔ s = t := by
  constructor
  · intro h
    refine Sts.nums_inj hs ht (txB_inj ?_ ?_ h)
    · intro e; have := Sts.nums_len hs; rw [e] at this; simp at this
    · intro e; have := Sts.nums_len ht; rw [e] at this; simp at this
  · intro h; rw [h]
end Go.Proofs.YtgmpdnmheiblpaaDoor.pg
/- A program that came in, opened: where its lists lie, and what lies there. -/
namespace Go.Proofs.YtgmpdnmheiblpaaDoor.pg
open Go.ChangeShapes Go.WideShapes Go.ChangeAt Go.RowKit
set_option linter.unusedVariables false
section
variable {H : Type} {enc : TypeId × Value → H} {P : Program} {w : World} {base : Nat} {spare : Nat → Bool} {held : Bool}
theorem add_none (b off j : Nat) : (⟨b, off, none⟩ : Addr).add j = ⟨b, off + j, none⟩ := by
  by_cases hj : j = 0
  · subst hj; rfl
  · simp [Addr.add, hj]
/-- A list, opened: its elements' cells are as the elements' own readings tell. -/
theorem rows_in {α : Type} (dflt : α) {t e : TypeId} {k fuel : Nat} {a : Option Addr} {len cap : Nat} {x : DataW H × List MemPlace} (C : α → List Value) (Q : α → Prop) (ht : P.underlying t = some (.slice e)) (hk : P.cellsOf e = k) (hk0 : 0 < k)
    (hel : ∀ n cs y, cs.length = k → DataW.trod enc P w base spare held n e cs = some y → ∃ x, cs = C x ∧ Q x)
    (h : DataW.trod enc P w base spare held fuel t [.slice a len cap] = some x) : ∃ l : List α, l.length = len ∧ Rows w k a cap (l.map C) ∧ ∀ x ∈ l, Q x := by
  rcases Go.Deep.open_slice ht h with ⟨hcs, _⟩ | ⟨ad, len', cap', m, n, D, Pl, hcs, _, hl, hm, hmm, _, hx⟩
  · simp only [List.cons.injEq, Value.slice.injEq, and_true] at hcs
    obtain ⟨rfl, rfl, rfl⟩ := hcs
    exact ⟨[], rfl, ⟨by simp, by simp, by simp, .inl rfl⟩, by simp⟩
  · simp only [List.cons.injEq, Value.slice.injEq, and_true] at hcs
    obtain ⟨rfl, rfl, rfl⟩ := hcs
    unfold maxLen at hm
    have hlm : len ≤ m := by rw [hmm]; split <;> omega
    have each : ∀ i, i < len → ∃ y : α, Q y ∧ (C y).length = k ∧ ∀ j u, (C y)[j]? = some u → w.cell? (ad.add (i * k + j)) = some u := fun i hi => by
      obtain ⟨cs', h1, h2⟩ := hx i (by omega)
      rw [hk] at h1
      obtain ⟨_, hlen, hcell⟩ := World.cells?_some h1
      obtain ⟨y, rfl, hQ⟩ := hel n cs' _ hlen h2
      refine ⟨y, hQ, hlen, fun j u hj => ?_⟩
      have hjk : j < k := by have := (List.getElem?_eq_some_iff.mp hj).1; omega
      have := hcell j hjk
      rw [Go.Deep.add_add] at this
      rw [this, hj]
    have inh : Inhabited α := ⟨dflt⟩
    obtain ⟨f, hf⟩ := Go.Deep.choose_lt each
    refine ⟨(List.range len).map f, by simp, ⟨by simpa using hl, by omega, by simp, ?_⟩, fun y hy => ?_⟩
    · by_cases h0 : len = 0
      · subst h0; exact .inl rfl
      right
      obtain ⟨b, off, spot⟩ := ad
      obtain ⟨_, hl0, hc0⟩ := hf 0 (by omega)
      have hcell0 : w.cell? ((⟨b, off, spot⟩ : Addr).add (0 * k + 0)) = some ((C (f 0))[0]'(by omega)) := hc0 0 _ (List.getElem?_eq_getElem (by omega))
      have hs : spot = none := by simpa [Addr.add] using World.cell?_spot hcell0
      subst hs
      rw [add_none] at hcell0
      refine ⟨b, off, rfl, World.block_lt_of_cell? _ _ hcell0, fun i row hi => ?_⟩
      simp only [List.map_map, List.getElem?_map, Option.map_eq_some_iff] at hi
      obtain ⟨i', hi', rfl⟩ := hi
      have hil : i < len ∧ i' = i := by
        have h1 := (List.getElem?_eq_some_iff.mp hi').1
        have h2 := (List.getElem?_eq_some_iff.mp hi').2
        simp at h1 h2
        exact ⟨h1, h2.symm⟩
      obtain ⟨hil, rfl⟩ := hil
      obtain ⟨_, h1, h2⟩ := hf i' hil
      exact ⟨h1, fun j u hj => by rw [← add_none]; exact h2 j u hj⟩
    · simp only [List.mem_map, List.mem_range] at hy
      obtain ⟨i, hi, rfl⟩ := hy
      exact (hf i hi).1
theorem int_in {t : TypeId} (ht : P.underlying t = some (.int .i64)) {n : Nat} {v : Value} {y : DataW H × List MemPlace} (h : DataW.trod enc P w base spare held n t [v] = some y) : ∃ z, v = .int .i64 z ∧ I64 z := by
  obtain ⟨z, e, _, b⟩ := DataW.trod_int ht h
  simp only [List.cons.injEq, and_true] at e
  refine ⟨z, e, ?_⟩
  show _ ∧ _
  simpa [Lit.wf, IntKind.min, IntKind.max, IntKind.bits, IntKind.signed] using b
theorem bool_in {t : TypeId} (ht : P.underlying t = some .bool) {n : Nat} {v : Value} {y : DataW H × List MemPlace} (h : DataW.trod enc P w base spare held n t [v] = some y) : ∃ z, v = .bool z := by
  obtain ⟨z, e, _⟩ := DataW.trod_bool ht h
  simp only [List.cons.injEq, and_true] at e
  exact ⟨z, e⟩
theorem slice_in {t e : TypeId} (ht : P.underlying t = some (.slice e)) {n : Nat} {v : Value} {y : DataW H × List MemPlace} (h : DataW.trod enc P w base spare held n t [v] = some y) : ∃ a len cap, v = .slice a len cap := by
  rcases Go.Deep.open_slice ht h with ⟨hcs, _⟩ | ⟨ad, len', cap', m, n, D, Pl, hcs, _⟩
  · exact ⟨_, _, _, by simpa using hcs⟩
  · exact ⟨_, _, _, by simpa using hcs⟩
/-- A field of one cell. -/
theorem field_in {t : TypeId} {fs : Array Field} {fuel : Nat} {cs : List Value} {x : DataW H × List MemPlace} (ht : P.underlying t = some (.struct fs)) (h : DataW.trod enc P w base spare held fuel t cs = some x)
    (i : Nat) (f : Field) (hi : fs[i]? = some f) (ho : f.offset = i) (hc : P.cellsOf f.type = 1) (hl : i < cs.length) : ∃ v y n, cs[i]? = some v ∧ DataW.trod enc P w base spare held n f.type [v] = some y := by
  obtain ⟨xs, n, _, _, _, hlen, hf⟩ := DataW.trod_struct ht h
  have h1 := hf i f hi
  have hlt : i < xs.length := by rw [hlen]; exact (Array.getElem?_eq_some_iff.mp hi).1
  rw [ho, hc, List.getElem?_eq_getElem hlt] at h1
  refine ⟨cs[i], xs[i], n, List.getElem?_eq_getElem hl, ?_⟩
  rw [← h1]
  congr 1
  rw [List.drop_eq_getElem_cons hl]
  rfl
end
section
variable {H : Type} {enc : TypeId × Value → H} {w : World} {base : Nat} {spare : Nat → Bool} {held : Bool}
theorem list1 {α : Type} {cs : List α} (h : cs.length = 1) {a : α} (h0 : cs[0]? = some a) : cs = [a] := by
  match cs, h with
  | [_], _ => simp_all
theorem list2 {α : Type} {cs : List α} (h : cs.length = 2) {a b : α} (h0 : cs[0]? = some a) (h1 : cs[1]? = some b) : cs = [a, b] := by
  match cs, h with
  | [_, _], _ => simp_all
theorem list4 {α : Type} {cs : List α} (h : cs.length = 4) {a b c d : α} (h0 : cs[0]? = some a) (h1 : cs[1]? = some b) (h2 : cs[2]? = some c) (h3 : cs[3]? = some d) : cs = [a, b, c, d] := by
  match cs, h with
  | [_, _, _, _], _ => simp_all
theorem list5 {α : Type} {cs : List α} (h : cs.length = 5) {a b c d e : α} (h0 : cs[0]? = some a) (h1 : cs[1]? = some b) (h2 : cs[2]? = some c) (h3 : cs[3]? = some d) (h4 : cs[4]? = some e) : cs = [a, b, c, d, e] := by
  match cs, h with
  | [_, _, _, _, _], _ => simp_all
end
end Go.Proofs.YtgmpdnmheiblpaaDoor.pg
/- Elements of a program's lists: what an index gives, and the cells there. -/
namespace Go.Proofs.YtgmpdnmheiblpaaDoor.pg
open Go.ChangeShapes Go.WideShapes Go.ChangeAt Go.RowKit
set_option linter.unusedVariables false
theorem Rows.ix {w : World} {k : Nat} {a : Option Addr} {cap : Nat} {L : List (List Value)} (h : Rows w k a cap L) (t e : TypeId) (hu : Tryd.prog.underlying t = some (.slice e)) (he : Tryd.prog.elem t = e) (hs : ∀ wx, (sizeOf e).run Tryd.prog wx = .ok k wx)
    (i : Nat) {row : List Value} (hi : L[i]? = some row) :
    ∃ b o, (∀ wx, (Instr.indexAt t (.slice a L.length cap) (.int .i64 (i : Int))).run Tryd.prog wx = .ok (.pointer (some ⟨b, o, none⟩)) wx) ∧ b < w.heap.size ∧ ∀ j u, row[j]? = some u → w.cell? ⟨b, o + j, none⟩ = some u := by
  obtain ⟨b, off, ha, hlt, hc⟩ := h.row hi
  have hil : i < L.length := (List.getElem?_eq_some_iff.mp hi).1
  refine ⟨b, off + i * k, fun wx => ?_, hlt, fun j u hj => by rw [Nat.add_assoc]; exact hc j u hj⟩
  subst he
  rw [ha, run_indexAt_slice wx t ⟨b, off, none⟩ _ _ _ _ hu, if_pos (by omega), hs wx]
  simp only [Int.toNat_natCast]
  show Result.ok (Value.pointer (some ((⟨b, off, none⟩ : Addr).add (i * k)))) wx = _
  rw [add_none]
theorem ch_ix {w : World} {a : Option Addr} {cap : Nat} {l : List Int} (h : Rows w 1 a cap (l.map chCells)) (i : Nat) (x : Int) (hi : l[i]? = some x) :
    ∃ b o, (∀ wx, (Instr.indexAt 40 (.slice a l.length cap) (.int .i64 (i : Int))).run Tryd.prog wx = .ok (.pointer (some ⟨b, o, none⟩)) wx) ∧ b < w.heap.size ∧ w.cell? ⟨b, o, none⟩ = some (.int .i64 x) := by
  obtain ⟨b, o, hr, hlt, hc⟩ := h.ix 40 3 Tryd.underlying40 (by kernel_rfl) (fun wx => Tryd.sizeOf3 wx) i (row := chCells x) (by simp [hi])
  rw [List.length_map] at hr
  exact ⟨b, o, hr, hlt, hc 0 _ rfl⟩
end Go.Proofs.YtgmpdnmheiblpaaDoor.pg
