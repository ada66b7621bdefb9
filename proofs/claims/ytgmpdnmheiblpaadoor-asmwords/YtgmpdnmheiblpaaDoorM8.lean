/- Goroutines, channels and states as they are compared. -/
import Derived.Test.YtgmpdnmheiblpaaDoorM7
import Derived.Test.YtgmpdnmheiblpaaDoorM3
import Derived.Maps.OwnOps
import Derived.Maps.OwnSet
import Derived.DeepKeys4
import Derived.MapViews
import Derived.Laws.StructEq
import Derived.Maps.AppendAt
import Derived.Laws.AppendOwnNone
import Derived.Laws.OwnMore
import Derived.Laws.Rows
namespace Go.Proofs.YtgmpdnmheiblpaaDoor.pg
open Go.ChangeShapes Go.WideShapes Go.ChangeAt Go.RowKit
open Go.Maps (Keyed IsMap Tidy)
set_option linter.unusedVariables false
set_option linter.unusedSimpArgs false
set_option maxRecDepth 100000
/-- Cells that read as a value of a type. -/
def Rdb (n : Nat) (t : TypeId) (cs : List Value) : Prop := ∃ y, DataW.trod (H := Unit) (fun _ => ()) Tryd.prog default 0 (fun _ => true) true n t cs = some y
theorem mapM_ex {α β : Type} (f : α → Option β) : ∀ (l : List α), (∀ x ∈ l, ∃ y, f x = some y) → ∃ ys, l.mapM f = some ys
  | [], _ => ⟨[], rfl⟩
  | x :: l, h => by
    obtain ⟨y, hy⟩ := h x (by simp)
    obtain ⟨ys, hys⟩ := mapM_ex f l fun z hz => h z (by simp [hz])
    exact ⟨y :: ys, by simp [List.mapM_cons, hy, hys]⟩
theorem rdb_int {t : TypeId} (ht : Tryd.prog.underlying t = some (.int .i64)) (n : Nat) {z : Int} (hz : I64 z) : Rdb (n + 1) t [.int .i64 z] :=
  ⟨_, trod_int_mk n ht (by simp [Lit.wf, IntKind.min, IntKind.max, IntKind.bits, IntKind.signed]; exact hz)⟩
theorem rdb_bool {t : TypeId} (ht : Tryd.prog.underlying t = some .bool) (n : Nat) (z : Bool) : Rdb (n + 1) t [.bool z] :=
  ⟨(.lit (.bool z), []), by simp [DataW.trod, ht, Lit.wf]⟩
theorem rdb_struct {t : TypeId} {fs : Array Field} {n : Nat} {cs : List Value} (ht : Tryd.prog.underlying t = some (.struct fs)) (hl : cs.length = Tryd.prog.cellsOf t) (h : ∀ f ∈ fs.toList, Rdb n f.type ((cs.drop f.offset).take (Tryd.prog.cellsOf f.type))) : Rdb (n + 1) t cs := by
  obtain ⟨xs, hxs⟩ := mapM_ex (fun f : Field => DataW.trod (H := Unit) (fun _ => ()) Tryd.prog default 0 (fun _ => true) true n f.type ((cs.drop f.offset).take (Tryd.prog.cellsOf f.type))) fs.toList h
  exact ⟨_, trod_struct_mk ht hl hxs⟩
theorem rdb_array {t e : TypeId} {k n m : Nat} {cs : List Value} (ht : Tryd.prog.underlying t = some (.array k e)) (hl : cs.length = Tryd.prog.cellsOf t) (h : ∀ i, i < k → Rdb n e ((cs.drop (i * Tryd.prog.cellsOf e)).take (Tryd.prog.cellsOf e))) : Rdb (n + 1) t cs := by
  obtain ⟨xs, hxs⟩ := mapM_ex (fun i : Nat => DataW.trod (H := Unit) (fun _ => ()) Tryd.prog default 0 (fun _ => true) true n e ((cs.drop (i * Tryd.prog.cellsOf e)).take (Tryd.prog.cellsOf e))) (List.range k) (fun i hi => h i (List.mem_range.mp hi))
  refine ⟨(.agg (xs.map (·.1)), xs.flatMap (·.2)), ?_⟩
  unfold DataW.trod
  rw [ht]
  split <;> simp_all
theorem flat_part {α : Type} (C : α → List Value) {k : Nat} : ∀ (l : List α), (∀ x ∈ l, (C x).length = k) → ∀ i x, l[i]? = some x → (((l.map C).flatten).drop (i * k)).take k = C x
  | [], _, i, x, h => by simp at h
  | y :: l, hk, 0, x, h => by
    simp at h
    subst h
    rw [Nat.zero_mul, List.drop_zero, List.map_cons, List.flatten_cons, List.take_append_of_le_length (by rw [hk y (by simp)]; exact Nat.le_refl _), ← hk y (by simp), List.take_length]
  | y :: l, hk, i + 1, x, h => by
    rw [List.map_cons, List.flatten_cons, List.drop_append, List.drop_eq_nil_of_le (by rw [hk y (by simp), Nat.add_mul]; omega), List.nil_append, hk y (by simp), show (i + 1) * k - k = i * k by rw [Nat.add_mul]; omega]
    exact flat_part C l (fun z hz => hk z (by simp [hz])) i x (by simpa using h)
theorem ints_flat (l : List Int) : ints l = (l.map chCells).flatten := by
  induction l with
  | nil => rfl
  | cons x t ih => simp only [List.map_cons, List.flatten_cons, chCells, ints] at ih ⊢; rw [ih]; rfl
theorem rdb_ints {t e : TypeId} {k : Nat} {l : List Int} (ht : Tryd.prog.underlying t = some (.array k e)) (he : Tryd.prog.underlying e = some (.int .i64)) (hce : Tryd.prog.cellsOf e = 1) (hct : Tryd.prog.cellsOf t = k) (hl : l.length = k) (ha : AllI l) (n : Nat) : Rdb (n + 2) t (ints l) := by
  refine rdb_array (m := 0) ht (by rw [List.length_map, hl, hct]) fun i hi => ?_
  obtain ⟨x, hx, hm⟩ := get_lt l i (by omega)
  rw [hce, ints_flat, flat_part chCells l (fun _ _ => rfl) i x hx]
  exact rdb_int he n (ha x hm)
theorem cut_at {α : Type} (a b c : List α) (o k : Nat) (ho : a.length = o) (hk : b.length = k) : ((a ++ (b ++ c)).drop o).take k = b := by
  rw [List.drop_append, List.drop_eq_nil_of_le (by omega), List.nil_append, ho, Nat.sub_self, List.drop_zero, List.take_append_of_le_length (by omega), ← hk, List.take_length]
theorem rdb_go {g : Gr} (h : g.wf) (n : Nat) : Rdb (n + 3) 35 g.cells := by
  have hl := h.2.2.2.2.1
  refine rdb_struct Tryd.underlying35 (by rw [Gr.len h]; kernel_rfl) fun f hf => ?_
  simp only [List.mem_cons, List.not_mem_nil, or_false] at hf
  have c1 : Tryd.prog.cellsOf 3 = 1 := by kernel_rfl
  have c8 : Tryd.prog.cellsOf 28 = 8 := by kernel_rfl
  rcases hf with rfl | rfl | rfl | rfl | rfl
  · simp only [c1]; exact rdb_int Tryd.underlying3 _ h.1
  · simp only [c1]; exact rdb_int Tryd.underlying3 _ h.2.1
  · simp only [c1]; exact rdb_int Tryd.underlying3 _ h.2.2.1
  · simp only [c1]; exact rdb_int Tryd.underlying3 _ h.2.2.2.1
  · simp only [c8]
    have e : (g.cells.drop 4).take 8 = ints g.rg := by
      show (ints g.rg).take 8 = _
      rw [List.take_of_length_le (by simp [hl])]
    rw [e]
    exact rdb_ints Tryd.underlying28 Tryd.underlying2 (by kernel_rfl) c8 hl h.2.2.2.2.2 _
theorem rdb_ch {c : Chc} (h : c.wf) (n : Nat) : Rdb (n + 3) 32 c.cells := by
  have hl := h.2.2.2.2.1
  have hi : (ints c.buf).length = 4 := by simp [hl]
  refine rdb_struct Tryd.underlying32 (by rw [Chc.len h]; kernel_rfl) fun f hf => ?_
  simp only [List.mem_cons, List.not_mem_nil, or_false] at hf
  have c1 : Tryd.prog.cellsOf 3 = 1 := by kernel_rfl
  have cb : Tryd.prog.cellsOf 4 = 1 := by kernel_rfl
  have c64 : Tryd.prog.cellsOf 2 = 1 := by kernel_rfl
  have c4 : Tryd.prog.cellsOf 30 = 4 := by kernel_rfl
  have dr : ∀ j, c.cells.drop (4 + j) = ([Value.int .i64 c.ln, .bool c.shut, .int .i64 c.off, .int .i64 c.frm, .int .i64 c.val]).drop j := fun j => by
    unfold Chc.cells
    rw [List.drop_append, List.drop_eq_nil_of_le (by omega), List.nil_append, hi, Nat.add_sub_cancel_left]
  rcases hf with rfl | rfl | rfl | rfl | rfl | rfl
  · simp only [c4]
    have e : (c.cells.drop 0).take 4 = ints c.buf := by
      rw [List.drop_zero]
      unfold Chc.cells
      rw [List.take_append_of_le_length (by omega), ← hi, List.take_length]
    rw [e]
    exact rdb_ints Tryd.underlying30 Tryd.underlying2 (by kernel_rfl) c4 hl h.2.2.2.2.2 _
  · simp only [c1]; rw [dr 0]; exact rdb_int Tryd.underlying3 _ h.1
  · simp only [cb]; rw [dr 1]; exact rdb_bool Tryd.underlying4 _ _
  · simp only [c1]; rw [dr 2]; exact rdb_int Tryd.underlying3 _ h.2.1
  · simp only [c1]; rw [dr 3]; exact rdb_int Tryd.underlying3 _ h.2.2.1
  · simp only [c64]; rw [dr 4]; exact rdb_int Tryd.underlying2 _ h.2.2.2.1
theorem rdb_st {s : Sts} (h : s.wf) (n : Nat) : Rdb (n + 5) 38 s.cells := by
  have lv : (ints s.vars).length = 8 := by simp [h.lv]
  have lo : (ints s.own).length = 4 := by simp [h.lo]
  have lc : (s.ch.map Chc.cells).flatten.length = 36 := by rw [flat_len Chc.cells 9 _ fun c hc => Chc.len (h.ac c hc), h.lc]
  have lg : (s.gos.map Gr.cells).flatten.length = 72 := by rw [flat_len Gr.cells 12 _ fun c hc => Gr.len (h.ag c hc), h.lg]
  refine rdb_struct Tryd.underlying38 (by rw [Sts.len h]; kernel_rfl) fun f hf => ?_
  simp only [List.mem_cons, List.not_mem_nil, or_false] at hf
  have c1 : Tryd.prog.cellsOf 3 = 1 := by kernel_rfl
  have c8 : Tryd.prog.cellsOf 28 = 8 := by kernel_rfl
  have c4 : Tryd.prog.cellsOf 29 = 4 := by kernel_rfl
  have cc : Tryd.prog.cellsOf 33 = 36 := by kernel_rfl
  have cg : Tryd.prog.cellsOf 36 = 72 := by kernel_rfl
  have c9 : Tryd.prog.cellsOf 32 = 9 := by kernel_rfl
  have c12 : Tryd.prog.cellsOf 35 = 12 := by kernel_rfl
  rcases hf with rfl | rfl | rfl | rfl | rfl
  · simp only [c8]
    have e : (s.cells.drop 0).take 8 = ints s.vars := cut_at [] _ _ 0 8 rfl lv
    rw [e]
    exact rdb_ints Tryd.underlying28 Tryd.underlying2 (by kernel_rfl) c8 h.lv h.av _
  · simp only [c4]
    have e : (s.cells.drop 8).take 4 = ints s.own := cut_at (ints s.vars) _ _ 8 4 lv lo
    rw [e]
    exact rdb_ints Tryd.underlying29 Tryd.underlying3 (by kernel_rfl) c4 h.lo h.ao _
  · simp only [cc]
    have e : (s.cells.drop 12).take 36 = (s.ch.map Chc.cells).flatten := by
      unfold Sts.cells
      rw [← List.append_assoc]
      exact cut_at _ _ _ 12 36 (by rw [List.length_append, lv, lo]) lc
    rw [e]
    refine rdb_array (m := 0) Tryd.underlying33 (by rw [lc, cc]) fun i hi => ?_
    obtain ⟨x, hx, hm⟩ := get_lt s.ch i (by rw [h.lc]; exact hi)
    rw [c9, flat_part Chc.cells s.ch (fun c hc => Chc.len (h.ac c hc)) i x hx]
    exact rdb_ch (h.ac x hm) _
  · simp only [cg]
    have e : (s.cells.drop 48).take 72 = (s.gos.map Gr.cells).flatten := by
      unfold Sts.cells
      rw [← List.append_assoc, ← List.append_assoc]
      exact cut_at _ _ _ 48 72 (by rw [List.length_append, List.length_append, lv, lo, lc]) lg
    rw [e]
    refine rdb_array (m := 0) Tryd.underlying36 (by rw [lg, cg]) fun i hi => ?_
    obtain ⟨x, hx, hm⟩ := get_lt s.gos i (by rw [h.lg]; exact hi)
    rw [c12, flat_part Gr.cells s.gos (fun c hc => Gr.len (h.ag c hc)) i x hx]
    exact rdb_go (h.ag x hm) _
  · simp only [c1]
    have e : (s.cells.drop 120).take 1 = [.int .i64 s.cnt] := by
      unfold Sts.cells
      rw [← List.append_assoc, ← List.append_assoc, ← List.append_assoc]
      exact cut_at _ [Value.int .i64 s.cnt] [] 120 1 (by rw [List.length_append, List.length_append, List.length_append, lv, lo, lc, lg]) rfl
    rw [e]
    exact rdb_int Tryd.underlying3 _ h.cn
theorem lawGo : Keyed Tryd.prog 35 := Keyed.of_law (deep_law_laid (by kernel_rfl) (m := 6) (by omega) (of_decide_eq_true (by kernel_rfl)) (by kernel_rfl) (by rw [Tryd.underlying35]))
theorem lawCh : Keyed Tryd.prog 32 := Keyed.of_law (deep_law_laid (by kernel_rfl) (m := 6) (by omega) (of_decide_eq_true (by kernel_rfl)) (by kernel_rfl) (by rw [Tryd.underlying32]))
theorem lawSt : Keyed Tryd.prog 38 := Keyed.of_law (deep_law_laid (by kernel_rfl) (m := 6) (by omega) (of_decide_eq_true (by kernel_rfl)) (by kernel_rfl) (by rw [Tryd.underlying38]))
theorem key_go {g : Gr} (h : g.wf) : ∃ l, keyOf Tryd.prog 35 (.agg g.cells.toArray) = some l := by
  obtain ⟨⟨d, p⟩, hy⟩ := rdb_go h 0
  exact ⟨_, (keyOf_asKey (by kernel_rfl) (by rw [Tryd.underlying35]) (by simp only [Value.formed, Tryd.underlying35, List.size_toArray, Gr.len h]; kernel_rfl) ⟨_, hy⟩).1⟩
theorem key_ch {g : Chc} (h : g.wf) : ∃ l, keyOf Tryd.prog 32 (.agg g.cells.toArray) = some l := by
  obtain ⟨⟨d, p⟩, hy⟩ := rdb_ch h 0
  exact ⟨_, (keyOf_asKey (by kernel_rfl) (by rw [Tryd.underlying32]) (by simp only [Value.formed, Tryd.underlying32, List.size_toArray, Chc.len h]; kernel_rfl) ⟨_, hy⟩).1⟩
theorem key_st {g : Sts} (h : g.wf) : ∃ l, keyOf Tryd.prog 38 (.agg g.cells.toArray) = some l := by
  obtain ⟨⟨d, p⟩, hy⟩ := rdb_st h 0
  exact ⟨_, (keyOf_asKey (by kernel_rfl) (by rw [Tryd.underlying38]) (by simp only [Value.formed, Tryd.underlying38, List.size_toArray, Sts.len h]; kernel_rfl) ⟨_, hy⟩).1⟩
theorem eq_deep {t : TypeId} (K : Keyed Tryd.prog t) {a b : Array Value} {la lb : Lit} (ha : keyOf Tryd.prog t (.agg a) = some la) (hb : keyOf Tryd.prog t (.agg b) = some lb) (hk : Tryd.prog.keyTypeAt 6 t = true) (hw : (match Tryd.prog.underlying t with | some (.array _ _) | some (.struct _) => true | _ => false) = true) (R : Bool) (hR : R = true ↔ a = b) (w : World) :
    (Op.equalIn 10000 t (.agg a) (.agg b)).run Tryd.prog w = .ok R w := by
  obtain ⟨r, hr, hiff⟩ := run_equal_deep (P := Tryd.prog) w (m := 6) (by omega) (k := t) hk hw ha hb
  have e : r = R := by
    rw [Bool.eq_iff_iff, hiff, hR]
    constructor
    · intro q
      have := K.inj ha (q ▸ hb)
      simpa using this
    · intro q
      subst q
      rw [ha] at hb
      exact Option.some.inj hb
  rw [e] at hr
  exact hr
theorem eq_go {x y : Gr} (hx : x.wf) (hy : y.wf) (R : Bool) (hR : R = true ↔ x = y) (w : World) : (Op.equalIn 10000 35 (.agg x.cells.toArray) (.agg y.cells.toArray)).run Tryd.prog w = .ok R w := by
  obtain ⟨la, ha⟩ := key_go hx
  obtain ⟨lb, hb⟩ := key_go hy
  exact eq_deep lawGo ha hb (by kernel_rfl) (by rw [Tryd.underlying35]) R (hR.trans ⟨fun q => by rw [q], fun q => Gr.inj (by simpa using q)⟩) w
theorem eq_ch {x y : Chc} (hx : x.wf) (hy : y.wf) (R : Bool) (hR : R = true ↔ x = y) (w : World) : (Op.equalIn 10000 32 (.agg x.cells.toArray) (.agg y.cells.toArray)).run Tryd.prog w = .ok R w := by
  obtain ⟨la, ha⟩ := key_ch hx
  obtain ⟨lb, hb⟩ := key_ch hy
  exact eq_deep lawCh ha hb (by kernel_rfl) (by rw [Tryd.underlying32]) R (hR.trans ⟨fun q => by rw [q], fun q => Chc.inj hx hy (by simpa using q)⟩) w
theorem eq_st {x y : Sts} (hx : x.wf) (hy : y.wf) (R : Bool) (hR : R = true ↔ x = y) (w : World) : (Op.equalIn 10000 38 (.agg x.cells.toArray) (.agg y.cells.toArray)).run Tryd.prog w = .ok R w := by
  obtain ⟨la, ha⟩ := key_st hx
  obtain ⟨lb, hb⟩ := key_st hy
  exact eq_deep lawSt ha hb (by kernel_rfl) (by rw [Tryd.underlying38]) R (hR.trans ⟨fun q => by rw [q], fun q => Sts.inj hx hy (by simpa using q)⟩) w
theorem eql_st {x y : Sts} (hx : x.wf) (hy : y.wf) (R : Bool) (hR : R = true ↔ x = y) (w : World) : (binOp .eql 38 (.agg x.cells.toArray) (.agg y.cells.toArray)).run Tryd.prog w = .ok (.bool R) w := by
  rw [run_eql_struct, eq_st hx hy R hR]; rfl
theorem ne_go {x y : Gr} (hx : x.wf) (hy : y.wf) (R : Bool) (hR : R = true ↔ ¬ x = y) (w : World) : (binOp .neq 35 (.agg x.cells.toArray) (.agg y.cells.toArray)).run Tryd.prog w = .ok (.bool R) w := by
  rw [run_neq_struct, eq_go hx hy (!R) (by cases R <;> simp_all)]; cases R <;> rfl
theorem ne_ch {x y : Chc} (hx : x.wf) (hy : y.wf) (R : Bool) (hR : R = true ↔ ¬ x = y) (w : World) : (binOp .neq 32 (.agg x.cells.toArray) (.agg y.cells.toArray)).run Tryd.prog w = .ok (.bool R) w := by
  rw [run_neq_struct, eq_ch hx hy (!R) (by cases R <;> simp_all)]; cases R <;> rfl
end Go.Proofs.YtgmpdnmheiblpaaDoor.pg
/- Lists that the call itself made: what it owns, what stays, and what append gives. -/
namespace Go.Proofs.YtgmpdnmheiblpaaDoor.pg
open Go.ChangeShapes Go.WideShapes Go.ChangeAt Go.RowKit
set_option linter.unusedVariables false
set_option linter.unusedSimpArgs false
/-- A list of rows of k cells each in a block of its own. -/
abbrev OwnL (w : World) (lo : Nat) (e : TypeId) (k : Nat) (a : Option Addr) (cap : Nat) (L : List (List Value)) : Prop := w.ownsRow lo e k (.slice a L.length cap) L.length L.flatten
/-- The block of a list, if it has one. -/
def blk (a : Option Addr) : List Nat := match a with | some ad => [ad.block] | none => []
theorem flatten_at {k : Nat} : ∀ (L : List (List Value)), (∀ row ∈ L, row.length = k) → ∀ (i : Nat) (row : List Value), L[i]? = some row → ∀ j, j < k → L.flatten[i * k + j]? = row[j]?
  | [], _, i, row, h, j, hj => by simp at h
  | x :: t, hk, 0, row, h, j, hj => by
    simp at h
    subst h
    rw [Nat.zero_mul, Nat.zero_add, List.flatten_cons, List.getElem?_append_left (by rw [hk x (by simp)]; exact hj)]
  | x :: t, hk, i + 1, row, h, j, hj => by
    have hx := hk x (by simp)
    rw [List.flatten_cons, List.getElem?_append_right (by rw [hx, Nat.add_mul]; omega), hx]
    have := flatten_at t (fun r hr => hk r (by simp [hr])) i row (by simpa using h) j hj
    rw [← this]
    congr 1
    rw [Nat.add_mul]
    omega
theorem flatten_len {k : Nat} : ∀ (L : List (List Value)), (∀ row ∈ L, row.length = k) → L.flatten.length = L.length * k
  | [], _ => by simp
  | x :: t, h => by
    rw [List.flatten_cons, List.length_append, h x (by simp), flatten_len t fun r hr => h r (by simp [hr])]
    simp only [List.length_cons, Nat.add_mul]
    omega
theorem own_block {w : World} {lo e k : Nat} {a : Option Addr} {cap : Nat} {L : List (List Value)} (h : OwnL w lo e k a cap L) : a = none ∧ L.length = 0 ∧ cap = 0 ∨ ∃ g, a = some ⟨g, 0, none⟩ ∧ lo ≤ g ∧ g < w.heap.size := by
  rcases h.2 with ⟨h1, h2⟩ | ⟨g, cap', cur, h1, hb, hg, _⟩
  · simp only [Value.slice.injEq] at h1
    exact .inl h1
  · simp only [Value.slice.injEq] at h1
    exact .inr ⟨g, h1.1, hb, (Array.getElem?_eq_some_iff.mp hg).1⟩
theorem own_rows {w : World} {lo e k : Nat} {a : Option Addr} {cap : Nat} {L : List (List Value)} (h : OwnL w lo e k a cap L) (hk : ∀ row ∈ L, row.length = k) : Rows w k a cap L := by
  rcases h.2 with ⟨h1, h2⟩ | ⟨g, cap', cur, h1, hb, hg, hnc, hcm, hcs, htake⟩
  · simp only [Value.slice.injEq] at h1
    obtain ⟨rfl, hl, rfl⟩ := h1
    have : L = [] := List.length_eq_zero_iff.mp hl
    subst this
    exact ⟨by simp, by simp, by simp, .inl rfl⟩
  · simp only [Value.slice.injEq, true_and] at h1
    obtain ⟨rfl, rfl⟩ := h1
    unfold maxLen at hcm
    refine ⟨hnc, by omega, by simp, .inr ⟨g, 0, rfl, (Array.getElem?_eq_some_iff.mp hg).1, fun i row hi => ⟨hk row (List.mem_of_getElem? hi), fun j u hj => ?_⟩⟩⟩
    have hrk := hk row (List.mem_of_getElem? hi)
    have hjk : j < k := by have := (List.getElem?_eq_some_iff.mp hj).1; omega
    have hil : i < L.length := (List.getElem?_eq_some_iff.mp hi).1
    have hlt : i * k + j < L.length * k := by
      have : (i + 1) * k ≤ L.length * k := Nat.mul_le_mul_right k hil
      rw [Nat.add_mul] at this
      omega
    rw [Nat.zero_add, World.ownsRow.cellAt h (i * k + j) hlt, flatten_at L hk i row hi j hjk, hj]
theorem own_keep {w w' : World} {lo e k : Nat} {a : Option Addr} {cap : Nat} {L : List (List Value)} (h : OwnL w lo e k a cap L) (hk : ∀ g ∈ blk a, w'.heap[g]? = w.heap[g]?) : OwnL w' lo e k a cap L := by
  refine ⟨h.1, ?_⟩
  rcases h.2 with h' | ⟨g, cap', cur, h', hb, hg, hr⟩
  · exact .inl h'
  · have h1 := h'
    simp only [Value.slice.injEq] at h1
    exact .inr ⟨g, cap', cur, h', hb, by rw [hk g (by rw [h1.1]; simp [blk])]; exact hg, hr⟩
theorem blk_lt {w : World} {lo e k : Nat} {a : Option Addr} {cap : Nat} {L : List (List Value)} (h : OwnL w lo e k a cap L) : ∀ g ∈ blk a, lo ≤ g ∧ g < w.heap.size := by
  intro g hg
  rcases own_block h with ⟨rfl, _⟩ | ⟨g', rfl, h1, h2⟩
  · simp [blk] at hg
  · simp [blk] at hg
    subst hg
    exact ⟨h1, h2⟩
theorem ownBlock_blk (a : Option Addr) (n cap : Nat) (g : Nat) : (Value.slice a n cap).ownBlock = some g ↔ g ∈ blk a := by
  cases a <;> simp [Value.ownBlock, blk, eq_comm]
section
variable {P : Program} {w : World}
/-- APPEND to a list of the call's own, of a list that lies anywhere, nil too: the new value is a slice; its block is the old one, or a new one. -/
theorem wpList_app {ops : Array Oper} {rest : List Oper} {o : Oper} {a : Act} {Q : Exit → Act → World → Prop} (hgd : o.guard = none) (s x : Operand) (t : TypeId)
    (ho : o.op = .call { callee := .builtin .append, args := #[s, x], argTypes := #[t, t] })
    (base : Nat) (e : TypeId) (i : TypeInfo) (z : Value) (k bytes : Nat) (ht : P.underlying t = some (.slice e)) (hi : P.info? e = some i) (hz : i.zero = some z)
    (hsize : i.size = k) (hby : i.bytes = bytes) (hzs : z.cells.size = k) (hsz : 0 < k)
    (va : Option Addr) (vc : Nat) (L : List (List Value)) (hs : a.eval s = .slice va L.length vc) (hown : OwnL w base e k va vc L)
    (src : Option Addr) (c : Nat) (N : List (List Value)) (hx : a.eval x = .slice src N.length c) (hN : Rows w k src c N) (hNk : ∀ row ∈ N, row.length = k) (h1 : ∀ row ∈ N, ∀ u ∈ row, u.oneCell' = true)
    (h63 : L.length + N.length ≤ maxLen) (hbytes : (L.length + N.length) * bytes ≤ 140737488355328) (hbase : base ≤ w.heap.size)
    (h : ∀ va' vc' w', OwnL w' base e k va' vc' (L ++ N) → (∀ b, b < w.heap.size → b ∉ blk va → w'.heap[b]? = w.heap[b]?) → Below (min base w.heap.size) w w' → (blk va' = blk va ∨ blk va' = [w.heap.size]) → wpList P ops Q rest (a.put o.dst (.slice va' (L ++ N).length vc')) w') :
    wpList P ops Q (o :: rest) a w := by
  have hlow : ∀ b, b < min base w.heap.size → b ∉ blk va := fun b hb hm => by have := blk_lt hown b hm; omega
  cases src with
  | none =>
    have hn0 := (hN.2.2.1 rfl).1
    have hc0 := (hN.2.2.1 rfl).2
    subst hn0
    subst hc0
    refine wpList_append_own_none hgd s x t ho base e i k ht hi _ L.length L.flatten hs hown hx ?_
    have := h va vc w (by simpa using hown) (fun _ _ _ => rfl) (Below.refl _ _) (.inl rfl)
    simpa using this
  | some ad =>
    refine wpList_append_own_at w hgd s x t ho base e i z k bytes ht hi hz hsize hby hzs hsz _ L.length L.flatten hs hown ad N.length c N.flatten hx (flatten_len N hNk) (fun j u hj => ?_) (fun u hu => ?_) h63 hbytes hbase fun v' w' hv hg _ hb => ?_
    · rcases hN.2.2.2 with h0 | ⟨b, off, hab, _, hc⟩
      · subst h0; simp at hj
      · simp only [Option.some.injEq] at hab
        subst hab
        have hjl := (List.getElem?_eq_some_iff.mp hj).1
        rw [flatten_len N hNk] at hjl
        have hq : j / k < N.length := by rw [Nat.div_lt_iff_lt_mul hsz]; exact hjl
        obtain ⟨row, hr⟩ : ∃ row, N[j / k]? = some row := ⟨_, List.getElem?_eq_getElem hq⟩
        have hmod : j % k < k := Nat.mod_lt _ hsz
        have e1 : j / k * k + j % k = j := by rw [Nat.mul_comm]; exact Nat.div_add_mod j k
        have h2 := flatten_at N hNk (j / k) row hr (j % k) hmod
        rw [e1, hj] at h2
        have h3 := (hc (j / k) row hr).2 (j % k) u h2.symm
        rw [e1] at h3
        rw [add_none]
        exact h3
    · simp only [List.mem_flatten] at hu
      obtain ⟨row, hr, hu⟩ := hu
      exact h1 row hr u hu
    · have hk : ∀ b, b < w.heap.size → b ∉ blk va → w'.heap[b]? = w.heap[b]? := fun b hb2 hm => hg.block b hb2 (fun q => hm ((ownBlock_blk va L.length vc b).mp q.symm))
      have hB : Below (min base w.heap.size) w w' := ⟨hg.os, hg.tape, hg.output, hg.size, fun b hb2 => hk b (by omega) (hlow b hb2)⟩
      have hform : ∃ va' vc', v' = .slice va' (L.length + N.length) vc' := by
        rcases hv.2 with ⟨q, q2⟩ | ⟨g, cap', cur, q, _⟩
        · exact ⟨none, 0, by rw [q, q2]⟩
        · exact ⟨_, _, q⟩
      obtain ⟨va', vc', rfl⟩ := hform
      have hv2 : OwnL w' base e k va' vc' (L ++ N) := by
        show w'.ownsRow base e k (.slice va' (L ++ N).length vc') (L ++ N).length (L ++ N).flatten
        rw [List.length_append, List.flatten_append]
        exact hv
      have := h va' vc' w' hv2 hk hB (by
        have hcase : ∀ (p q : Option Addr) (np nq cp cq : Nat), (Value.slice p np cp).ownBlock = (Value.slice q nq cq).ownBlock → blk p = blk q := fun p q np nq cp cq h => by
          cases p <;> cases q <;> simp_all [Value.ownBlock, blk]
        rcases hb with hb | hb
        · exact .inl (hcase _ _ _ _ _ _ hb)
        · right
          cases va' with
          | none => simp [Value.ownBlock] at hb
          | some ad' => simp [Value.ownBlock] at hb; simp [blk, hb])
      rwa [List.length_append] at this
end
/-- A box that is known whole: its cells, and that it may be written. -/
theorem whole_cell {w : World} {b : Nat} {cs : Array Value} {t : TypeId} (h : w.heap[b]? = some (.cells cs t (0, 0))) (i : Nat) (v : Value) (hi : cs[i]? = some v) : w.cell? ⟨b, i, none⟩ = some v := by
  simp [World.cell?, h, hi]
theorem whole_frozen {w : World} {b : Nat} {cs : Array Value} {t : TypeId} (h : w.heap[b]? = some (.cells cs t (0, 0))) (i : Nat) : w.frozen? ⟨b, i, none⟩ = false := by
  simp [World.frozen?, h]
end Go.Proofs.YtgmpdnmheiblpaaDoor.pg
/- A state in a box, and its lists. -/
namespace Go.Proofs.YtgmpdnmheiblpaaDoor.pg
open Go.ChangeShapes Go.WideShapes Go.ChangeAt Go.RowKit
set_option linter.unusedVariables false
set_option linter.unusedSimpArgs false
set_option maxRecDepth 100000
abbrev Sts.val (s : Sts) : Value := .agg s.cells.toArray
abbrev Chc.vl (c : Chc) : Value := .agg c.cells.toArray
abbrev objSt (s : Sts) : Obj := .cells s.cells.toArray 38
abbrev objCh (c : Chc) : Obj := .cells c.cells.toArray 32
def InS (w : World) (B : Nat) (s : Sts) : Prop := w.heap[B]? = some (objSt s)
theorem InS.lt {w : World} {B : Nat} {x : Sts} (h : InS w B x) : B < w.heap.size := (Array.getElem?_eq_some_iff.mp h).1
theorem InS.later {w w' : World} {B : Nat} {x : Sts} (h : InS w B x) (hb : Below w.heap.size w w') : InS w' B x := (hb.block B h.lt).trans h
theorem inS_new (w : World) (x : Sts) : InS (w.alloc (objSt x)) w.heap.size x := heap_alloc_new w _
theorem infoS121 : (Tryd.prog.info? 38).map (·.size) = some 121 := by kernel_rfl
theorem infoS {s : Sts} (h : s.wf) : (Tryd.prog.info? 38).map (·.size) = some s.cells.toArray.size := by rw [infoS121, List.size_toArray, Sts.len h]
theorem infoC9 : (Tryd.prog.info? 32).map (·.size) = some 9 := by kernel_rfl
theorem infoC {c : Chc} (h : c.wf) : (Tryd.prog.info? 32).map (·.size) = some c.cells.toArray.size := by rw [infoC9, List.size_toArray, Chc.len h]
theorem oneS (s : Sts) : s.cells.toArray.all (·.oneCell') = true := by
  rw [List.all_toArray, List.all_eq_true]
  intro u hu
  simp only [Sts.cells, List.mem_append, List.mem_map, List.mem_flatten, List.mem_singleton] at hu
  rcases hu with ⟨x, _, rfl⟩ | ⟨x, _, rfl⟩ | ⟨l, ⟨c, _, rfl⟩, hu⟩ | ⟨l, ⟨g, _, rfl⟩, hu⟩ | rfl
  · rfl
  · rfl
  · simp only [Chc.cells, List.mem_append, List.mem_map, List.mem_cons, List.not_mem_nil, or_false] at hu
    rcases hu with ⟨x, _, rfl⟩ | rfl | rfl | rfl | rfl | rfl <;> rfl
  · simp only [Gr.cells, List.mem_append, List.mem_map, List.mem_cons, List.not_mem_nil, or_false] at hu
    rcases hu with (rfl | rfl | rfl | rfl) | ⟨x, _, rfl⟩ <;> rfl
  · rfl
theorem oneC (c : Chc) : c.cells.toArray.all (·.oneCell') = true := by
  rw [List.all_toArray, List.all_eq_true]
  intro u hu
  simp only [Chc.cells, List.mem_append, List.mem_map, List.mem_cons, List.not_mem_nil, or_false] at hu
  rcases hu with ⟨x, _, rfl⟩ | rfl | rfl | rfl | rfl | rfl <;> rfl
/-- Rows that stand in a box. -/
theorem rows_of {w : World} {B : Nat} {cs : List Value} {t : TypeId} (h : w.heap[B]? = some (.cells cs.toArray t (0, 0))) {off k cap : Nat} (L : List (List Value)) (hk : ∀ row ∈ L, row.length = k) (hc : L.length ≤ cap) (hm : cap ≤ 9223372036854775807) (a c : List Value) (e : cs = a ++ (L.flatten ++ c)) (ho : a.length = off) : Rows w k (some ⟨B, off, none⟩) cap L := by
  refine ⟨hc, hm, by simp, .inr ⟨B, off, rfl, (Array.getElem?_eq_some_iff.mp h).1, fun i row hi => ⟨hk row (List.mem_of_getElem? hi), fun j u hj => cell_ofG h ?_⟩⟩⟩
  have hjk : j < k := by rw [← hk row (List.mem_of_getElem? hi)]; exact (List.getElem?_eq_some_iff.mp hj).1
  have := flatten_at L hk i row hi j hjk
  rw [hj] at this
  have hlt := (List.getElem?_eq_some_iff.mp this).1
  rw [List.getElem?_toArray, e, List.getElem?_append_right (by omega), ho, Nat.add_sub_cancel_left, List.getElem?_append_left hlt]
  exact this
theorem InS.vars {w : World} {B : Nat} {s : Sts} (h : InS w B s) (hw : s.wf) : Rows w 1 (some ⟨B, 0, none⟩) 8 (s.vars.map chCells) :=
  rows_of h _ (fun r hr => by obtain ⟨x, _, rfl⟩ := List.mem_map.mp hr; rfl) (by rw [List.length_map, hw.lv]; omega) (by omega) [] (ints s.own ++ ((s.ch.map Chc.cells).flatten ++ ((s.gos.map Gr.cells).flatten ++ [.int .i64 s.cnt]))) (by rw [← ints_flat]; rfl) rfl
theorem InS.own {w : World} {B : Nat} {s : Sts} (h : InS w B s) (hw : s.wf) : Rows w 1 (some ⟨B, 8, none⟩) 4 (s.own.map chCells) :=
  rows_of h _ (fun r hr => by obtain ⟨x, _, rfl⟩ := List.mem_map.mp hr; rfl) (by rw [List.length_map, hw.lo]; omega) (by omega) (ints s.vars) ((s.ch.map Chc.cells).flatten ++ ((s.gos.map Gr.cells).flatten ++ [.int .i64 s.cnt])) (by rw [← ints_flat]; rfl) (by simp [hw.lv])
theorem InS.chs {w : World} {B : Nat} {s : Sts} (h : InS w B s) (hw : s.wf) : Rows w 9 (some ⟨B, 12, none⟩) 4 (s.ch.map Chc.cells) :=
  rows_of h _ (fun r hr => by obtain ⟨x, hx, rfl⟩ := List.mem_map.mp hr; exact Chc.len (hw.ac x hx)) (by rw [List.length_map, hw.lc]; omega) (by omega) (ints s.vars ++ ints s.own) ((s.gos.map Gr.cells).flatten ++ [.int .i64 s.cnt]) (by rw [List.append_assoc]; rfl) (by simp [hw.lv, hw.lo])
theorem InS.gos {w : World} {B : Nat} {s : Sts} (h : InS w B s) (hw : s.wf) : Rows w 12 (some ⟨B, 48, none⟩) 6 (s.gos.map Gr.cells) :=
  rows_of h _ (fun r hr => by obtain ⟨x, hx, rfl⟩ := List.mem_map.mp hr; exact Gr.len (hw.ag x hx)) (by rw [List.length_map, hw.lg]; omega) (by omega) (ints s.vars ++ (ints s.own ++ (s.ch.map Chc.cells).flatten)) [.int .i64 s.cnt] (by simp only [List.append_assoc]; rfl) (by simp only [List.length_append, List.length_map, hw.lv, hw.lo, flat_len Chc.cells 9 _ fun c hc => Chc.len (hw.ac c hc), hw.lc])
theorem InS.cnt {w : World} {B : Nat} {s : Sts} (h : InS w B s) (hw : s.wf) : w.cell? ⟨B, 120, none⟩ = some (.int .i64 s.cnt) := by
  refine cell_ofG h ?_
  rw [List.getElem?_toArray]
  have e : s.cells = (ints s.vars ++ (ints s.own ++ ((s.ch.map Chc.cells).flatten ++ (s.gos.map Gr.cells).flatten))) ++ [.int .i64 s.cnt] := by simp only [List.append_assoc]; rfl
  have l : (ints s.vars ++ (ints s.own ++ ((s.ch.map Chc.cells).flatten ++ (s.gos.map Gr.cells).flatten))).length = 120 := by
    simp only [List.length_append, List.length_map, hw.lv, hw.lo, flat_len Chc.cells 9 _ fun c hc => Chc.len (hw.ac c hc), hw.lc, flat_len Gr.cells 12 _ fun c hc => Gr.len (hw.ag c hc), hw.lg]
  rw [e, List.getElem?_append_right (by omega), l]
  rfl
theorem Rows.drp {w : World} {k b off cap : Nat} {L : List (List Value)} (h : Rows w k (some ⟨b, off, none⟩) cap L) (m : Nat) (hm : m ≤ L.length) : Rows w k (some ⟨b, off + m * k, none⟩) (cap - m) (L.drop m) := by
  obtain ⟨h1, h2, h3, h4⟩ := h
  refine ⟨by rw [List.length_drop]; omega, by omega, by simp, ?_⟩
  rcases h4 with rfl | ⟨b', off', ha, hlt, hc⟩
  · exact .inl (by simp)
  · simp only [Option.some.injEq, Addr.mk.injEq, and_true] at ha
    obtain ⟨rfl, rfl⟩ := ha
    refine .inr ⟨b, off + m * k, rfl, hlt, fun i row hi => ?_⟩
    rw [List.getElem?_drop] at hi
    obtain ⟨q1, q2⟩ := hc (m + i) row hi
    refine ⟨q1, fun j u hj => ?_⟩
    have := q2 j u hj
    rw [Nat.add_mul] at this
    rw [show off + m * k + (i * k + j) = off + (m * k + i * k + j) by omega]
    exact this
theorem Rows.tak {w : World} {k cap : Nat} {a : Option Addr} {L : List (List Value)} (h : Rows w k a cap L) (m : Nat) : Rows w k a cap (L.take m) := by
  obtain ⟨h1, h2, h3, h4⟩ := h
  refine ⟨by rw [List.length_take]; omega, h2, fun q => ⟨by rw [(h3 q).1]; simp, (h3 q).2⟩, ?_⟩
  rcases h4 with rfl | ⟨b', off', ha, hlt, hc⟩
  · exact .inl (by simp)
  · refine .inr ⟨b', off', ha, hlt, fun i row hi => hc i row ?_⟩
    rw [List.getElem?_take] at hi
    split at hi
    · exact hi
    · simp at hi
/-- What a slice of an array from a place on is. -/
theorem sl_drop {t e : TypeId} {n k : Nat} (hu : Tryd.prog.underlying t = some (.array n e)) (hz : ∀ wx, (sizeOf e).run Tryd.prog wx = .ok k wx) {w : World} {B off : Nat} {L : List (List Value)} (hR : Rows w k (some ⟨B, off, none⟩) n L) (hL : L.length = n) (m : Nat) (hm : m ≤ n) :
    ∃ ad, (∀ wx, (Instr.sliceAt t (.pointer (some ⟨B, off, none⟩)) (some (.int .i64 (m : Int))) none none).run Tryd.prog wx = .ok (.slice (some ad) (n - m) (n - m)) wx) ∧ Rows w k (some ad) (n - m) (L.drop m) := by
  by_cases c : n = m
  · refine ⟨⟨B, off, none⟩, fun wx => ?_, ?_⟩
    · subst c
      have q2 : ¬ ((n : Int) < 0) := by omega
      simp [Instr.sliceAt, Instr.sliceBounds, run_underlying hu, asIntOf, go_sem, hz, q2]
    · have : L.drop m = [] := by rw [List.drop_eq_nil_iff]; omega
      rw [this]
      exact ⟨by simp, by omega, by simp, .inl rfl⟩
  · refine ⟨⟨B, off + m * k, none⟩, fun wx => ?_, hR.drp m (by omega)⟩
    have q1 : (m : Int) ≤ n := by omega
    have q2 : ¬ ((m : Int) < 0) := by omega
    simp [Instr.sliceAt, Instr.sliceBounds, run_underlying hu, asIntOf, go_sem, hz, q1, q2, c, hm, add_none]
theorem sl_take {t e : TypeId} {n k : Nat} (hu : Tryd.prog.underlying t = some (.array n e)) (hz : ∀ wx, (sizeOf e).run Tryd.prog wx = .ok k wx) (B off : Nat) (hn : 0 < n) (m : Nat) (hm : m ≤ n) :
    ∀ wx, (Instr.sliceAt t (.pointer (some ⟨B, off, none⟩)) none (some (.int .i64 (m : Int))) none).run Tryd.prog wx = .ok (.slice (some ⟨B, off, none⟩) m n) wx := fun wx => by
  have q1 : (m : Int) ≤ n := by omega
  have q2 : ¬ ((m : Int) < 0) := by omega
  have q3 : ¬ n = 0 := by omega
  simp [Instr.sliceAt, Instr.sliceBounds, run_underlying hu, asIntOf, go_sem, hz, q1, q2, q3, hm, Addr.add]
theorem sl_all {t e : TypeId} {n k : Nat} (hu : Tryd.prog.underlying t = some (.array n e)) (hz : ∀ wx, (sizeOf e).run Tryd.prog wx = .ok k wx) (B off : Nat) (hn : 0 < n) :
    ∀ wx, (Instr.sliceAt t (.pointer (some ⟨B, off, none⟩)) none none none).run Tryd.prog wx = .ok (.slice (some ⟨B, off, none⟩) n n) wx := fun wx => by
  have q3 : ¬ n = 0 := by omega
  simp [Instr.sliceAt, Instr.sliceBounds, run_underlying hu, asIntOf, go_sem, hz, q3, Addr.add]
end Go.Proofs.YtgmpdnmheiblpaaDoor.pg
