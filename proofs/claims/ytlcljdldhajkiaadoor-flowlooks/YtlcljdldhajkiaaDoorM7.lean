/- Lists that the call itself made: what it owns, what stays, and what append gives. -/
import Derived.Test.YtlcljdldhajkiaaDoorM6
import Derived.Maps.AppendAt
import Derived.Laws.AppendOwnNone
import Derived.Laws.OwnMore
import Derived.Laws.Rows
import Derived.Deep.QuietTactic
import Derived.BigQuiet
import Derived.Deep.MidRow
namespace Go.Proofs.YtlcljdldhajkiaaDoor.pg
open Go.ChangeShapes Go.WideShapes Go.ChangeAt Go.RowKit
set_option linter.unusedVariables false
set_option linter.unusedSimpArgs false
/-- A list of rows of k cells each in a block of its own. -/
abbrev OwnL (w : World) (lo : Nat) (e : TypeId) (k : Nat) (a : Option Addr) (cap : Nat) (L : List (List Value)) : Prop := w.ownsRow lo e k (.slice a L.length cap) L.length L.flatten
/-- The block of a list, if it has one. -/
def blk (a : Option Addr) : List Nat := match a with | some ad => [ad.block] | none => []
theorem flatten_at {k : Nat} : ∀ (L : List (List Value)), (∀ row ∈ L, row.length = k) → ∀ (i : Nat) (row : List Value), L[i]? = some row → ∀ j, j < k → L.flatten[i * k + j]? = row[j]?
  | [], _, i, row, h, j, hj => by simp at h
  | x :: t, hk, 0, row, h, j, hj => by
    simp at h
    subst h
    rw [Nat.zero_mul, Nat.zero_add, List.flatten_cons, List.getElem?_append_left (by rw [hk x (by simp)]; exact hj)]
  | x :: t, hk, i + 1, row, h, j, hj => by
    have hx := hk x (by simp)
    rw [List.flatten_cons, List.getElem?_append_right (by rw [hx, Nat.add_mul]; omega), hx]
    have := flatten_at t (fun r hr => hk r (by simp [hr])) i row (by simpa using h) j hj
    rw [← this]
    congr 1
    rw [Nat.add_mul]
    omega
theorem flatten_len {k : Nat} : ∀ (L : List (List Value)), (∀ row ∈ L, row.length = k) → L.flatten.length = L.length * k
  | [], _ => by simp
  | x :: t, h => by
    rw [List.flatten_cons, List.length_append, h x (by simp), flatten_len t fun r hr => h r (by simp [hr])]
    simp only [List.length_cons, Nat.add_mul]
    omega
theorem own_block {w : World} {lo e k : Nat} {a : Option Addr} {cap : Nat} {L : List (List Value)} (h : OwnL w lo e k a cap L) : a = none ∧ L.length = 0 ∧ cap = 0 ∨ ∃ g, a = some ⟨g, 0, none⟩ ∧ lo ≤ g ∧ g < w.heap.size := by
  rcases h.2 with ⟨h1, h2⟩ | ⟨g, cap', cur, h1, hb, hg, _⟩
  · simp only [Value.slice.injEq] at h1
    exact .inl h1
  · simp only [Value.slice.injEq] at h1
    exact .inr ⟨g, h1.1, hb, (Array.getElem?_eq_some_iff.mp hg).1⟩
theorem own_rows {w : World} {lo e k : Nat} {a : Option Addr} {cap : Nat} {L : List (List Value)} (h : OwnL w lo e k a cap L) (hk : ∀ row ∈ L, row.length = k) : Rows w k a cap L := by
  rcases h.2 with ⟨h1, h2⟩ | ⟨g, cap', cur, h1, hb, hg, hnc, hcm, hcs, htake⟩
  · simp only [Value.slice.injEq] at h1
    obtain ⟨rfl, hl, rfl⟩ := h1
    have : L = [] := List.length_eq_zero_iff.mp hl
    subst this
    exact ⟨by simp, by simp, by simp, .inl rfl⟩
  · simp only [Value.slice.injEq, true_and] at h1
    obtain ⟨rfl, rfl⟩ := h1
    unfold maxLen at hcm
    refine ⟨hnc, by omega, by simp, .inr ⟨g, 0, rfl, (Array.getElem?_eq_some_iff.mp hg).1, fun i row hi => ⟨hk row (List.mem_of_getElem? hi), fun j u hj => ?_⟩⟩⟩
    have hrk := hk row (List.mem_of_getElem? hi)
    have hjk : j < k := by have := (List.getElem?_eq_some_iff.mp hj).1; omega
    have hil : i < L.length := (List.getElem?_eq_some_iff.mp hi).1
    have hlt : i * k + j < L.length * k := by
      have : (i + 1) * k ≤ L.length * k := Nat.mul_le_mul_right k hil
      rw [Nat.add_mul] at this
      omega
    rw [Nat.zero_add, World.ownsRow.cellAt h (i * k + j) hlt, flatten_at L hk i row hi j hjk, hj]
theorem own_keep {w w' : World} {lo e k : Nat} {a : Option Addr} {cap : Nat} {L : List (List Value)} (h : OwnL w lo e k a cap L) (hk : ∀ g ∈ blk a, w'.heap[g]? = w.heap[g]?) : OwnL w' lo e k a cap L := by
  refine ⟨h.1, ?_⟩
  rcases h.2 with h' | ⟨g, cap', cur, h', hb, hg, hr⟩
  · exact .inl h'
  · have h1 := h'
    simp only [Value.slice.injEq] at h1
    exact .inr ⟨g, cap', cur, h', hb, by rw [hk g (by rw [h1.1]; simp [blk])]; exact hg, hr⟩
theorem blk_lt {w : World} {lo e k : Nat} {a : Option Addr} {cap : Nat} {L : List (List Value)} (h : OwnL w lo e k a cap L) : ∀ g ∈ blk a, lo ≤ g ∧ g < w.heap.size := by
  intro g hg
  rcases own_block h with ⟨rfl, _⟩ | ⟨g', rfl, h1, h2⟩
  · simp [blk] at hg
  · simp [blk] at hg
    subst hg
    exact ⟨h1, h2⟩
theorem ownBlock_blk (a : Option Addr) (n cap : Nat) (g : Nat) : (Value.slice a n cap).ownBlock = some g ↔ g ∈ blk a := by
  cases a <;> simp [Value.ownBlock, blk, eq_comm]
section
variable {P : Program} {w : World}
/-- APPEND to a list of the call's own, of a list that lies anywhere, nil too: the new value is a slice; its block is the old one, or a new one. -/
theorem wpList_app {ops : Array Oper} {rest : List Oper} {o : Oper} {a : Act} {Q : Exit → Act → World → Prop} (hgd : o.guard = none) (s x : Operand) (t : TypeId)
    (ho : o.op = .call { callee := .builtin .append, args := #[s, x], argTypes := #[t, t] })
    (base : Nat) (e : TypeId) (i : TypeInfo) (z : Value) (k bytes : Nat) (ht : P.underlying t = some (.slice e)) (hi : P.info? e = some i) (hz : i.zero = some z)
    (hsize : i.size = k) (hby : i.bytes = bytes) (hzs : z.cells.size = k) (hsz : 0 < k)
    (va : Option Addr) (vc : Nat) (L : List (List Value)) (hs : a.eval s = .slice va L.length vc) (hown : OwnL w base e k va vc L)
    (src : Option Addr) (c : Nat) (N : List (List Value)) (hx : a.eval x = .slice src N.length c) (hN : Rows w k src c N) (hNk : ∀ row ∈ N, row.length = k) (h1 : ∀ row ∈ N, ∀ u ∈ row, u.oneCell' = true)
    (h63 : L.length + N.length ≤ maxLen) (hbytes : (L.length + N.length) * bytes ≤ 140737488355328) (hbase : base ≤ w.heap.size)
    (h : ∀ va' vc' w', OwnL w' base e k va' vc' (L ++ N) → (∀ b, b < w.heap.size → b ∉ blk va → w'.heap[b]? = w.heap[b]?) → Below (min base w.heap.size) w w' → (blk va' = blk va ∨ blk va' = [w.heap.size]) → wpList P ops Q rest (a.put o.dst (.slice va' (L ++ N).length vc')) w') :
    wpList P ops Q (o :: rest) a w := by
  have hlow : ∀ b, b < min base w.heap.size → b ∉ blk va := fun b hb hm => by have := blk_lt hown b hm; omega
  cases src with
  | none =>
    have hn0 := (hN.2.2.1 rfl).1
    have hc0 := (hN.2.2.1 rfl).2
    subst hn0
    subst hc0
    refine wpList_append_own_none hgd s x t ho base e i k ht hi _ L.length L.flatten hs hown hx ?_
    have := h va vc w (by simpa using hown) (fun _ _ _ => rfl) (Below.refl _ _) (.inl rfl)
    simpa using this
  | some ad =>
    refine wpList_append_own_at w hgd s x t ho base e i z k bytes ht hi hz hsize hby hzs hsz _ L.length L.flatten hs hown ad N.length c N.flatten hx (flatten_len N hNk) (fun j u hj => ?_) (fun u hu => ?_) h63 hbytes hbase fun v' w' hv hg _ hb => ?_
    · rcases hN.2.2.2 with h0 | ⟨b, off, hab, _, hc⟩
      · subst h0; simp at hj
      · simp only [Option.some.injEq] at hab
        subst hab
        have hjl := (List.getElem?_eq_some_iff.mp hj).1
        rw [flatten_len N hNk] at hjl
        have hq : j / k < N.length := by rw [Nat.div_lt_iff_lt_mul hsz]; exact hjl
        obtain ⟨row, hr⟩ : ∃ row, N[j / k]? = some row := ⟨_, List.getElem?_eq_getElem hq⟩
        have hmod : j % k < k := Nat.mod_lt _ hsz
        have e1 : j / k * k + j % k = j := by rw [Nat.mul_comm]; exact Nat.div_add_mod j k
        have h2 := flatten_at N hNk (j / k) row hr (j % k) hmod
        rw [e1, hj] at h2
        have h3 := (hc (j / k) row hr).2 (j % k) u h2.symm
        rw [e1] at h3
        rw [add_none]
        exact h3
    · simp only [List.mem_flatten] at hu
      obtain ⟨row, hr, hu⟩ := hu
      exact h1 row hr u hu
    · have hk : ∀ b, b < w.heap.size → b ∉ blk va → w'.heap[b]? = w.heap[b]? := fun b hb2 hm => hg.block b hb2 (fun q => hm ((ownBlock_blk va L.length vc b).mp q.symm))
      have hB : Below (min base w.heap.size) w w' := ⟨hg.os, hg.tape, hg.output, hg.size, fun b hb2 => hk b (by omega) (hlow b hb2)⟩
      have hform : ∃ va' vc', v' = .slice va' (L.length + N.length) vc' := by
        rcases hv.2 with ⟨q, q2⟩ | ⟨g, cap', cur, q, _⟩
        · exact ⟨none, 0, by rw [q, q2]⟩
        · exact ⟨_, _, q⟩
      obtain ⟨va', vc', rfl⟩ := hform
      have hv2 : OwnL w' base e k va' vc' (L ++ N) := by
        show w'.ownsRow base e k (.slice va' (L ++ N).length vc') (L ++ N).length (L ++ N).flatten
        rw [List.length_append, List.flatten_append]
        exact hv
      have := h va' vc' w' hv2 hk hB (by
        have hcase : ∀ (p q : Option Addr) (np nq cp cq : Nat), (Value.slice p np cp).ownBlock = (Value.slice q nq cq).ownBlock → blk p = blk q := fun p q np nq cp cq h => by
          cases p <;> cases q <;> simp_all [Value.ownBlock, blk]
        rcases hb with hb | hb
        · exact .inl (hcase _ _ _ _ _ _ hb)
        · right
          cases va' with
          | none => simp [Value.ownBlock] at hb
          | some ad' => simp [Value.ownBlock] at hb; simp [blk, hb])
      rwa [List.length_append] at this
end
/-- A box that is known whole: its cells, and that it may be written. -/
theorem whole_cell {w : World} {b : Nat} {cs : Array Value} {t : TypeId} (h : w.heap[b]? = some (.cells cs t (0, 0))) (i : Nat) (v : Value) (hi : cs[i]? = some v) : w.cell? ⟨b, i, none⟩ = some v := by
  simp [World.cell?, h, hi]
theorem whole_frozen {w : World} {b : Nat} {cs : Array Value} {t : TypeId} (h : w.heap[b]? = some (.cells cs t (0, 0))) (i : Nat) : w.frozen? ⟨b, i, none⟩ = false := by
  simp [World.frozen?, h]
end Go.Proofs.YtlcljdldhajkiaaDoor.pg
/- One element appended to a list of the call's own. -/
namespace Go.Proofs.YtlcljdldhajkiaaDoor.pg
open Go.ChangeShapes Go.WideShapes Go.ChangeAt Go.RowKit
set_option linter.unusedVariables false
set_option linter.unusedSimpArgs false
set_option maxRecDepth 100000
theorem info_q {P : Program} {e : TypeId} {z : Value} {k b : Nat} (h : (P.info? e).map (fun i => (i.zero, i.size, i.bytes)) = some (some z, k, b)) : ∃ i, P.info? e = some i ∧ i.zero = some z ∧ i.size = k ∧ i.bytes = b := by
  obtain ⟨i, hi, h2⟩ := Option.map_eq_some_iff.mp h
  simp only [Prod.mk.injEq] at h2
  exact ⟨i, hi, h2.1, h2.2.1, h2.2.2⟩
theorem own_nil_q (w : World) (lo e k : Nat) : OwnL w lo e k none 0 [] := ⟨by simp, .inl ⟨rfl, rfl⟩⟩
theorem heap_new_q (w : World) (o : Obj) : (w.alloc o).heap[w.heap.size]? = some o := (MapKept.heap_alloc w o).1
theorem rows_one_q {w : World} {b k : Nat} {cs : List Value} {t : TypeId} (h : w.heap[b]? = some (.cells cs.toArray t (0, 0))) (hk : cs.length = k) : Rows w k (some ⟨b, 0, none⟩) 1 [cs] := by
  refine ⟨by simp, by omega, by simp, .inr ⟨b, 0, rfl, (Array.getElem?_eq_some_iff.mp h).1, fun i row hi => ?_⟩⟩
  cases i with
  | zero =>
    simp at hi
    subst hi
    refine ⟨hk, fun j u hj => ?_⟩
    have := whole_cell h j u (by simpa using hj)
    simpa using this
  | succ i => simp at hi
theorem below_min {B : Nat} {a w w' : World} (h : Below B a w) (hB : B ≤ w.heap.size) (k : Below (min B w.heap.size) w w') : Below B a w' := h.trans (k.mono (by omega))
theorem own_mono_q {w : World} {lo lo2 e k : Nat} {a : Option Addr} {cap : Nat} {L : List (List Value)} (h : OwnL w lo e k a cap L) (hl : lo2 ≤ lo) : OwnL w lo2 e k a cap L := by
  refine ⟨h.1, h.2.imp_right fun ⟨g, cap', cur, h1, hb, hr⟩ => ⟨g, cap', cur, h1, by omega, hr⟩⟩
/-- What an append of one element leaves: the list with it, all else as it was. -/
structure Grown (wr : World) (base e k : Nat) (va : Option Addr) (L : List (List Value)) (cs : List Value) (va' : Option Addr) (vc' : Nat) (w' : World) : Prop where
  ow : OwnL w' base e k va' vc' (L ++ [cs])
  be : Below (min base wr.heap.size) wr w'
  kp : ∀ b, b < wr.heap.size → b ∉ blk va → w'.heap[b]? = wr.heap[b]?
  bk : ∀ b ∈ blk va', b ∈ blk va ∨ wr.heap.size ≤ b
theorem wpList_app1 {P : Program} {wr : World} {ops : Array Oper} {rest : List Oper} {o : Oper} {a : Act} {Q : Exit → Act → World → Prop} (hgd : o.guard = none) (s x : Operand) (t : TypeId)
    (ho : o.op = .call { callee := .builtin .append, args := #[s, x], argTypes := #[t, t] })
    (base : Nat) (e : TypeId) (i : TypeInfo) (z : Value) (k bytes : Nat) (ht : P.underlying t = some (.slice e)) (hi : P.info? e = some i) (hz : i.zero = some z)
    (hsize : i.size = k) (hby : i.bytes = bytes) (hzs : z.cells.size = k) (hsz : 0 < k)
    (va : Option Addr) (vc : Nat) (L : List (List Value)) (hs : a.eval s = .slice va L.length vc) (hown : OwnL wr base e k va vc L) (cs : List Value)
    (hx : a.eval x = .slice (some ⟨wr.heap.size, 0, none⟩) 1 1) (hk : cs.length = k) (h1 : ∀ u ∈ cs, u.oneCell' = true)
    (h63 : L.length + 1 ≤ maxLen) (hbytes : (L.length + 1) * bytes ≤ 140737488355328) (hbase : base ≤ wr.heap.size)
    (h : ∀ va' vc' w', Grown wr base e k va L cs va' vc' w' → wpList P ops Q rest (a.put o.dst (.slice va' (L.length + 1) vc')) w') :
    wpList P ops Q (o :: rest) a (wr.alloc (.cells cs.toArray e)) := by
  have hbx := boxed wr (.cells cs.toArray e)
  have hB : base ≤ (wr.alloc (.cells cs.toArray e)).heap.size := by have := hbx.size; omega
  refine wpList_app hgd s x t ho base e i z k bytes ht hi hz hsize hby hzs hsz va vc L hs (own_keep hown fun b hb => hbx.block b (blk_lt hown b hb).2) (some ⟨wr.heap.size, 0, none⟩) 1 [cs] hx (rows_one_q (heap_new_q wr _) hk) (by intro row hr; rw [List.mem_singleton] at hr; rw [hr]; exact hk) (by intro row hr; rw [List.mem_singleton] at hr; rw [hr]; exact h1) h63 hbytes hB ?_
  intro va' vc' w' ho2 hk2 hB2 hbl
  have := h va' vc' w' ⟨ho2, ?_, ?_, ?_⟩
  · rwa [List.length_append, List.length_singleton]
  · exact (hbx.mono (by omega)).trans (hB2.mono (by have := hbx.size; omega))
  · intro b hb hm
    rw [hk2 b (by have := hbx.size; omega) hm]
    exact hbx.block b hb
  · intro b hb
    rcases hbl with q | q
    · rw [q] at hb; exact .inl hb
    · rw [q, List.mem_singleton] at hb; right; rw [hb]; exact hbx.size
end Go.Proofs.YtlcljdldhajkiaaDoor.pg
/- A region that draws its order, walked once in the order of its text, in every world of a class: reads, and calls that leave a world of the class. -/
namespace Go.Proofs.YtlcljdldhajkiaaDoor.pg
open Go.ChangeShapes Go.WideShapes Go.ChangeAt Go.RowKit
set_option linter.unusedVariables false
/-- A world of a class. -/
structure Cls (S : World → Prop) where
  w : World
  h : S w
theorem wp_region_cls {P : Program} (S : World → Prop) {id : Nat} {Q : Exit → Act → World → Prop} {a : Act} {w : World} {l : List Oper} (hm : P.follows .mixedOrders = true) (hB : Region.lexB .any l.toArray = true) (hS : S w.drew)
    (h : wpQuiet P l.toArray (fun w' => ∃ s : Cls S, w' = s.w) (fun a' => ∀ w', (∃ s : Cls S, w' = s.w) → Q .normal a' w') l a) : (Code.region id l.toArray true).wp P Q a w :=
  wp_region_quiet (C := fun w' => ∃ s : Cls S, w' = s.w) hm hB ⟨⟨_, hS⟩, rfl⟩ (by simpa using h)
/-- A load of many cells at once, in every world of the class. -/
theorem quiet_load_mid {P : Program} {S : World → Prop} {K : Act → Prop} {o : Oper} {a : Act} (ty : TypeId) (x : Operand) (ho : o.op = .load ty x) (b off : Nat) (hx : a.eval x = .pointer (some ⟨b, off, none⟩)) (cs : List Value) (d : TypeDesc) (hS : ∀ s : Cls S, s.w.rangeAt b off cs)
    (hu : P.underlying ty = some d) (hd : d.isRow = true) (hi : (P.info? ty).map (·.size) = some cs.length) (hk : K (a.put o.dst (.agg cs.toArray))) : o.quiet P a (fun w' => ∃ s : Cls S, w' = s.w) K :=
  ⟨_, fun w hw => by
    obtain ⟨s, rfl⟩ := hw
    unfold Oper.quietAt execOp
    simp only [ho, hx, Instr.loadAt, Instr.sureAddr, Sem.run_bind, Sem.run_pure, Result.andThen_ok, run_loadVar_mid s.w b off ty cs d (hS s) hu hd hi]
    exact ⟨rfl, rfl⟩, hk⟩
/-- A callee's contract in the class of all worlds that lie beyond one. -/
theorem calls_cls {P : Program} {f : FuncId} {args : Array Value} {S : World → Prop} {s : Cls S} {v : Value} {R : World → Prop} (h : Calls P f args s.w fun e w' => e = .returned v ∧ R w') (hR : ∀ w', R w' → S w') :
    Calls P f args s.w fun e w'' => e = .returned v ∧ ∃ t : Cls S, w'' = t.w :=
  h.mono fun _ w' ⟨he, hr⟩ => ⟨he, ⟨w', hR w' hr⟩, rfl⟩
/-- All worlds beyond one. -/
abbrev Bey (W : World) : World → Prop := fun w' => Below W.heap.size W w'
theorem bey_some (W : World) : Nonempty (Cls (Bey W)) := ⟨⟨W, Below.refl _ _⟩⟩
theorem bey_drew (W : World) : Bey W W.drew := (Below.refl _ _).drew
theorem calls_bey {P : Program} {f : FuncId} {args : Array Value} {W : World} {s : Cls (Bey W)} {v : Value} (h : Calls P f args s.w fun e w' => e = .returned v ∧ Below s.w.heap.size s.w w') :
    Calls P f args s.w fun e w'' => e = .returned v ∧ ∃ t : Cls (Bey W), w'' = t.w :=
  calls_cls h fun w' hb => bthen s.h hb
theorem bey_cell {W : World} {a : Addr} {v : Value} (h : W.cell? a = some v) (s : Cls (Bey W)) : s.w.cell? a = some v := cell_later s.h h
end Go.Proofs.YtlcljdldhajkiaaDoor.pg
