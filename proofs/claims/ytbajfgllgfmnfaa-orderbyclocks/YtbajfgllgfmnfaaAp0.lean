/- One element appended to a list of the call's own. -/
import Derived.Test.YtbajfgllgfmnfaaCp0
namespace Go.Proofs.Ytbajfgllgfmnfaa.pg
open Go.ChangeShapes Go.WideShapes Go.ChangeAt Go.RowKit
set_option linter.unusedVariables false
set_option linter.unusedSimpArgs false
set_option maxRecDepth 100000
theorem info_q {P : Program} {e : TypeId} {z : Value} {k b : Nat} (h : (P.info? e).map (fun i => (i.zero, i.size, i.bytes)) = some (some z, k, b)) : ∃ i, P.info? e = some i ∧ i.zero = some z ∧ i.size = k ∧ i.bytes = b := by
  obtain ⟨i, hi, h2⟩ := Option.map_eq_some_iff.mp h
  simp only [Prod.mk.injEq] at h2
  exact ⟨i, hi, h2.1, h2.2.1, h2.2.2⟩
theorem own_nil_q (w : World) (lo e k : Nat) : OwnL w lo e k none 0 [] := ⟨by simp, .inl ⟨rfl, rfl⟩⟩
theorem heap_new_q (w : World) (o : Obj) : (w.alloc o).heap[w.heap.size]? = some o := (MapKept.heap_alloc w o).1
theorem rows_one_q {w : World} {b k : Nat} {cs : List Value} {t : TypeId} (h : w.heap[b]? = some (.cells cs.toArray t (0, 0))) (hk : cs.length = k) : Rows w k (some ⟨b, 0, none⟩) 1 [cs] := by
  refine ⟨by simp, by omega, by simp, .inr ⟨b, 0, rfl, (Array.getElem?_eq_some_iff.mp h).1, fun i row hi => ?_⟩⟩
  cases i with
  | zero =>
    simp at hi
    subst hi
    refine ⟨hk, fun j u hj => ?_⟩
    have := whole_cell h j u (by simpa using hj)
    simpa using this
  | succ i => simp at hi
theorem below_min {B : Nat} {a w w' : World} (h : Below B a w) (hB : B ≤ w.heap.size) (k : Below (min B w.heap.size) w w') : Below B a w' := h.trans (k.mono (by omega))
theorem own_mono_q {w : World} {lo lo2 e k : Nat} {a : Option Addr} {cap : Nat} {L : List (List Value)} (h : OwnL w lo e k a cap L) (hl : lo2 ≤ lo) : OwnL w lo2 e k a cap L := by
  refine ⟨h.1, h.2.imp_right fun ⟨g, cap', cur, h1, hb, hr⟩ => ⟨g, cap', cur, h1, by omega, hr⟩⟩
/-- What an append of one element leaves: the list with it, all else as it was. -/
structure Grown (wr : World) (base e k : Nat) (va : Option Addr) (L : List (List Value)) (cs : List Value) (va' : Option Addr) (vc' : Nat) (w' : World) : Prop where
  ow : OwnL w' base e k va' vc' (L ++ [cs])
  be : Below (min base wr.heap.size) wr w'
  kp : ∀ b, b < wr.heap.size → b ∉ blk va → w'.heap[b]? = wr.heap[b]?
  bk : ∀ b ∈ blk va', b ∈ blk va ∨ wr.heap.size ≤ b
theorem wpList_app1 {P : Program} {wr : World} {ops : Array Oper} {rest : List Oper} {o : Oper} {a : Act} {Q : Exit → Act → World → Prop} (hgd : o.guard = none) (s x : Operand) (t : TypeId)
    (ho : o.op = .call { callee := .builtin .append, args := #[s, x], argTypes := #[t, t] })
    (base : Nat) (e : TypeId) (i : TypeInfo) (z : Value) (k bytes : Nat) (ht : P.underlying t = some (.slice e)) (hi : P.info? e = some i) (hz : i.zero = some z)
    (hsize : i.size = k) (hby : i.bytes = bytes) (hzs : z.cells.size = k) (hsz : 0 < k)
    (va : Option Addr) (vc : Nat) (L : List (List Value)) (hs : a.eval s = .slice va L.length vc) (hown : OwnL wr base e k va vc L) (cs : List Value)
    (hx : a.eval x = .slice (some ⟨wr.heap.size, 0, none⟩) 1 1) (hk : cs.length = k) (h1 : ∀ u ∈ cs, u.oneCell' = true)
    (h63 : L.length + 1 ≤ maxLen) (hbytes : (L.length + 1) * bytes ≤ 140737488355328) (hbase : base ≤ wr.heap.size)
    (h : ∀ va' vc' w', Grown wr base e k va L cs va' vc' w' → wpList P ops Q rest (a.put o.dst (.slice va' (L.length + 1) vc')) w') :
    wpList P ops Q (o :: rest) a (wr.alloc (.cells cs.toArray e)) := by
  have hbx := boxed wr (.cells cs.toArray e)
  have hB : base ≤ (wr.alloc (.cells cs.toArray e)).heap.size := by have := hbx.size; omega
  refine wpList_app hgd s x t ho base e i z k bytes ht hi hz hsize hby hzs hsz va vc L hs (own_keep hown fun b hb => hbx.block b (blk_lt hown b hb).2) (some ⟨wr.heap.size, 0, none⟩) 1 [cs] hx (rows_one_q (heap_new_q wr _) hk) (by intro row hr; rw [List.mem_singleton] at hr; rw [hr]; exact hk) (by intro row hr; rw [List.mem_singleton] at hr; rw [hr]; exact h1) h63 hbytes hB ?_
  intro va' vc' w' ho2 hk2 hB2 hbl
  have := h va' vc' w' ⟨ho2, ?_, ?_, ?_⟩
  · rwa [List.length_append, List.length_singleton]
  · exact (hbx.mono (by omega)).trans (hB2.mono (by have := hbx.size; omega))
  · intro b hb hm
    rw [hk2 b (by have := hbx.size; omega) hm]
    exact hbx.block b hb
  · intro b hb
    rcases hbl with q | q
    · rw [q] at hb; exact .inl hb
    · rw [q, List.mem_singleton] at hb; right; rw [hb]; exact hbx.size
end Go.Proofs.Ytbajfgllgfmnfaa.pg
