/- An empty list literal; a row of a list written over. -/
import Derived.Test.YtkhhkgfaakgdfaaM22
import Derived.Test.YtkhhkgfaakgdfaaM9
import Derived.Test.YtkhhkgfaakgdfaaM42
namespace Go.Proofs.Ytkhhkgfaakgdfaa.pg
open Go.ChangeShapes Go.WideShapes Go.ChangeAt Go.RowKit
set_option linter.unusedVariables false
set_option linter.unusedSimpArgs false
theorem wpList_empty {P : Program} {ops : Array Oper} {rest : List Oper} {o : Oper} {a : Act} {w : World} {Q : Exit → Act → World → Prop} (hg : o.guard = none) (t e : TypeId) (ho : o.op = .buildSlice t 0 #[]) (ie : TypeInfo)
    (hu : P.underlying t = some (.slice e)) (hie : P.info? e = some ie)
    (h : wpList P ops Q rest (a.put o.dst (.slice (some ⟨w.heap.size, 0, none⟩) 0 0)) (w.alloc (.cells #[] e))) : wpList P ops Q (o :: rest) a w :=
  wpList_plain hg fun _ hK => by
    have hr : (Instr.buildSlice t 0 #[]).run P w = .ok (.slice (some ⟨w.heap.size, 0, none⟩) 0 0) (w.alloc (.cells #[] e)) := by
      simp [Instr.buildSlice, run_underlying hu, sizeOf, typeInfo, hie, newRow, Instr.fill, go_sem]
    unfold Oper.wp execOp
    simp only [ho, Sem.run_bind, Sem.run_pure, Result.andThen_ok, List.map_toArray, List.map_nil, Array.map_empty, hr]
    exact hK _ _ h
theorem own_empty (w : World) (lo e k : Nat) (hl : lo ≤ w.heap.size) : OwnL (w.alloc (.cells #[] e)) lo e k (some ⟨w.heap.size, 0, none⟩) 0 [] :=
  ⟨by simp, .inr ⟨w.heap.size, 0, #[], rfl, hl, heap_new_q w _, by simp, by unfold maxLen; omega, by simp, by simp⟩⟩
/-- A row of an own list can be written over. -/
theorem own_there {w : World} {lo e k : Nat} {g cap : Nat} {L : List (List Value)} (h : OwnL w lo e k (some ⟨g, 0, none⟩) cap L) (hk : ∀ row ∈ L, row.length = k) {i : Nat} (hi : i < L.length) : w.there g (i * k) k := by
  have hr := own_rows h hk
  obtain ⟨x, hx, hm⟩ := get_lt L i hi
  obtain ⟨b0, off, ha, hlt, hc⟩ := hr.row hx
  intro j hj
  refine ⟨?_, ?_⟩
  · have hlt2 : i * k + j < L.length * k := by
      have : (i + 1) * k ≤ L.length * k := Nat.mul_le_mul_right k hi
      rw [Nat.add_mul] at this
      omega
    rw [World.ownsRow.cellAt h (i * k + j) hlt2, flatten_at L hk i x hx j hj, List.getElem?_eq_getElem (by rw [hk x hm]; exact hj)]
    rfl
  · rcases h.2 with ⟨h1, _⟩ | ⟨g', cap', cur, h1, _, hg, _⟩
    · simp only [Value.slice.injEq] at h1
      cases h1.1
    · simp only [Value.slice.injEq, Option.some.injEq, Addr.mk.injEq, and_true, true_and] at h1
      rw [h1.1]
      exact frozen_of_row _ _ _ _ _ hg
theorem rows_put {w : World} {k g cap : Nat} {L : List (List Value)} (h : Rows w k (some ⟨g, 0, none⟩) cap L) {i : Nat} (hi : i < L.length) {row : List Value} (hr : row.length = k) (ht : w.there g (i * k) k) : Rows (w.setCells g (i * k) row) k (some ⟨g, 0, none⟩) cap (L.set i row) := by
  obtain ⟨h1, h2, h3, h4⟩ := h
  rcases h4 with rfl | ⟨b, off, ha, hlt, hc⟩
  · simp at hi
  · simp only [Option.some.injEq, Addr.mk.injEq, and_true] at ha
    obtain ⟨rfl, rfl⟩ := ha
    refine ⟨by simpa using h1, h2, by simp, .inr ⟨g, 0, rfl, ?_, fun q rw' hq => ?_⟩⟩
    · have := (World.keptBut_setCells g (may := fun _ => True) row (i * k) w (fun _ _ => trivial))
      have hs : w.heap.size ≤ (w.setCells g (i * k) row).heap.size := by
        have e : ∀ (vs : List Value) (o : Nat) (w : World), (w.setCells g o vs).heap.size = w.heap.size := by
          intro vs
          induction vs with
          | nil => intro o w; rfl
          | cons v vs ih => intro o w; simp only [World.setCells]; rw [ih]; exact World.size_setCell _ _ _
        rw [e]; exact Nat.le_refl _
      omega
    · rw [List.getElem?_set] at hq
      by_cases c : i = q
      · subst c
        rw [if_pos rfl, if_pos hi, Option.some.injEq] at hq
        subst hq
        refine ⟨hr, fun j u hj => ?_⟩
        have hjl := (List.getElem?_eq_some_iff.mp hj).1
        rw [Nat.zero_add]
        rw [World.cell?_setCells_in g row (i * k) w (fun j hj => (ht j (by omega)).1) j hjl]
        rw [← hj, List.getElem?_eq_getElem hjl]
      · rw [if_neg c] at hq
        obtain ⟨r1, r2⟩ := hc q rw' hq
        refine ⟨r1, fun j u hj => ?_⟩
        rw [World.cell?_setCells_out g row (i * k) w]
        · exact r2 j u hj
        · intro _ _
          show 0 + (q * k + j) < i * k ∨ i * k + row.length ≤ 0 + (q * k + j)
          have hjl : j < k := by have := (List.getElem?_eq_some_iff.mp hj).1; omega
          rw [hr]
          rcases Nat.lt_or_gt_of_ne c with c | c
          · right
            have : (i + 1) * k ≤ q * k := Nat.mul_le_mul_right k c
            rw [Nat.add_mul] at this
            omega
          · left
            have : (q + 1) * k ≤ i * k := Nat.mul_le_mul_right k c
            rw [Nat.add_mul] at this
            omega
theorem size_setCells (g : Nat) : ∀ (vs : List Value) (o : Nat) (w : World), (w.setCells g o vs).heap.size = w.heap.size
  | [], _, _ => rfl
  | v :: vs, o, w => by simp only [World.setCells]; rw [size_setCells g vs]; exact World.size_setCell _ _ _
theorem below_setCells {n₀ g : Nat} (hg : n₀ ≤ g) : ∀ (vs : List Value) (o : Nat) (w w' : World), Below n₀ w w' → Below n₀ w (w'.setCells g o vs)
  | [], _, _, _, h => h
  | v :: vs, o, w, w', h => below_setCells hg vs (o + 1) w _ (h.setCell (p := ⟨g, o, none⟩) hg v)
theorem rows_ix_g {t e : TypeId} {k : Nat} (hu : Try.prog.underlying t = some (.slice e)) (hz : ∀ wx, (sizeOf e).run Try.prog wx = .ok k wx) (g n cap i : Nat) (h : i < n) : ∀ wx, (Instr.indexAt t (.slice (some ⟨g, 0, none⟩) n cap) (.int .i64 (i : Int))).run Try.prog wx = .ok (.pointer (some ⟨g, i * k, none⟩)) wx := by
  intro wx
  have q1 : (i : Int) < n := by omega
  have q2 : ¬ (i : Int) < 0 := by omega
  simp [Instr.indexAt, run_underlying hu, asIntOf, go_sem, hz, q1, q2, h]
end Go.Proofs.Ytkhhkgfaakgdfaa.pg
/- OrderCuts. -/
namespace Go.Proofs.Ytkhhkgfaakgdfaa.pg
open Go.ChangeShapes Go.WideShapes Go.ChangeAt Go.RowKit Go.Shelf
set_option linter.unusedVariables false
set_option linter.unusedSimpArgs false
set_option maxRecDepth 100000
attribute [local go_sem ↓] Go.wp_at_zero Go.wp_at_succ
set_option maxHeartbeats 1000000 in
theorem cuts_err (l : List Ev) (la : Option Addr) (lc : Nat) (ps : List Int) (pa : Option Addr) (pc : Nat) (i : Int) (w : World) (hl : Rows w 26 la lc (l.map Ev.cells)) (hp : Rows w 1 pa pc (ps.map chCells)) (c : Int) (hc : lookP l ps c) :
    Calls Try.prog 7 #[.slice la l.length lc, .slice pa ps.length pc, .int .i64 i] w fun e w' => e = .returned (.bool true) ∧ Below w.heap.size w w' := by
  have c1 := closed_err l la lc ps pa pc w hl hp c hc
  have h7 := lookP_c hc
  have cS : ∀ wx, Calls Try.prog 16 #[] wx fun e w' => e = .returned (.bool true) ∧ Below wx.heap.size wx w' := fun wx => speaks12_any wx
  clear hl hc hp
  rcases h7 with rfl | rfl | rfl
  all_goals
    go_enter Try.func7, Try.ntmps7
    go_wp2_with (first
      | (go_at_call 30; (with_reducible refine c1.mono ?_); rintro e w1 ⟨rfl, hb'⟩; (have hb : Hid (Below w.heap.size w w1) := hb'); clear hb' c1)
      | (go_at_call 16; (with_reducible refine (cS _).mono ?_); rintro e w2 ⟨rfl, hb2⟩; (have hb : Hid (Below w.heap.size w w2) := bthen hb.out hb2); clear hb2))
    go_ret
    exact ⟨rfl, hb.out⟩
def anyI (c : List Int) (x : Int) (j : Nat) : Bool := (c.take j).any fun y => y == x
theorem anyI_more {c : List Int} {x y : Int} {j : Nat} (h : c[j]? = some y) : anyI c x (j + 1) = (anyI c x j || y == x) := by
  unfold anyI
  rw [take_one c j y h, List.any_append]
  simp
theorem anyI_end {c : List Int} {x : Int} (h : x ∈ c) : anyI c x c.length = true := by
  unfold anyI
  rw [List.take_length, List.any_eq_true]
  exact ⟨x, h, by simp⟩
/-- What is known of the least cut that has a list of places. -/
theorem closed_pack (l : List Ev) (la : Option Addr) (lc : Nat) (ps : List Int) (pa : Option Addr) (pc : Nat) (w : World) (hl : Rows w 26 la lc (l.map Ev.cells)) (hp : Rows w 1 pa pc (ps.map chCells)) (hlen : l.length ≤ 256) (hrt : ∀ x ∈ l, rightP x) (hps : ps.length ≤ 256) (hin : ∀ p ∈ ps, 0 ≤ p ∧ p < l.length) {B : Nat → Nat → Bool} (hB : Tells (dpf l) B) :
    ∃ c : List Int, c.length ≤ 256 ∧ (∀ x ∈ ps, x ∈ c)
      ∧ (Calls Try.prog 30 #[.slice la l.length lc, .slice pa ps.length pc] w fun e w' => ∃ va vc, e = .returned (.tuple #[.slice va c.length vc, .int .i64 0]) ∧ LsS w c va vc w')
      ∧ (∀ va vc wx, LsS w c va vc wx → Calls Try.prog 29 #[.slice la l.length lc, .slice va c.length vc] wx fun e w' => e = .returned (.tuple #[.bool true, .int .i64 0]) ∧ Below wx.heap.size wx w')
      ∧ (∀ va vc wx, LsS w c va vc wx → Calls Try.prog 30 #[.slice la l.length lc, .slice va c.length vc] wx fun e w' => ∃ ua uc, e = .returned (.tuple #[.slice ua c.length uc, .int .i64 0]) ∧ Rows w' 1 ua uc (c.map chCells) ∧ Below wx.heap.size wx w') := by
  have hCl := cloB_lt hB (fOf_lt hin)
  have c1 := closed_ok l la lc ps pa pc w hl hp hlen hrt hps hin hB
  have hC1 : fOf (lst (cloB B l.length (fOf ps)) 256) = cloB B l.length (fOf ps) := fOf_lst fun k h => by have := hCl k h; omega
  have hC2 := lst_in hCl
  have hC3 := lst_len (cloB B l.length (fOf ps)) 256
  have hC4 : cloB B l.length (cloB B l.length (fOf ps)) = cloB B l.length (fOf ps) := funext fun a => cloB_clo hB _ _ a
  have hC5 : ∀ x ∈ ps, x ∈ lst (cloB B l.length (fOf ps)) 256 := fun x hx => by
    obtain ⟨x0, x1⟩ := hin x hx
    obtain ⟨a, rfl⟩ := Int.eq_ofNat_of_zero_le x0
    rw [lst_mem]
    exact ⟨a, by omega, (cloB_iff _ _ _ _).mpr (.inl ((fOf_iff ps a).mpr hx)), rfl⟩
  generalize hc : lst (cloB B l.length (fOf ps)) 256 = c at *
  generalize cloB B l.length (fOf ps) = f at *
  subst hC1
  refine ⟨c, hC3, hC5, c1, fun va vc wx h => ?_, fun va vc wx h => ?_⟩
  · exact cut_ok l la lc c va vc wx (hl.later h.be) h.rows hlen hrt hC3 hC2 hB true (cut_all hC4)
  · have h5 := closed_ok l la lc c va vc wx (hl.later h.be) h.rows hlen hrt hC3 hC2 hB
    rw [hC4, hc] at h5
    refine h5.mono ?_
    rintro e w' ⟨ua, uc, he, hs⟩
    exact ⟨ua, uc, he, hs.rows, hs.be⟩
theorem linear_all (l : List Ev) (la : Option Addr) (lc : Nat) (va : Option Addr) (vc : Nat) (w wx : World) (hl : Rows w 26 la lc (l.map Ev.cells)) (h : LsS w (allL l.length) va vc wx) (hlen : l.length ≤ 256) (hrt : ∀ x ∈ l, rightP x) :
    Calls Try.prog 28 #[.slice la l.length lc, .slice va (allL l.length).length vc] wx fun e w' => e = .returned (.tuple #[.bool true, .int .i64 0]) ∧ Below wx.heap.size wx w' := by
  have h1 := allL_len l.length
  have h2 := allL_set hlen
  have h3 := allL_in l.length
  have h4 : true = linB (rel (evf l) l.length).2 (atS l.length (allL l.length) (allL l.length).length) := by rw [h1]; exact linB_all (rel_pairs (evf l) l.length)
  have h5 := h.rows
  have h6 := h.be
  clear h
  generalize allL l.length = c at *
  exact linear_ok l la lc c va vc wx (hl.later h6) h5 hlen hrt (by rw [h1]; exact hlen) h3 h1 h2 true h4
theorem one1all (P : List Int) : ∀ row ∈ P.map chCells, ∀ u ∈ row, u.oneCell' = true := fun row hr => by
  rw [List.mem_map] at hr
  obtain ⟨y, _, rfl⟩ := hr
  exact one1u y
/-- What is known of an event with its past. -/
theorem past_pack (l : List Ev) (la : Option Addr) (lc : Nat) (i : Nat) (w : World) (hl : Rows w 26 la lc (l.map Ev.cells)) (hlen : l.length ≤ 256) (hrt : ∀ x ∈ l, rightP x) {B : Nat → Nat → Bool} (hB : Tells (dpf l) B) (hi : i < l.length) :
    ∃ P : List Int, P.length ≤ 255
      ∧ (∀ wx, Below w.heap.size w wx → Calls Try.prog 24 #[.slice la l.length lc, .int .i64 (i : Int)] wx fun e w' => ∃ va vc, e = .returned (.tuple #[.slice va P.length vc, .int .i64 0]) ∧ LsS wx P va vc w')
      ∧ (∀ va vc wx, LsS w (P ++ [(i : Int)]) va vc wx → Calls Try.prog 29 #[.slice la l.length lc, .slice va (P.length + 1) vc] wx fun e w' => e = .returned (.tuple #[.bool true, .int .i64 0]) ∧ Below wx.heap.size wx w') := by
  have h1 := past_len hB hi
  have h2 := past_in (B := B) hi
  have h3 := past_cut hB hi
  have h4 := past_same hlen hrt hB hi
  refine ⟨lst (fun k => B k i) l.length, by omega, fun wx hb => ?_, fun va vc wx h => ?_⟩
  · have := past_ok l la lc i wx (hl.later hb) hlen hrt hi
    rwa [h4] at this
  · have h5 := h.rows
    have h6 := h.be
    clear h h4
    generalize lst (fun k => B k i) l.length = P at *
    have := cut_ok l la lc (P ++ [(i : Int)]) va vc wx (hl.later h6) h5 hlen hrt (by rw [List.length_append, List.length_singleton]; omega) h2 hB true (cut_all h3)
    rwa [List.length_append, List.length_singleton] at this
end Go.Proofs.Ytkhhkgfaakgdfaa.pg
