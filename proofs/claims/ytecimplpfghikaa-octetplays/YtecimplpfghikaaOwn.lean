/- Bytes in memory that the call itself makes: what is owned, as numbers; the contract of the statements' own 'own' (bytes in memory of their own, with room behind). -/
import Derived.Test.YtecimplpfghikaaCrc
import Derived.Laws.CopyOwn
namespace Go.Proofs.Ytecimplpfghikaa.octet
open Go.ChangeShapes Go.WideShapes Go.ChangeAt Go.RowKit
open wrapped
set_option linter.unusedVariables false
theorem info5 : (Try.prog.info? 5).map (fun i => (i.zero, i.size, i.bytes)) = some (some (.int .u8 0), 1, 1) := by kernel_rfl
/-- The first n numbers, as cells of bytes. -/
def bl (f : Nat → Nat) (n : Nat) : List Value := (List.range n).map fun i => Value.int .u8 ((f i : Nat) : Int)
theorem bl_length (f : Nat → Nat) (n : Nat) : (bl f n).length = n := by simp [bl]
theorem bl_get (f : Nat → Nat) (n i : Nat) (h : i < n) : (bl f n)[i]? = some (.int .u8 ((f i : Nat) : Int)) := by simp [bl, h]
theorem bl_none (f : Nat → Nat) (n i : Nat) (h : n ≤ i) : (bl f n)[i]? = none := by simp [bl, h]
theorem bl_one (f : Nat → Nat) (n : Nat) : ∀ u ∈ bl f n, u.oneCell' = true := by
  intro u hu
  simp only [bl, List.mem_map] at hu
  obtain ⟨i, _, rfl⟩ := hu
  rfl
theorem bl_congr (f g : Nat → Nat) (n : Nat) (h : ∀ i, i < n → f i = g i) : bl f n = bl g n := by
  unfold bl
  refine List.map_congr_left fun i hi => ?_
  rw [h i (by simpa using hi)]
/-- Two lists of bytes one behind the other. -/
def cat (f : Nat → Nat) (n : Nat) (g : Nat → Nat) : Nat → Nat := fun i => if i < n then f i else g (i - n)
theorem bl_cat (f g : Nat → Nat) (n m : Nat) : bl f n ++ bl g m = bl (cat f n g) (n + m) := by
  apply List.ext_getElem?
  intro i
  by_cases h : i < n
  · rw [List.getElem?_append_left (by rw [bl_length]; exact h), bl_get _ _ _ h, bl_get _ _ _ (by omega)]; simp [cat, h]
  · rw [List.getElem?_append_right (by rw [bl_length]; omega), bl_length]
    by_cases h2 : i < n + m
    · rw [bl_get _ _ _ (by omega), bl_get _ _ _ h2]; simp [cat, h]
    · rw [bl_none _ _ _ (by omega), bl_none _ _ _ (by omega)]
theorem cat_lt (f g : Nat → Nat) (n : Nat) (hf : ∀ i, f i < 256) (hg : ∀ i, g i < 256) (i : Nat) : cat f n g i < 256 := by
  unfold cat; split
  · exact hf i
  · exact hg _
/-- The slice of n bytes with room for c that the call made as block g. -/
abbrev mine (g n c : Nat) : Value := .slice (some ⟨g, 0, none⟩) n c
abbrev Owns (w : World) (base g n c : Nat) (f : Nat → Nat) : Prop := w.ownsRow base 5 1 (mine g n c) n (bl f n)
theorem Owns.row {w : World} {base g n c : Nat} {f : Nat → Nat} (h : Owns w base g n c f) (hn : n ≤ 9223372036854775807) (hf : ∀ i, f i < 256) : Row w (some ⟨g, 0, none⟩) n f :=
  ⟨hn, hf, .inr ⟨g, 0, rfl, fun i hi => by rw [Nat.zero_add, World.ownsRow.cellAt h i (by omega), bl_get _ _ _ hi]⟩⟩
theorem Owns.block {w : World} {base g n c : Nat} {f : Nat → Nat} (h : Owns w base g n c f) : g < w.heap.size := by
  rcases h.2 with ⟨h', _⟩ | ⟨g', cap', cur, h', _, hg, _⟩
  · simp at h'
  · simp only [Value.slice.injEq, Option.some.injEq, Addr.mk.injEq, and_true, true_and] at h'
    obtain ⟨rfl, rfl⟩ := h'
    exact (Array.getElem?_eq_some_iff.mp hg).1
/-- What the call owns stays, behind what leaves the blocks up to it as they were. -/
theorem Owns.later {w w' : World} {base g n c : Nat} {f : Nat → Nat} (h : Owns w base g n c f) (hb : Below w.heap.size w w') : Owns w' base g n c f := by
  have hl := Owns.block h
  refine ⟨h.1, ?_⟩
  rcases h.2 with h' | ⟨g', cap', cur, h', hbs, hg, hr⟩
  · exact .inl h'
  · have hg' := h'
    simp only [Value.slice.injEq, Option.some.injEq, Addr.mk.injEq, and_true, true_and] at h'
    obtain ⟨rfl, rfl⟩ := h'
    exact .inr ⟨g, c, cur, rfl, hbs, (hb.block g hl).trans hg, hr⟩
/-- The bytes of a list that is read, as the cells that an append or a copy takes. -/
theorem Row.cells {w : World} {a : Option Addr} {n : Nat} {f : Nat → Nat} (h : Row w a n f) (ad : Addr) (ha : a = some ad) (j : Nat) (u : Value) (hj : (bl f n)[j]? = some u) : w.cell? (ad.add j) = some u := by
  have hjn : j < n := by
    have := (List.getElem?_eq_some_iff.mp hj).1
    rwa [bl_length] at this
  rcases h.2.2 with h0 | ⟨b, off, hb, hc⟩
  · omega
  · rw [ha] at hb
    obtain rfl := Option.some.inj hb
    rw [bl_get f n j hjn] at hj
    rw [← hj, ← hc j hjn]
    by_cases h0 : j = 0
    · subst h0; rfl
    · simp [Addr.add, h0]
theorem grown_below {w w' : World} (h : w.grownBy w' none) : Below w.heap.size w w' := (Below.refl _ w).grown h (Nat.le_refl _) (fun k e => by cases e)
/-- Bytes in memory of their own, with room behind. -/
theorem own_any (a : Option Addr) (n c : Nat) (f : Nat → Nat) (w : World) (hr : Row w a n f) (hn : a = none → n = 0 ∧ c = 0) (hl : n ≤ 140737488351232) :
    Calls Try.prog 9 #[.slice a n c] w fun e w' => e = .returned (mine w.heap.size n (n + 16)) ∧ Owns w' w.heap.size w.heap.size n (n + 16) f ∧ Below w.heap.size w w' := by
  obtain ⟨i0, hi, hz0, hz1, hz2⟩ := info_parts info5
  go_enter Try.func9, Try.ntmps9
  go_wp2_with (first
    | (at_make; refine wpList_make_own _ rfl _ _ 22 rfl w.heap.size 5 i0 (.int .u8 0) 1 Try.underlying22 hi hz0 hz1 .i64 .i64 _ (n + 16) rfl rfl (by omega) (by rw [hz2]; omega) (by unfold maxLen; omega) (Nat.le_refl _) ?_; intro w1 ho1 hg1)
    | (at_builtin; refine wpList_append_fits_any _ rfl _ _ 22 rfl w.heap.size 5 i0 1 Try.underlying22 hi hz1 w.heap.size 0 (n + 16) _ rfl ho1 a n c (bl f n) rfl (by rw [bl_length]; omega) hn (fun ad ha => Row.cells (hr.later (grown_below hg1)) ad ha) (bl_one f n) (by omega) ?_; intro w2 ho2 hg2; simp only [Nat.zero_add, List.nil_append] at ho2))
  go_ret
  exact ⟨rfl, ho2, (grown_below hg1).grown hg2 hg1.size (fun k e => by simp at e; omega)⟩
end Go.Proofs.Ytecimplpfghikaa.octet
