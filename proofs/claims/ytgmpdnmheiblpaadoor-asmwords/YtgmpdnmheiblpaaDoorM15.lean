/- A line's words, byte by byte; that Go's fields by runes are the same. -/
import Derived.Test.YtgmpdnmheiblpaaDoorM1
import Derived.Lib.FieldsP
import Derived.Lib.MapLaws
import Derived.Lib.IndexMore
import Derived.Test.YtgmpdnmheiblpaaDoorM13
import Derived.Lib.IndexBytes
namespace Go.Proofs.YtgmpdnmheiblpaaDoor.pg
set_option linter.unusedVariables false
open Go.Lib
def isS (b : UInt8) : Prop := b = 32 ∨ b = 9
instance (b : UInt8) : Decidable (isS b) := by unfold isS; infer_instance
/-- The words of some bytes: the one that is being read, and those that are read. -/
def wdS : List UInt8 → List UInt8 → List (List UInt8) → List UInt8 × List (List UInt8)
  | [], cur, out => (cur, out)
  | b :: t, cur, out => if isS b then wdS t [] (if cur = [] then out else out ++ [cur]) else wdS t (cur ++ [b]) out
def wdEnd (x : List UInt8 × List (List UInt8)) : List (List UInt8) := if x.1 = [] then x.2 else x.2 ++ [x.1]
def wdB (l : List UInt8) : List (List UInt8) := wdEnd (wdS l [] [])
theorem wdS_app : ∀ (u t : List UInt8) (cur : List UInt8) (out : List (List UInt8)), wdS (u ++ t) cur out = wdS t (wdS u cur out).1 (wdS u cur out).2
  | [], _, _, _ => rfl
  | b :: u, t, cur, out => by
    rw [List.cons_append, wdS, wdS]
    split
    · exact wdS_app u t _ _
    · exact wdS_app u t _ _
theorem wdS_skip : ∀ (u : List UInt8) (cur : List UInt8) (out : List (List UInt8)), (∀ b ∈ u, ¬ isS b) → wdS u cur out = (cur ++ u, out)
  | [], cur, out, _ => by simp [wdS]
  | b :: u, cur, out, h => by
    rw [wdS, if_neg (h b (by simp)), wdS_skip u _ _ fun x hx => h x (by simp [hx])]
    simp
/-- How many bytes of a text are its words. -/
theorem wdS_len : ∀ (u : List UInt8) (cur : List UInt8) (out : List (List UInt8)), (wdS u cur out).2.length ≤ out.length + u.length ∧ (wdS u cur out).1.length ≤ cur.length + u.length
  | [], cur, out => by simp [wdS]
  | b :: u, cur, out => by
    rw [wdS]
    split
    · have := wdS_len u [] (if cur = [] then out else out ++ [cur])
      have hc : (if cur = [] then out else out ++ [cur]).length ≤ out.length + 1 := by split <;> simp
      simp only [List.length_cons, List.length_nil] at this ⊢
      omega
    · have := wdS_len u (cur ++ [b]) out
      simp only [List.length_append, List.length_cons, List.length_nil] at this ⊢
      omega
def isW (r : Nat) : Bool := decide (r = 32 ∨ r = 9)
theorem isS_nat (b : UInt8) : isS b ↔ (b.toNat = 32 ∨ b.toNat = 9) := by
  unfold isS
  constructor
  · rintro (rfl | rfl)
    · exact .inl rfl
    · exact .inr rfl
  · rintro (h | h)
    · exact .inl (UInt8.toNat_inj.mp h)
    · exact .inr (UInt8.toNat_inj.mp h)
/-- What a rune is, in bytes: one that is a blank, or some that are none. -/
theorem rune_step (s : ByteArray) (pos : Nat) (h : pos < s.size) : ∃ w, (Utf8.decode s pos).2 = w ∧ 1 ≤ w ∧ pos + w ≤ s.size ∧
    ((isW (Utf8.decode s pos).1 = true ∧ w = 1 ∧ ∃ b, s.data.toList[pos]? = some b ∧ isS b) ∨ (isW (Utf8.decode s pos).1 = false ∧ ∀ k b, pos ≤ k → k < pos + w → s.data.toList[k]? = some b → ¬ isS b)) := by
  have hl : s.data.toList.length = s.size := by rw [size_eq]
  obtain ⟨b, hb⟩ : ∃ b, s.data.toList[pos]? = some b := ⟨_, List.getElem?_eq_getElem (by omega)⟩
  have g0 : s.data.toList.getD pos 0 = b := by simp [List.getD, hb]
  rw [decode_N, g0, hl]
  have gk : ∀ k c, s.data.toList[pos + k]? = some c → s.data.toList.getD (pos + k) 0 = c := fun k c hc => by simp [List.getD, hc]
  generalize hB1 : (s.data.toList.getD (pos + 1) 0) = c1 at *
  generalize hB2 : (s.data.toList.getD (pos + 2) 0) = c2 at *
  generalize hB3 : (s.data.toList.getD (pos + 3) 0) = c3 at *
  have hno : ∀ c : UInt8, 128 ≤ c.toNat → ¬ isS c := fun c hc q => by rw [isS_nat] at q; omega
  have key : ∀ r w, 1 ≤ w → w ≤ 4 → pos + w ≤ s.size → ¬ (r = 32 ∨ r = 9) → ¬ isS b → (2 ≤ w → 128 ≤ c1.toNat) → (3 ≤ w → 128 ≤ c2.toNat) → (4 ≤ w → 128 ≤ c3.toNat) → decodeN (s.size - pos) b.toNat c1.toNat c2.toNat c3.toNat = (r, w) →
      ∃ w', (decodeN (s.size - pos) b.toNat c1.toNat c2.toNat c3.toNat).2 = w' ∧ 1 ≤ w' ∧ pos + w' ≤ s.size ∧ ((isW (decodeN (s.size - pos) b.toNat c1.toNat c2.toNat c3.toNat).1 = true ∧ w' = 1 ∧ ∃ b, s.data.toList[pos]? = some b ∧ isS b) ∨ (isW (decodeN (s.size - pos) b.toNat c1.toNat c2.toNat c3.toNat).1 = false ∧ ∀ k b, pos ≤ k → k < pos + w' → s.data.toList[k]? = some b → ¬ isS b)) := by
    intro r w h1 h4 h2 hr hbs k1 k2 k3 he
    rw [he]
    refine ⟨w, rfl, h1, h2, .inr ⟨decide_eq_false hr, fun k c hk1 hk2 hc => ?_⟩⟩
    obtain ⟨j, rfl⟩ : ∃ j, k = pos + j := ⟨k - pos, by omega⟩
    match j, hk2 with
    | 0, _ => rw [Nat.add_zero, hb] at hc; cases hc; exact hbs
    | 1, hk2 => have e := gk 1 c hc; rw [hB1] at e; rw [← e]; exact hno _ (k1 (by omega))
    | 2, hk2 => have e := gk 2 c hc; rw [hB2] at e; rw [← e]; exact hno _ (k2 (by omega))
    | 3, hk2 => have e := gk 3 c hc; rw [hB3] at e; rw [← e]; exact hno _ (k3 (by omega))
    | j + 4, hk2 => omega
  rcases decodeN_shape (s.size - pos) b.toNat c1.toNat c2.toNat c3.toNat with ⟨h1, e⟩ | ⟨h1, h2, h3, h4, e⟩ | ⟨h1, h2, h3, h4, h5, h6, e⟩ | ⟨h1, h2, h3, h4, h5, h6, h7, e⟩ | e
  · by_cases hs : isS b
    · rw [e]
      exact ⟨1, rfl, Nat.le_refl _, by omega, .inl ⟨decide_eq_true ((isS_nat b).mp hs), rfl, b, hb, hs⟩⟩
    · exact key b.toNat 1 (Nat.le_refl _) (by omega) (by omega) (fun q => hs ((isS_nat b).mpr q)) hs (by omega) (by omega) (by omega) e
  · exact key _ 2 (by omega) (by omega) (by omega) (by omega) (hno b (by omega)) (fun _ => by omega) (by omega) (by omega) e
  · exact key _ 3 (by omega) (by omega) (by omega) (by omega) (hno b (by omega)) (fun _ => by omega) (fun _ => by omega) (by omega) e
  · exact key _ 4 (by omega) (by omega) (by omega) (by omega) (hno b (by omega)) (fun _ => by omega) (fun _ => by omega) (fun _ => by omega) e
  · by_cases hs : isS b
    · have h128 : b.toNat < 128 := by have := (isS_nat b).mp hs; omega
      have e2 := decodeN_ascii (s.size - pos) b.toNat c1.toNat c2.toNat c3.toNat h128
      rw [e] at e2
      simp at e2
      omega
    · exact key _ 1 (Nat.le_refl _) (by omega) (by omega) (by omega) hs (by omega) (by omega) (by omega) e
/-- A piece of a text. -/
def pcB (s : ByteArray) (x : Nat × Nat) : List UInt8 := (s.data.toList.drop x.1).take (x.2 - x.1)
theorem ext_pc (s : ByteArray) (a b : Nat) : (s.extract a b).data.toList = pcB s (a, b) := by
  cases s with
  | mk d =>
    simp only [ByteArray.extract, ByteArray.copySlice, pcB]
    apply List.ext_getElem?
    intro j
    simp
def curS (s : ByteArray) (st : Option Nat) (pos : Nat) : List UInt8 := match st with | some a => pcB s (a, pos) | none => []
theorem pcB_more (s : ByteArray) (a pos w : Nat) (h1 : a ≤ pos) : pcB s (a, pos) ++ pcB s (pos, pos + w) = pcB s (a, pos + w) := by
  unfold pcB
  simp only
  rw [show pos + w - a = (pos - a) + (pos + w - pos) by omega, List.take_add, List.drop_drop, show a + (pos - a) = pos by omega]
theorem spans_wd (s : ByteArray) : ∀ (f pos : Nat) (st : Option Nat) (acc : List (Nat × Nat)), s.size ≤ pos + f → (∀ a, st = some a → a < pos ∧ a < s.size) → pos ≤ s.size →
    (closeSpans s (spansFromP isW s f pos st acc)).map (pcB s) = wdEnd (wdS (s.data.toList.drop pos) (curS s st pos) (acc.map (pcB s)))
  | f, pos, st, acc, hf, hst, hp => by
    have hl : s.data.toList.length = s.size := by rw [size_eq]
    by_cases h : pos < s.size
    · obtain ⟨f, rfl⟩ : ∃ g, f = g + 1 := ⟨f - 1, by omega⟩
      obtain ⟨w, hw, w1, w2, hcase⟩ := rune_step s pos h
      have hd : s.data.toList.drop pos = pcB s (pos, pos + w) ++ s.data.toList.drop (pos + w) := by
        unfold pcB
        simp only
        rw [show pos + w - pos = w by omega, ← List.drop_drop, List.take_append_drop]
      have hs1 : spansFromP isW s (f + 1) pos st acc = (if isW (Utf8.decode s pos).1 then (match st with | some a => spansFromP isW s f (pos + (Utf8.decode s pos).2) none (acc ++ [(a, pos)]) | none => spansFromP isW s f (pos + (Utf8.decode s pos).2) none acc) else (match st with | some a => spansFromP isW s f (pos + (Utf8.decode s pos).2) (some a) acc | none => spansFromP isW s f (pos + (Utf8.decode s pos).2) (some pos) acc)) := by
        rw [spansFromP.eq_def]
        simp only [if_pos h]
        cases st <;> rfl
      rw [hs1, hw, hd, wdS_app]
      rcases hcase with ⟨hr, rfl, b, hb, hs⟩ | ⟨hr, hns⟩
      · have e1 : pcB s (pos, pos + 1) = [b] := by
          unfold pcB
          simp only
          rw [show pos + 1 - pos = 1 by omega, List.drop_eq_getElem_cons (by omega)]
          rw [List.getElem?_eq_getElem (by omega)] at hb
          simp only [Option.some.injEq] at hb
          simp [hb]
        rw [e1, if_pos hr]
        cases st with
        | none =>
          rw [spans_wd s f (pos + 1) none acc (by omega) (fun a q => by cases q) (by omega)]
          simp [wdS, hs, curS]
        | some a =>
          obtain ⟨a1, a2⟩ := hst a rfl
          have hne : pcB s (a, pos) ≠ [] := by
            unfold pcB
            intro q
            have := congrArg List.length q
            simp only [List.length_take, List.length_drop, hl, List.length_nil] at this
            omega
          show (closeSpans s (spansFromP isW s f (pos + 1) none (acc ++ [(a, pos)]))).map (pcB s) = _
          rw [spans_wd s f (pos + 1) none (acc ++ [(a, pos)]) (by omega) (fun a q => by cases q) (by omega)]
          have hne' : curS s (some a) pos ≠ [] := hne
          simp only [wdS, if_pos hs, List.map_append, List.map_cons, List.map_nil]
          rw [if_neg hne']
          rfl
      · have hn2 : ∀ b ∈ pcB s (pos, pos + w), ¬ isS b := fun b hb => by
          unfold pcB at hb
          simp only at hb
          obtain ⟨j, hj2⟩ := List.mem_iff_getElem?.mp hb
          have hj := (List.getElem?_eq_some_iff.mp hj2).1
          simp only [List.length_take, List.length_drop] at hj
          rw [List.getElem?_take, if_pos (by omega), List.getElem?_drop] at hj2
          exact hns (pos + j) b (by omega) (by omega) hj2
        rw [if_neg (by rw [hr]; exact Bool.false_ne_true), wdS_skip _ _ _ hn2]
        cases st with
        | none =>
          show (closeSpans s (spansFromP isW s f (pos + w) (some pos) acc)).map (pcB s) = _
          rw [spans_wd s f (pos + w) (some pos) acc (by omega) (fun a q => by cases q; omega) w2]
          simp [curS]
        | some a =>
          obtain ⟨a1, a2⟩ := hst a rfl
          show (closeSpans s (spansFromP isW s f (pos + w) (some a) acc)).map (pcB s) = _
          rw [spans_wd s f (pos + w) (some a) acc (by omega) (fun a' q => by cases q; omega) w2]
          simp only [curS]
          rw [pcB_more s a pos w (by omega)]
    · have hpe : pos = s.size := by omega
      subst hpe
      rw [spansFromP_end _ _ _ _ _ _ h, List.drop_eq_nil_of_le (by omega)]
      cases st with
      | none => simp [closeSpans, wdS, curS, wdEnd]
      | some a =>
        obtain ⟨a1, a2⟩ := hst a rfl
        have hne : pcB s (a, s.size) ≠ [] := by
          unfold pcB
          intro q
          have := congrArg List.length q
          simp only [List.length_take, List.length_drop, hl, List.length_nil] at this
          omega
        simp [closeSpans, wdS, curS, wdEnd, hne]
theorem fields_wd (s : ByteArray) : (goFieldsP isW s).map (fun x => x.data.toList) = wdB s.data.toList := by
  unfold goFieldsP spansOfP wdB
  rw [List.map_map]
  have := spans_wd s s.size 0 none [] (by omega) (fun a q => by cases q) (by omega)
  simp only [curS, List.drop_zero, List.map_nil] at this
  rw [← this]
  exact List.map_congr_left fun x _ => ext_pc s x.1 x.2
end Go.Proofs.YtgmpdnmheiblpaaDoor.pg
/- A line's words: package asm's and the document's. -/
namespace Go.Proofs.YtgmpdnmheiblpaaDoor.pg
open Go.ChangeShapes Go.WideShapes Go.ChangeAt Go.RowKit
set_option linter.unusedVariables false
set_option linter.unusedSimpArgs false
set_option maxRecDepth 100000
attribute [local go_sem ↓] Go.wp_at_zero Go.wp_at_succ
/-- The library's variables that are read: the table of the powers of ten; a length; two errors. -/
structure Vars (w : World) : Prop where
  tb : Tab w
  mx : ∃ m, w.cell? ⟨1, 0, none⟩ = some (.int .i64 m)
  es : ∃ ev, w.cell? ⟨2, 0, none⟩ = some ev ∧ (ev = .nilIface ∨ ∃ te pe, ev = .iface te pe)
  er : ∃ ev, w.cell? ⟨3, 0, none⟩ = some ev ∧ (ev = .nilIface ∨ ∃ te pe, ev = .iface te pe)
theorem Vars.later {w w' : World} (h : Vars w) (hb : Below w.heap.size w w') : Vars w' :=
  ⟨h.tb.later hb, h.mx.imp fun _ q => cell_later hb q, h.es.imp fun _ q => ⟨cell_later hb q.1, q.2⟩, h.er.imp fun _ q => ⟨cell_later hb q.1, q.2⟩⟩
def mkB (l : List UInt8) : ByteArray := ⟨l.toArray⟩
theorem mkB_list (l : List UInt8) : (mkB l).data.toList = l := by simp [mkB]
theorem mkB_of (s : ByteArray) : mkB s.data.toList = s := by cases s; simp [mkB]
theorem mkB_size (l : List UInt8) : (mkB l).size = l.length := by rw [Lib.size_eq, mkB_list]
theorem mkB_app (a : List UInt8) (c : UInt8) : mkB a ++ ⟨#[c]⟩ = mkB (a ++ [c]) := by
  have : (mkB a ++ (⟨#[c]⟩ : ByteArray)).data.toList = a ++ [c] := by simp [ByteArray.data_append, mkB]
  rw [← this, mkB_of]
/-- What of a line is said. -/
def saidB (l : List UInt8) : List UInt8 := l.takeWhile (· ≠ 59)
theorem index59 : ∀ l : List UInt8, (Lib.index l [59] = -1 ∧ saidB l = l) ∨ (Lib.index l [59] = ((saidB l).length : Int) ∧ saidB l = l.take (saidB l).length)
  | [] => .inl ⟨rfl, rfl⟩
  | b :: l => by
    by_cases hb : b = 59
    · subst hb
      right
      have e : saidB (59 :: l) = [] := by unfold saidB; rw [List.takeWhile_cons, if_neg (by simp)]
      rw [e]
      exact ⟨by rw [Lib.index]; simp [List.isPrefixOf], rfl⟩
    · have e : saidB (b :: l) = b :: saidB l := by unfold saidB; rw [List.takeWhile_cons, if_pos (by simpa using hb)]
      have hp : ([59] : List UInt8).isPrefixOf (b :: l) = false := by
        simp only [List.isPrefixOf, Bool.and_true]
        exact beq_eq_false_iff_ne.mpr (Ne.symm hb)
      have hi : Lib.index (b :: l) [59] = if Lib.index l [59] == -1 then -1 else Lib.index l [59] + 1 := by rw [Lib.index, hp]; simp
      rw [hi, e]
      rcases index59 l with ⟨h1, h2⟩ | ⟨h1, h2⟩
      · left
        rw [h1, h2]
        exact ⟨rfl, rfl⟩
      · right
        rw [h1, if_neg (by simp)]
        refine ⟨by simp, ?_⟩
        rw [List.length_cons, List.take_succ_cons, ← h2]
theorem cut59 (l : List UInt8) : (Lib.cut l [59]).1 = saidB l := by
  unfold Lib.cut
  rcases index59 l with ⟨h1, h2⟩ | ⟨h1, h2⟩
  · rw [h1, if_neg (by decide), h2]
  · rw [h1, if_pos (by omega)]
    simp only
    rw [Int.toNat_natCast]
    exact h2.symm
theorem below_drewN {n : Nat} {w w' : World} (h : Below n w w') (m : Nat) : Below n w (w'.drewN m) := by
  induction m with
  | zero => exact h
  | succ m ih =>
    have : w'.drewN (m + 1) = (w'.drewN m).drew := by simp [World.drewN, World.drew, Nat.add_assoc]
    rw [this]; exact ih.drew
/-- The words as strings. -/
def wdT (l : List UInt8) : List ByteArray := (wdB (saidB l)).map mkB
def bsC (x : ByteArray) : List Value := [.string x]
theorem bsC_len (l : List ByteArray) : ∀ row ∈ l.map bsC, row.length = 1 := fun r hr => by
  obtain ⟨x, _, rfl⟩ := List.mem_map.mp hr
  rfl
theorem bsC_flat : ∀ l : List ByteArray, (l.map bsC).flatten = l.map Value.string
  | [] => rfl
  | x :: l => by rw [List.map_cons, List.flatten_cons, bsC_flat l]; rfl
theorem blank_any (x : Nat) (W : World) : Calls Tryd.prog 20 #[.int .i32 (x : Int)] W fun e w' => e = .returned (.bool (isW x)) ∧ w' = W := by
  by_cases h1 : x = 32
  · subst h1
    go_enter Tryd.func20, Tryd.ntmps20
    go_wp2
    go_ret
    exact ⟨rfl, rfl⟩
  have d1 : ((x : Int) == 32) = false := by rw [beq_eq_false_iff_ne]; omega
  by_cases h2 : x = 9
  · subst h2
    go_enter Tryd.func20, Tryd.ntmps20
    go_wp2
    go_ret
    exact ⟨rfl, rfl⟩
  have d2 : ((x : Int) == 9) = false := by rw [beq_eq_false_iff_ne]; omega
  have e : isW x = false := by unfold isW; rw [decide_eq_false_iff_not]; omega
  rw [e]
  clear e h1 h2
  go_enter Tryd.func20, Tryd.ntmps20
  go_wp2
  go_ret
  exact ⟨rfl, rfl⟩
set_option maxHeartbeats 1000000 in
theorem awords_any (s : ByteArray) (hs : s.size ≤ 2000000) (w : World) (hV : Vars w) : Calls Tryd.prog 7 #[.string s] w fun e w' => ∃ va vc, e = .returned (.slice va (wdT s.data.toList).length vc) ∧ Rows w' 1 va vc ((wdT s.data.toList).map bsC) ∧ Below w.heap.size w w' := by
  obtain ⟨m, hm⟩ := hV.mx
  have cC := Tryd.strings_Cut s ⟨#[59]⟩ m w (by omega) hm
  have e1 : (Lib.cut s.data.toList (⟨#[59]⟩ : ByteArray).data.toList).1 = saidB s.data.toList := cut59 _
  rw [e1] at cC
  have hle : (saidB s.data.toList).length ≤ s.size := by
    rw [Lib.size_eq]
    exact List.Sublist.length_le (List.takeWhile_sublist _)
  have cF : ∀ W, Below w.heap.size w W → Calls Tryd.prog 19 #[.string ⟨(saidB s.data.toList).toArray⟩, .func (.func 20) #[] #[]] W fun e w' => ∃ va vc, e = .returned (.slice va (wdT s.data.toList).length vc) ∧ Rows w' 1 va vc ((wdT s.data.toList).map bsC) ∧ Below W.heap.size W w' := fun W hW => by
    refine (Tryd.strings_FieldsFunc 20 #[] (enters_of Tryd.func20 (by kernel_rfl) rfl) isW (mkB (saidB s.data.toList)) W (by rw [mkB_size]; omega) (fun W' x _ => (blank_any x W').mono fun e w' ⟨h1, h2⟩ => ⟨h1, 0, by rw [h2]; rfl⟩)).mono ?_
    rintro e w' ⟨A, rfl, hA, hR, hb⟩
    have eG : Lib.goFieldsP isW (mkB (saidB s.data.toList)) = wdT s.data.toList := by
      have h := fields_wd (mkB (saidB s.data.toList))
      rw [mkB_list] at h
      unfold wdT
      rw [← h, List.map_map]
      exact (List.map_id'' (fun x => mkB_of x) _).symm
    rw [eG] at hR
    refine ⟨_, _, by rw [eG], ?_, hb⟩
    have hO : OwnL w' W.heap.size 9 1 (some ⟨A, 0, none⟩) (wdT s.data.toList).length ((wdT s.data.toList).map bsC) := by
      show World.ownsRow _ _ _ _ _ _ _
      rw [List.length_map, bsC_flat]
      exact hR
    exact own_rows hO (bsC_len _)
  clear e1 hle hm hV
  go_enter Tryd.func7, Tryd.ntmps7
  generalize wdT s.data.toList = X at *
  generalize (saidB s.data.toList).toArray = T at *
  generalize (Lib.cut s.data.toList (⟨#[59]⟩ : ByteArray).data.toList).2 = R at *
  go_wp2_with (first
    | (go_at_call 18; (with_reducible refine cC.mono ?_); rintro e w2 ⟨rfl, nq, rfl⟩; (have hb2 : Below w.heap.size w (w.drewN nq) := below_drewN (Below.refl _ _) nq); (have xF := cF _ hb2))
    | (go_at_call 19; (with_reducible refine xF.mono ?_); rintro e w3 ⟨va, vc, rfl, hR3, hb3⟩))
  go_ret
  exact ⟨va, vc, rfl, hR3, bthen hb2 hb3⟩
end Go.Proofs.YtgmpdnmheiblpaaDoor.pg
/- A line's words by the document; lists of texts compared. -/
namespace Go.Proofs.YtgmpdnmheiblpaaDoor.pg
open Go.ChangeShapes Go.WideShapes Go.ChangeAt Go.RowKit
set_option linter.unusedVariables false
set_option linter.unusedSimpArgs false
set_option maxRecDepth 100000
attribute [local go_sem ↓] Go.wp_at_zero Go.wp_at_succ
theorem byte_ix (s : ByteArray) (i : Nat) (c : UInt8) (h : s.data.toList[i]? = some c) : i < s.size ∧ (∀ wx, (Instr.index 9 (.string s) (.int .i64 (i : Int))).run Tryd.prog wx = .ok (.int .u8 (c.toNat : Int)) wx) := by
  obtain ⟨hl, he⟩ := List.getElem?_eq_some_iff.mp h
  have hs : i < s.size := by rw [Lib.size_eq]; exact hl
  refine ⟨hs, fun wx => ?_⟩
  rw [run_index_string wx 9 s .i64 (i : Int) Tryd.underlying9, dif_pos ⟨by omega, by omega⟩]
  have : s[((i : Int)).toNat]'(by omega) = c := by
    rw [← he]
    simp only [Int.toNat_natCast]
    rfl
  rw [this]
theorem one_str (s : ByteArray) (i : Nat) (c : UInt8) (h : s.data.toList[i]? = some c) (hm : s.size ≤ 2000000) : ∀ wx, (Instr.slice 9 (.string s) (some (.int .i64 (i : Int))) (some (.int .i64 ((i : Int) + 1))) none).run Tryd.prog wx = .ok (.string ⟨#[c]⟩) wx := by
  intro wx
  obtain ⟨hl, he⟩ := List.getElem?_eq_some_iff.mp h
  have hs : i < s.size := by rw [Lib.size_eq]; exact hl
  have u := Tryd.underlying9
  have q1 : (i : Int) + 1 ≤ s.size := by omega
  have q2 : (0 : Int) ≤ (i : Int) := by omega
  have q3 : (i : Int) ≤ (i : Int) + 1 := by omega
  have q4 : (0 : Int) ≤ (i : Int) + 1 := by omega
  have ex : s.extract i (i + 1) = ⟨#[c]⟩ := by
    have h1 := ext_pc s i (i + 1)
    have h2 : pcB s (i, i + 1) = [c] := by
      unfold pcB
      simp only
      rw [show i + 1 - i = 1 by omega, List.drop_eq_getElem_cons hl, he]
      rfl
    rw [h2] at h1
    rw [← mkB_of (s.extract i (i + 1)), h1]
    rfl
  simp [Instr.slice, run_underlying u, go_sem, q1, q2, q3, q4]
  exact ex
theorem bytes_beqW (a b : ByteArray) : (a.toList == b.toList) = true ↔ a = b := by
  rw [beq_iff_eq]
  constructor
  · intro h
    have ha : a.toList = a.data.toList := Lib.toList_data _
    have hb : b.toList = b.data.toList := Lib.toList_data _
    have h2 : a.data.toList = b.data.toList := ha.symm.trans (h.trans hb)
    cases a
    cases b
    simp only at h2
    rw [Array.toList_inj.mp h2]
  · intro h; rw [h]
theorem said_ne : ∀ (l : List UInt8) (c : UInt8), c ∈ saidB l → c ≠ 59
  | [], c, h => by cases h
  | b :: l, c, h => by
    unfold saidB at h
    rw [List.takeWhile_cons] at h
    split at h
    · rename_i hb
      rcases List.mem_cons.mp h with rfl | h
      · simpa using hb
      · exact said_ne l c h
    · cases h
theorem said_at {l : List UInt8} {i : Nat} (h : i < (saidB l).length) : ∃ c, l[i]? = some c ∧ c ≠ 59 := by
  have e : (saidB l)[i]? = l[i]? := by
    rcases index59 l with ⟨_, h2⟩ | ⟨_, h2⟩
    · rw [h2]
    · rw [h2, List.getElem?_take, if_pos h]
  obtain ⟨c, hc⟩ : ∃ c, (saidB l)[i]? = some c := ⟨_, List.getElem?_eq_getElem h⟩
  refine ⟨c, by rw [← e]; exact hc, ?_⟩
  exact said_ne l c (List.mem_of_getElem? hc)
theorem said_end : ∀ l : List UInt8, (saidB l).length = l.length ∨ l[(saidB l).length]? = some 59
  | [] => .inl rfl
  | b :: l => by
    by_cases hb : b = 59
    · subst hb
      right
      have e : saidB (59 :: l) = [] := by unfold saidB; rw [List.takeWhile_cons, if_neg (by simp)]
      rw [e]; rfl
    · have e : saidB (b :: l) = b :: saidB l := by unfold saidB; rw [List.takeWhile_cons, if_pos (by simpa using hb)]
      rw [e]
      rcases said_end l with h | h
      · left; simp [h]
      · right; simpa using h
theorem said_take (l : List UInt8) : l.take (saidB l).length = saidB l := by
  rcases index59 l with ⟨_, h2⟩ | ⟨_, h2⟩
  · rw [h2, List.take_length]
  · exact h2.symm
theorem wdS_more {l : List UInt8} {i : Nat} {c : UInt8} (hc : l[i]? = some c) {cur : List UInt8} {out : List (List UInt8)} (h : wdS (l.take i) [] [] = (cur, out)) : wdS (l.take (i + 1)) [] [] = if isS c then ([], if cur = [] then out else out ++ [cur]) else (cur ++ [c], out) := by
  rw [take_oneT hc, wdS_app, h]
  simp only [wdS]
structure WrS (w W : World) (out : List (List UInt8)) (va : Option Addr) (vc : Nat) : Prop where
  b : Below w.heap.size w W
  o : OwnL W w.heap.size 9 1 va vc ((out.map mkB).map bsC)
theorem WrS.grown {w W W' : World} {out : List (List UInt8)} {va va' : Option Addr} {vc vc' : Nat} {x : List UInt8} (h : WrS w W out va vc) (hg : Grown W w.heap.size 9 1 va ((out.map mkB).map bsC) [.string (mkB x)] va' vc' W') : WrS w W' (out ++ [x]) va' vc' := by
  have hb : Below w.heap.size W W' := hg.be.mono (by have := h.b.size; omega)
  refine ⟨h.b.trans hb, ?_⟩
  rw [List.map_append, List.map_append]
  exact hg.ow
set_option maxHeartbeats 4000000 in
theorem rwords_any (s : ByteArray) (hs : s.size ≤ 2000000) (w : World) : Calls Tryd.prog 9 #[.string s] w fun e w' => ∃ va vc, e = .returned (.slice va (wdT s.data.toList).length vc) ∧ Rows w' 1 va vc ((wdT s.data.toList).map bsC) ∧ Below w.heap.size w w' := by
  obtain ⟨iN, hiN', hzN', hsN', hbN'⟩ := info_q infoStr
  have hiN : Hid (Tryd.prog.info? 9 = some iN) := hiN'
  have hzN : Hid _ := hzN'
  have hsN : Hid _ := hsN'
  have hbN : Hid _ := hbN'
  clear hiN' hzN' hsN' hbN'
  have hll : Hid (s.data.toList.length = s.size) := Lib.size_eq s |>.symm
  have s0 : Hid (WrS w w [] none 0) := ⟨Below.refl _ _, own_nil_q _ _ _ _⟩
  have hK : (saidB s.data.toList).length ≤ s.size := by rw [← hll.out]; exact List.Sublist.length_le (List.takeWhile_sublist _)
  obtain ⟨K, hKe⟩ : ∃ K, Hid ((saidB s.data.toList).length = K) := ⟨_, rfl⟩
  rw [hKe.out] at hK
  have hat : Hid (∀ i, i < K → ∃ c, s.data.toList[i]? = some c ∧ c ≠ 59) := fun i h => said_at (by rw [hKe.out]; exact h)
  have hend : Hid (K = s.size ∨ s.data.toList[K]? = some 59) := by (have := said_end s.data.toList; rw [hKe.out, hll.out] at this; exact this)
  go_enter Tryd.func9, Tryd.ntmps9
  go_wp2_with fail
  go_loopw [3, 4, 5] (fun o t u wr => ∃ (i : Nat) (W : ByteArray) (cur : List UInt8) (out : List (List UInt8)) (va : Option Addr) (vc : Nat), i ≤ K ∧ u = .int .i64 (i : Int) ∧ t = .string W ∧ o = .slice va out.length vc ∧ Hid (wdS (s.data.toList.take i) [] [] = (cur, out) ∧ W = mkB cur ∧ WrS w wr out va vc)) (fun _ _ u _ => K - (intOf u).toNat)
  case atStart => exact ⟨0, _, [], [], none, 0, Nat.zero_le _, rfl, rfl, rfl, rfl, rfl, s0.out⟩
  case round =>
    clear s0
    obtain ⟨i, W, cur, out, va, vc, hi, rfl, rfl, rfl, hq⟩ := hrel
    have hln := wdS_len (s.data.toList.take i) [] []
    rw [hq.out.1, List.length_take, hll.out] at hln
    simp only [List.length_nil] at hln
    have hWs : W.size ≤ 2000000 := by rw [hq.out.2.1, mkB_size]; omega
    have hol : out.length ≤ 2000000 := by omega
    clear hln
    by_cases hlt : i < K
    · have hiI : (i : Int) < s.size := by omega
      obtain ⟨c, hc, hc59⟩ := hat.out i hlt
      obtain ⟨_, xI⟩ := byte_ix s i c hc
      have xS := one_str s i c hc hs
      have hcH : Hid (s.data.toList[i]? = some c) := hc
      have d59 : ((c.toNat : Int) != 59) = true := by (rw [bne_iff_ne]; intro q; exact hc59 (UInt8.toNat_inj.mp (by show c.toNat = 59; omega)))
      clear hc hc59
      by_cases hsep : isS c
      · have hnx : Hid (wdS (s.data.toList.take (i + 1)) [] [] = ([], if cur = [] then out else out ++ [cur])) := by (have := wdS_more hcH.out hq.out.1; rw [if_pos hsep] at this; exact this)
        by_cases hcur : cur = []
        · have hW0 : W = ⟨#[]⟩ := by rw [hq.out.2.1, hcur]; rfl
          have hq2 : Hid (wdS (s.data.toList.take (i + 1)) [] [] = ([], out) ∧ (⟨#[]⟩ : ByteArray) = mkB [] ∧ WrS w wr out va vc) := ⟨by rw [hnx.out, if_pos hcur], rfl, hq.out.2.2⟩
          clear hq hnx hcur
          subst hW0
          by_cases h32 : c.toNat = 32
          · have d32 : ((c.toNat : Int) == 32) = true := by rw [h32]; rfl
            clear h32 hsep
            go_wp2_with fail
            go_roundw
            case rel => exact ⟨i + 1, _, _, _, va, vc, by omega, by go_num, rfl, rfl, hq2.out⟩
            case measure => simp [intOf]; omega
          · have d32 : ((c.toNat : Int) == 32) = false := by (rw [beq_eq_false_iff_ne]; omega)
            have d9 : ((c.toNat : Int) == 9) = true := by (have := (isS_nat c).mp hsep; rw [beq_iff_eq]; omega)
            clear h32 hsep
            go_wp2_with fail
            go_roundw
            case rel => exact ⟨i + 1, _, _, _, va, vc, by omega, by go_num, rfl, rfl, hq2.out⟩
            case measure => simp [intOf]; omega
        · have hWn : W.toList.isEmpty = false := by
            rw [show W.toList = W.data.toList from Lib.toList_data _, hq.out.2.1, mkB_list]
            simpa using hcur
          have hq2 : Hid (wdS (s.data.toList.take (i + 1)) [] [] = ([], out ++ [cur])) := by (show _ = _; rw [hnx.out, if_neg hcur])
          have hWm : Hid (W = mkB cur ∧ WrS w wr out va vc) := hq.out.2
          have hml : ((out.map mkB).map bsC).length = out.length := by rw [List.length_map, List.length_map]
          clear hq hnx hcur
          by_cases h32 : c.toNat = 32
          · have d32 : ((c.toNat : Int) == 32) = true := by rw [h32]; rfl
            clear h32 hsep
            go_wp2_with (first
              | (at_builtin; (refine wpList_app1 rfl (.tmp 30) (.tmp 32) 24 rfl w.heap.size 9 iN _ 1 16 Tryd.underlying24 hiN.out hzN.out hsN.out hbN.out rfl (by decide) va vc ((out.map mkB).map bsC) (by rw [hml]; rfl) hWm.out.2.o [.string W] rfl rfl (by simp [Value.oneCell']) (by rw [hml]; unfold maxLen; omega) (by rw [hml]; omega) hWm.out.2.b.size ?_); intro va' vc' w5 hg; rw [hml]; (have h5 : Hid (WrS w w5 (out ++ [cur]) va' vc') := hWm.out.2.grown (by rw [← hWm.out.1]; exact hg)); clear hg))
            go_roundw
            case rel => exact ⟨i + 1, _, _, _, va', vc', by omega, by go_num, rfl, by rw [List.length_append]; rfl, hq2.out, rfl, h5.out⟩
            case measure => simp [intOf]; omega
          · have d32 : ((c.toNat : Int) == 32) = false := by (rw [beq_eq_false_iff_ne]; omega)
            have d9 : ((c.toNat : Int) == 9) = true := by (have := (isS_nat c).mp hsep; rw [beq_iff_eq]; omega)
            clear h32 hsep
            go_wp2_with (first
              | (at_builtin; (refine wpList_app1 rfl (.tmp 30) (.tmp 32) 24 rfl w.heap.size 9 iN _ 1 16 Tryd.underlying24 hiN.out hzN.out hsN.out hbN.out rfl (by decide) va vc ((out.map mkB).map bsC) (by rw [hml]; rfl) hWm.out.2.o [.string W] rfl rfl (by simp [Value.oneCell']) (by rw [hml]; unfold maxLen; omega) (by rw [hml]; omega) hWm.out.2.b.size ?_); intro va' vc' w5 hg; rw [hml]; (have h5 : Hid (WrS w w5 (out ++ [cur]) va' vc') := hWm.out.2.grown (by rw [← hWm.out.1]; exact hg)); clear hg))
            go_roundw
            case rel => exact ⟨i + 1, _, _, _, va', vc', by omega, by go_num, rfl, by rw [List.length_append]; rfl, hq2.out, rfl, h5.out⟩
            case measure => simp [intOf]; omega
      · have hnx : Hid (wdS (s.data.toList.take (i + 1)) [] [] = (cur ++ [c], out) ∧ W ++ ⟨#[c]⟩ = mkB (cur ++ [c]) ∧ WrS w wr out va vc) := ⟨by (have := wdS_more hcH.out hq.out.1; rw [if_neg hsep] at this; exact this), by rw [hq.out.2.1, mkB_app], hq.out.2.2⟩
        have d32 : ((c.toNat : Int) == 32) = false := by (rw [beq_eq_false_iff_ne]; intro q; exact hsep ((isS_nat c).mpr (.inl (by omega))))
        have d9 : ((c.toNat : Int) == 9) = false := by (rw [beq_eq_false_iff_ne]; intro q; exact hsep ((isS_nat c).mpr (.inr (by omega))))
        clear hq hsep
        go_wp2_with fail
        go_roundw
        case rel => exact ⟨i + 1, _, _, _, va, vc, by omega, by go_num, rfl, rfl, hnx.out⟩
        case measure => simp [intOf]; omega
    · have hie : i = K := by omega
      have hfin : Hid (wdB (saidB s.data.toList) = wdEnd (cur, out)) := by
        show _ = _
        unfold wdB
        rw [← hq.out.1, hie, ← hKe.out, said_take]
      have hWm : Hid (W = mkB cur ∧ WrS w wr out va vc) := hq.out.2
      clear hq
      have hml : ((out.map mkB).map bsC).length = out.length := by rw [List.length_map, List.length_map]
      subst hie
      by_cases hcur : cur = []
      · have hW0 : W = ⟨#[]⟩ := by rw [hWm.out.1, hcur]; rfl
        have hX : Hid (wdT s.data.toList = out.map mkB) := by (show _ = _; unfold wdT; rw [hfin.out]; unfold wdEnd; rw [if_pos hcur])
        have hO : Hid (WrS w wr out va vc) := hWm.out.2
        clear hfin hWm hcur
        subst hW0
        rcases hend.out with hE | hE
        · have hiI : ¬ (i : Int) < s.size := by omega
          go_wp2_with fail
          go_ret
          refine ⟨va, vc, by rw [hX.out, List.length_map]; rfl, ?_, hO.out.b⟩
          rw [hX.out]
          exact own_rows hO.out.o (bsC_len _)
        · obtain ⟨hil, xI⟩ := byte_ix s i 59 hE
          have hiI : (i : Int) < s.size := by omega
          have e59 : (((59 : UInt8).toNat : Nat) : Int) = 59 := rfl
          rw [e59] at xI
          go_wp2_with fail
          go_ret
          refine ⟨va, vc, by rw [hX.out, List.length_map]; rfl, ?_, hO.out.b⟩
          rw [hX.out]
          exact own_rows hO.out.o (bsC_len _)
      · have hWn : W.toList.isEmpty = false := by
          rw [show W.toList = W.data.toList from Lib.toList_data _, hWm.out.1, mkB_list]
          simpa using hcur
        have hX : Hid (wdT s.data.toList = (out ++ [cur]).map mkB) := by (show _ = _; unfold wdT; rw [hfin.out]; unfold wdEnd; rw [if_neg hcur])
        clear hfin hcur
        rcases hend.out with hE | hE
        · have hiI : ¬ (i : Int) < s.size := by omega
          go_wp2_with (first
            | (at_builtin; (refine wpList_app1 rfl (.tmp 43) (.tmp 45) 24 rfl w.heap.size 9 iN _ 1 16 Tryd.underlying24 hiN.out hzN.out hsN.out hbN.out rfl (by decide) va vc ((out.map mkB).map bsC) (by rw [hml]; rfl) hWm.out.2.o [.string W] rfl rfl (by simp [Value.oneCell']) (by rw [hml]; unfold maxLen; omega) (by rw [hml]; omega) hWm.out.2.b.size ?_); intro va' vc' w5 hg; rw [hml]; (have h5 : Hid (WrS w w5 (out ++ [cur]) va' vc') := hWm.out.2.grown (by rw [← hWm.out.1]; exact hg)); clear hg))
          go_ret
          refine ⟨va', vc', by rw [hX.out, List.length_map, List.length_append]; rfl, ?_, h5.out.b⟩
          rw [hX.out]
          exact own_rows h5.out.o (bsC_len _)
        · obtain ⟨hil, xI⟩ := byte_ix s i 59 hE
          have hiI : (i : Int) < s.size := by omega
          have e59 : (((59 : UInt8).toNat : Nat) : Int) = 59 := rfl
          rw [e59] at xI
          go_wp2_with (first
            | (at_builtin; (refine wpList_app1 rfl (.tmp 43) (.tmp 45) 24 rfl w.heap.size 9 iN _ 1 16 Tryd.underlying24 hiN.out hzN.out hsN.out hbN.out rfl (by decide) va vc ((out.map mkB).map bsC) (by rw [hml]; rfl) hWm.out.2.o [.string W] rfl rfl (by simp [Value.oneCell']) (by rw [hml]; unfold maxLen; omega) (by rw [hml]; omega) hWm.out.2.b.size ?_); intro va' vc' w5 hg; rw [hml]; (have h5 : Hid (WrS w w5 (out ++ [cur]) va' vc') := hWm.out.2.grown (by rw [← hWm.out.1]; exact hg)); clear hg))
          go_ret
          refine ⟨va', vc', by rw [hX.out, List.length_map, List.length_append]; rfl, ?_, h5.out.b⟩
          rw [hX.out]
          exact own_rows h5.out.o (bsC_len _)
end Go.Proofs.YtgmpdnmheiblpaaDoor.pg
