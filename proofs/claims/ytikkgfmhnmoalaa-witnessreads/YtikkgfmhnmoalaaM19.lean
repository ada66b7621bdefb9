/- Whether a witness is right, by the document's own. -/
import Derived.Test.YtikkgfmhnmoalaaM18
import Derived.Test.YtikkgfmhnmoalaaM1
namespace Go.Proofs.Ytikkgfmhnmoalaa.pg
open Go.ChangeShapes Go.WideShapes Go.ChangeAt Go.RowKit
set_option linter.unusedVariables false
set_option linter.unusedSimpArgs false
set_option maxRecDepth 100000
abbrev mostL : List Int := [5, 64, 64, 64, 64, 255, 255, 256, 4096, 65536, 256]
abbrev Wi.vals (M : Wi) : List Int := [M.kd, M.af, M.ap, M.bf, M.bp, M.nm, M.wy, M.st, M.fu, M.ru, (M.pk.length : Int)]
abbrev u64C (x : Int) : List Value := [.int .u64 x]
theorem u64_ix {w : World} {a : Option Addr} {cap : Nat} {l : List Int} (h : Rows w 1 a cap (l.map u64C)) (i : Nat) (x : Int) (hi : l[i]? = some x) :
    ∃ b o, (∀ wx, (Instr.indexAt 83 (.slice a l.length cap) (.int .i64 (i : Int))).run Try.prog wx = .ok (.pointer (some ⟨b, o, none⟩)) wx) ∧ b < w.heap.size ∧ w.cell? ⟨b, o, none⟩ = some (.int .u64 x) := by
  obtain ⟨b, o, hr, hlt, hc⟩ := h.ix 83 59 Try.underlying83 (by kernel_rfl) (fun wx => Try.sizeOf59 wx) i (row := u64C x) (by simp [hi])
  rw [List.length_map] at hr
  exact ⟨b, o, hr, hlt, hc 0 _ rfl⟩
theorem rows_flat1 {w : World} {A : Nat} {t : TypeId} {l : List Value} (h : w.heap[A]? = some (.cells l.toArray t)) (hl : l.length ≤ 9223372036854775807) : Rows w 1 (some ⟨A, 0, none⟩) l.length (l.map fun v => [v]) := by
  refine ⟨by simp, hl, by simp, .inr ⟨A, 0, rfl, (Array.getElem?_eq_some_iff.mp h).1, fun i row hi => ?_⟩⟩
  rw [List.getElem?_map, Option.map_eq_some_iff] at hi
  obtain ⟨v, hv, rfl⟩ := hi
  refine ⟨rfl, fun j u hj => ?_⟩
  match j, hj with
  | 0, hj =>
    simp at hj
    subst hj
    rw [cell_of_row w A _ _ _ _ h]
    simpa using hv
  | j + 1, hj => simp at hj
theorem bounds_any (w : World) : Calls Try.prog 32 #[] w fun e w' => e = .returned (.slice (some ⟨w.heap.size, 0, none⟩) 11 11) ∧ Rows w' 1 (some ⟨w.heap.size, 0, none⟩) 11 (mostL.map u64C) ∧ Below w.heap.size w w' := by
  go_enter Try.func32, Try.ntmps32
  go_wp2_with fail
  go_ret
  exact ⟨rfl, rows_flat1 (l := [.int .u64 5, .int .u64 64, .int .u64 64, .int .u64 64, .int .u64 64, .int .u64 255, .int .u64 255, .int .u64 256, .int .u64 4096, .int .u64 65536, .int .u64 256]) (heap_alloc_new _ _) (by decide), boxed _ _⟩
set_option maxHeartbeats 2000000 in
theorem fields_any (M : Wi) (pa : Option Addr) (pc : Nat) (w : World) : Calls Try.prog 22 #[.agg (M.cells pa pc).toArray] w fun e w' => ∃ A, e = .returned (.slice (some ⟨A, 0, none⟩) 11 11) ∧ Rows w' 1 (some ⟨A, 0, none⟩) 11 (M.vals.map chCells) ∧ Below w.heap.size w w' := by
  have hz := heap_alloc_new w (objWi M pa pc)
  obtain ⟨k0, k1, k2, k3, k4, k5, k6, k7, k8, k9, k10, k11⟩ := cells12 (t := 31) hz
  have hw0 : w.heap.size < (w.alloc (objWi M pa pc)).heap.size := by rw [World.size_alloc]; omega
  have hg : ∀ (o : Obj) (a : Addr) (v : Value), (w.alloc (objWi M pa pc)).cell? a = some v → ((w.alloc (objWi M pa pc)).alloc o).cell? a = some v := fun o a v h => ((boxed _ o).cell (cell_lt h)).trans h
  go_enter Try.func22, Try.ntmps22
  go_wp2_with fail
  go_ret
  refine ⟨w.heap.size + 1 + 1, rfl, ?_, bthen (bthen (boxed _ _) (boxed _ _)) (boxed _ _)⟩
  refine rows_flat1 (l := [.int .i64 M.kd, .int .i64 M.af, .int .i64 M.ap, .int .i64 M.bf, .int .i64 M.bp, .int .i64 M.nm, .int .i64 M.wy, .int .i64 M.st, .int .i64 M.fu, .int .i64 M.ru, .int .i64 (M.pk.length : Int)]) (t := 3) ?_ (by show 11 ≤ _; decide)
  have h := heap_alloc_new ((w.alloc (objWi M pa pc)).alloc (.cells #[.int .i64 M.kd, .int .i64 M.af, .int .i64 M.ap, .int .i64 M.bf, .int .i64 M.bp, .int .i64 M.nm, .int .i64 M.wy] 26)) (.cells #[.int .i64 M.kd, .int .i64 M.af, .int .i64 M.ap, .int .i64 M.bf, .int .i64 M.bp, .int .i64 M.nm, .int .i64 M.wy, .int .i64 M.st, .int .i64 M.fu, .int .i64 M.ru, .int .i64 (M.pk.length : Int)] 3)
  simp only [World.size_alloc] at h
  exact h
/-- The numbers ahead of the picks, as the document bounds them. -/
def okH (M : Wi) (i : Nat) : Prop := ∀ (j : Nat) (x m : Int), j < i → M.vals[j]? = some x → mostL[j]? = some m → 0 ≤ x ∧ x ≤ m
def okP (l : List (Int × Int)) : Prop := ∀ p ∈ l, (0 ≤ p.1 ∧ p.1 ≤ 5) ∧ 0 ≤ p.2 ∧ p.2 ≤ 4
theorem pairs_all (l : List (Int × Int)) : (pairs l).all fitB = true ↔ okP l := by
  induction l with
  | nil => exact ⟨fun _ p hp => (by cases hp), fun _ => rfl⟩
  | cons p t ih =>
    have e : (pairs (p :: t)).all fitB = (fitB (0, 5, p.1) && (fitB (0, 4, p.2) && (pairs t).all fitB)) := rfl
    have b1 : fitB (0, 5, p.1) = true ↔ 0 ≤ p.1 ∧ p.1 ≤ 5 := by simp [fitB]
    have b2 : fitB (0, 4, p.2) = true ↔ 0 ≤ p.2 ∧ p.2 ≤ 4 := by simp [fitB]
    rw [e]
    clear e
    generalize fitB (0, 5, p.1) = u at *
    generalize fitB (0, 4, p.2) = v at *
    rw [Bool.and_eq_true, Bool.and_eq_true, ih, b1, b2]
    constructor
    · rintro ⟨h1, h2, h3⟩ q hq
      rcases List.mem_cons.mp hq with rfl | hq
      · exact ⟨h1, h2⟩
      · exact h3 q hq
    · intro h
      exact ⟨(h p (by simp)).1, (h p (by simp)).2, fun q hq => h q (by simp [hq])⟩
theorem ok_doc (M : Wi) : M.ok = true ↔ okH M 11 ∧ okP M.pk ∧ 1 ≤ M.kd := by
  rw [wi_ok]
  unfold Wi.nums
  rw [List.all_append, Bool.and_eq_true, pairs_all]
  have e : M.head.all fitB = true ↔ okH M 11 ∧ 1 ≤ M.kd := by
    simp only [Wi.head, List.all_cons, List.all_nil, fitB, Bool.and_eq_true, decide_eq_true_eq, Bool.and_true]
    constructor
    · rintro ⟨h0, h1, h2, h3, h4, h5, h6, h7, h8, h9, h10, h11⟩
      refine ⟨fun j x m hj hx hm => ?_, h0.1⟩
      match j, hj with
      | 0, _ => simp at hx hm; subst hx hm; omega
      | 1, _ => simp at hx hm; subst hx hm; exact h1
      | 2, _ => simp at hx hm; subst hx hm; exact h2
      | 3, _ => simp at hx hm; subst hx hm; exact h3
      | 4, _ => simp at hx hm; subst hx hm; exact h4
      | 5, _ => simp at hx hm; subst hx hm; exact h5
      | 6, _ => simp at hx hm; subst hx hm; exact h6
      | 7, _ => simp at hx hm; subst hx hm; exact h7
      | 8, _ => simp at hx hm; subst hx hm; exact h8
      | 9, _ => simp at hx hm; subst hx hm; exact h9
      | 10, _ => simp at hx hm; subst hx hm; exact ⟨h10, h11⟩
    · rintro ⟨h, h1⟩
      refine ⟨⟨h1, (h 0 _ _ (by decide) rfl rfl).2⟩, h 1 _ _ (by decide) rfl rfl, h 2 _ _ (by decide) rfl rfl, h 3 _ _ (by decide) rfl rfl, h 4 _ _ (by decide) rfl rfl, h 5 _ _ (by decide) rfl rfl, h 6 _ _ (by decide) rfl rfl, h 7 _ _ (by decide) rfl rfl, h 8 _ _ (by decide) rfl rfl, h 9 _ _ (by decide) rfl rfl, h 10 _ _ (by decide) rfl rfl⟩
  rw [e]
  constructor
  · rintro ⟨⟨a, b⟩, c⟩; exact ⟨a, c, b⟩
  · rintro ⟨a, c, b⟩; exact ⟨⟨a, b⟩, c⟩
end Go.Proofs.Ytikkgfmhnmoalaa.pg
/- Whether a witness is right, by the document's own: its walk. -/
namespace Go.Proofs.Ytikkgfmhnmoalaa.pg
open Go.ChangeShapes Go.WideShapes Go.ChangeAt Go.RowKit
set_option linter.unusedVariables false
set_option linter.unusedSimpArgs false
set_option maxRecDepth 100000
structure RrS (w W : World) (M : Wi) (pa : Option Addr) (pc A B : Nat) : Prop where
  g : W.heap[w.heap.size]? = some (objWi M pa pc)
  m : Rows W 1 (some ⟨A, 0, none⟩) 11 (mostL.map u64C)
  f : Rows W 1 (some ⟨B, 0, none⟩) 11 (M.vals.map chCells)
  p : Rows W 2 pa pc (M.pk.map pkC)
  b : Below w.heap.size w W
theorem RrS.later {w W W' : World} {M : Wi} {pa : Option Addr} {pc A B : Nat} (h : RrS w W M pa pc A B) (hb : Below W.heap.size W W') : RrS w W' M pa pc A B :=
  ⟨(hb.block _ (Array.getElem?_eq_some_iff.mp h.g).1).trans h.g, h.m.later hb, h.f.later hb, h.p.later hb, h.b.trans (hb.mono h.b.size)⟩
set_option maxHeartbeats 4000000 in
theorem rrightW_any (M : Wi) (pa : Option Addr) (pc : Nat) (w : World) (hp : Rows w 2 pa pc (M.pk.map pkC)) (hwf : ∀ x ∈ M.vals, -9223372036854775808 ≤ x ∧ x ≤ 9223372036854775807) : Calls Try.prog 14 #[.agg (M.cells pa pc).toArray] w fun e w' => e = .returned (.bool M.ok) ∧ Below w.heap.size w w' := by
  have hb := boxed w (objWi M pa pc)
  have hz : Hid ((w.alloc (objWi M pa pc)).heap[w.heap.size]? = some (objWi M pa pc)) := heap_alloc_new _ _
  have huW : Hid (Try.prog.underlying 31 = _) := Try.underlying31
  have hiC : Hid ((Try.prog.info? 31).map (·.size) = some (M.cells pa pc).toArray.size) := infoW12
  have cB : ∀ wx, Calls Try.prog 32 #[] wx _ := fun wx => bounds_any wx
  have cF : ∀ wx, Calls Try.prog 22 #[.agg (M.cells pa pc).toArray] wx _ := fun wx => fields_any M pa pc wx
  have hpH : Hid (Rows w 2 pa pc (M.pk.map pkC)) := hp
  have hlen : (M.pk.length : Int) ≤ 9223372036854775807 := rows_len hp
  have hwfH : Hid (∀ x ∈ M.vals, -9223372036854775808 ≤ x ∧ x ≤ 9223372036854775807) := hwf
  clear hp hwf
  go_enter Try.func14, Try.ntmps14
  go_wp2_with (first
    | (go_at_call 32; (with_reducible refine (cB _).mono ?_); rintro e w1 ⟨rfl, hm1, hb1⟩; (have hz1 : Hid (w1.heap[w.heap.size]? = some (objWi M pa pc)) := (hb1.block _ (by rw [World.size_alloc]; omega)).trans hz.out))
    | (refine wpList_load_row rfl 31 _ rfl w.heap.size rfl _ _ _ _ hz1.out huW.out rfl hiC.out ?_)
    | (go_at_call 22; (with_reducible refine (cF _).mono ?_); rintro e w2 ⟨B, rfl, hf2, hb2⟩))
  have hs0 : Hid (RrS w w2 M pa pc (w.alloc (objWi M pa pc)).heap.size B) := ⟨(hb2.block _ (Array.getElem?_eq_some_iff.mp hz1.out).1).trans hz1.out, hm1.later hb2, hf2, ((hpH.out.later hb).later hb1).later hb2, bthen (bthen hb hb1) hb2⟩
  rw [World.size_alloc] at hs0
  clear hm1 hf2 hb1 hb2 hz1 hz cB cF hpH hb
  go_loopw [12] (fun u wr => ∃ i : Nat, i ≤ 11 ∧ u = .int .i64 (i : Int) ∧ Hid (RrS w wr M pa pc (w.heap.size + 1) B ∧ okH M i)) (fun u _ => 11 - (intOf u).toNat)
  case atStart => exact ⟨0, by omega, rfl, hs0.out, fun j x m hj => by omega⟩
  case round =>
    clear hs0
    obtain ⟨i, hi, rfl, hs⟩ := hrel
    by_cases hlt : i < 11
    · have hiI : (i : Int) < 11 := by omega
      obtain ⟨x, hx⟩ : ∃ x, M.vals[i]? = some x := ⟨_, List.getElem?_eq_getElem (by show i < 11; exact hlt)⟩
      obtain ⟨m, hm⟩ : ∃ m, mostL[i]? = some m := ⟨_, List.getElem?_eq_getElem (by show i < 11; exact hlt)⟩
      obtain ⟨b1, o1, ix1, _, c1⟩ := ch_ix hs.out.1.f i x hx
      obtain ⟨b2, o2, ix2, _, c2⟩ := u64_ix hs.out.1.m i m hm
      have ix1' : ∀ wx, (Instr.indexAt 63 (.slice (some ⟨B, 0, none⟩) 11 11) (.int .i64 (i : Int))).run Try.prog wx = .ok (.pointer (some ⟨b1, o1, none⟩)) wx := ix1
      have ix2' : ∀ wx, (Instr.indexAt 83 (.slice (some ⟨w.heap.size + 1, 0, none⟩) 11 11) (.int .i64 (i : Int))).run Try.prog wx = .ok (.pointer (some ⟨b2, o2, none⟩)) wx := ix2
      obtain ⟨x0, x1⟩ := hwfH.out x (List.mem_of_getElem? hx)
      have hmb : 0 ≤ m ∧ m ≤ 65536 := by
        have := List.mem_of_getElem? hm
        simp only [mostL, List.mem_cons, List.not_mem_nil, or_false] at this
        omega
      have hbad : Hid (¬ (0 ≤ x ∧ x ≤ m) → M.ok = false) := fun q => by
        rw [Bool.eq_false_iff]
        intro h
        exact q ((ok_doc M).mp h |>.1 i x m hlt hx hm)
      have hbel : Hid (Below w.heap.size w wr) := hs.out.1.b
      have hxH : Hid (M.vals[i]? = some x ∧ mostL[i]? = some m) := ⟨hx, hm⟩
      clear ix1 ix2 hx hm
      by_cases hneg : x < 0
      · go_wp2_with fail
        go_ret
        exact ⟨by rw [hbad.out (by omega)]; rfl, hbel.out⟩
      · have hx0 : 0 ≤ x := by omega
        by_cases hgt : m < x
        · go_wp2_with fail
          go_ret
          exact ⟨by rw [hbad.out (by omega)]; rfl, hbel.out⟩
        · have hle : x ≤ m := by omega
          have hs1 : Hid (RrS w wr M pa pc (w.heap.size + 1) B ∧ okH M (i + 1)) := ⟨hs.out.1, fun j y n hj hy hn => by
            by_cases e : j = i
            · subst e
              have e1 := hxH.out.1
              have e2 := hxH.out.2
              rw [hy] at e1; rw [hn] at e2
              cases e1; cases e2
              exact ⟨hx0, hle⟩
            · exact hs.out.2 j y n (by omega) hy hn⟩
          clear hs
          go_wp2_with fail
          go_roundw
          case rel => exact ⟨i + 1, by omega, by go_num, hs1⟩
          case measure => simp [intOf]; omega
    · have hi11 : Hid (i = 11) := by (show i = 11; omega)
      have hiI : (11 : Int) ≤ (i : Int) := by omega
      have k8 : wr.cell? ⟨w.heap.size, 8, none⟩ = some (.slice pa M.pk.length pc) := (cell_of_row wr _ 8 _ _ _ hs.out.1.g).trans rfl
      have hs2 : Hid (RrS w wr M pa pc (w.heap.size + 1) B ∧ okH M 11 ∧ okP (M.pk.take 0)) := ⟨hs.out.1, by rw [← hi11.out]; exact hs.out.2, fun p hp => by simp at hp⟩
      clear hs
      go_wp2_with fail
      clear k8
      go_loopw [32] (fun u wr => ∃ j : Nat, j ≤ M.pk.length ∧ u = .int .i64 (j : Int) ∧ Hid (RrS w wr M pa pc (w.heap.size + 1) B ∧ okH M 11 ∧ okP (M.pk.take j))) (fun u _ => M.pk.length - (intOf u).toNat)
      case atStart => exact ⟨0, Nat.zero_le _, rfl, hs2⟩
      case round =>
        clear hs2
        obtain ⟨j, hj, rfl, hs⟩ := hrel
        by_cases hlt2 : j < M.pk.length
        · have hjI : (j : Int) < (M.pk.length : Int) := by omega
          obtain ⟨p, hp⟩ : ∃ p, M.pk[j]? = some p := ⟨_, List.getElem?_eq_getElem hlt2⟩
          obtain ⟨b1, o1, ix1, _, c1, c2⟩ := pk_ix hs.out.1.p j p hp
          have hbad : Hid (¬ ((0 ≤ p.1 ∧ p.1 ≤ 5) ∧ 0 ≤ p.2 ∧ p.2 ≤ 4) → M.ok = false) := fun q => by
            rw [Bool.eq_false_iff]
            intro h
            exact q ((ok_doc M).mp h |>.2.1 p (List.mem_of_getElem? hp))
          have hbel : Hid (Below w.heap.size w wr) := hs.out.1.b
          have hpH : Hid (M.pk[j]? = some p) := hp
          clear hp
          by_cases h1 : p.1 < 0
          · go_wp2_with fail
            go_ret
            exact ⟨by rw [hbad.out (by omega)]; rfl, bthen hbel.out (boxed _ _)⟩
          · by_cases h2 : 5 < p.1
            · go_wp2_with fail
              go_ret
              exact ⟨by rw [hbad.out (by omega)]; rfl, bthen hbel.out (boxed _ _)⟩
            · by_cases h3 : p.2 < 0
              · go_wp2_with fail
                go_ret
                exact ⟨by rw [hbad.out (by omega)]; rfl, bthen hbel.out (boxed _ _)⟩
              · by_cases h4 : 4 < p.2
                · go_wp2_with fail
                  go_ret
                  exact ⟨by rw [hbad.out (by omega)]; rfl, bthen hbel.out (boxed _ _)⟩
                · have hs3 : Hid (∀ W', Below wr.heap.size wr W' → RrS w W' M pa pc (w.heap.size + 1) B ∧ okH M 11 ∧ okP (M.pk.take (j + 1))) := fun W' hb => ⟨hs.out.1.later hb, hs.out.2.1, fun q hq => by
                    rw [List.take_add_one, hpH.out, Option.toList_some] at hq
                    rcases List.mem_append.mp hq with e | e
                    · exact hs.out.2.2 q e
                    · rw [List.mem_singleton.mp e]; omega⟩
                  clear hs
                  go_wp2_with fail
                  go_roundw
                  case rel => exact ⟨j + 1, by omega, by go_num, hs3.out _ (boxed _ _)⟩
                  case measure => simp [intOf]; omega
        · have hje : Hid (j = M.pk.length) := by (show j = _; omega)
          have hjI : (M.pk.length : Int) ≤ (j : Int) := by omega
          have k1 : wr.cell? ⟨w.heap.size, 1, none⟩ = some (.int .i64 M.kd) := (cell_of_row wr _ 1 _ _ _ hs.out.1.g).trans rfl
          have hfin : Hid (M.ok = decide (1 ≤ M.kd) ∧ Below w.heap.size w wr) := by
            refine ⟨?_, hs.out.1.b⟩
            have h3 := hs.out.2.2
            rw [hje.out, List.take_length] at h3
            by_cases hk : 1 ≤ M.kd
            · rw [(ok_doc M).mpr ⟨hs.out.2.1, h3, hk⟩, decide_eq_true hk]
            · rw [decide_eq_false hk, Bool.eq_false_iff]
              exact fun h => hk ((ok_doc M).mp h).2.2
          clear hs
          go_wp2_with fail
          go_ret
          exact ⟨by rw [hfin.out.1]; rfl, hfin.out.2⟩
end Go.Proofs.Ytikkgfmhnmoalaa.pg
/- A witness that came in, opened. -/
namespace Go.Proofs.Ytikkgfmhnmoalaa.pg
open Go.ChangeShapes Go.WideShapes Go.ChangeAt Go.RowKit
set_option linter.unusedVariables false
set_option linter.unusedSimpArgs false
set_option maxRecDepth 100000
/-- A witness in memory, as it came in. -/
structure WitIn (w : World) (M : Wi) (pa : Option Addr) (pc : Nat) : Prop where
  r : Rows w 2 pa pc (M.pk.map pkC)
  b : (∀ b ∈ blk pa, b < w.heap.size) ∨ M.pk = []
  s0 : 0 ≤ M.s
  s1 : M.s < 4294967296
  v : ∀ x ∈ M.vals, -9223372036854775808 ≤ x ∧ x ≤ 9223372036854775807
section
variable {H : Type} {enc : TypeId × Value → H} {w : World} {base : Nat} {spare : Nat → Bool} {held : Bool}
theorem u32_in {P : Program} {t : TypeId} (ht : P.underlying t = some (.int .u32)) {n : Nat} {v : Value} {y : DataW H × List MemPlace} (h : DataW.trod enc P w base spare held n t [v] = some y) : ∃ z, v = .int .u32 z ∧ (0 ≤ z ∧ z < 4294967296) := by
  obtain ⟨z, e, _, b⟩ := DataW.trod_int ht h
  simp only [List.cons.injEq, and_true] at e
  refine ⟨z, e, ?_⟩
  have b2 : 0 ≤ z ∧ z ≤ 4294967295 := by simpa [Lit.wf, IntKind.min, IntKind.max, IntKind.bits, IntKind.signed] using b
  omega
theorem part_inW {P : Program} {t : TypeId} {fs : Array Field} {fuel : Nat} {cs : List Value} {x : DataW H × List MemPlace} (ht : P.underlying t = some (.struct fs)) (h : DataW.trod enc P w base spare held fuel t cs = some x)
    (i : Nat) (f : Field) (hi : fs[i]? = some f) : ∃ y n, DataW.trod enc P w base spare held n f.type ((cs.drop f.offset).take (P.cellsOf f.type)) = some y := by
  obtain ⟨xs, n, _, _, _, hlen, hf⟩ := DataW.trod_struct ht h
  have h1 := hf i f hi
  have hlt : i < xs.length := by rw [hlen]; exact (Array.getElem?_eq_some_iff.mp hi).1
  rw [List.getElem?_eq_getElem hlt] at h1
  exact ⟨_, n, h1⟩
theorem sp_inW {n : Nat} {c d : Value} {y : DataW H × List MemPlace} (h : DataW.trod enc Try.prog w base spare held n 24 [c, d] = some y) : ∃ f p : Int, c = .int .i64 f ∧ d = .int .i64 p ∧ I64 f ∧ I64 p := by
  obtain ⟨v0, _, _, e0, t0⟩ := field_in Try.underlying24 h 0 _ rfl rfl (by kernel_rfl) (by simp)
  obtain ⟨z0, rfl, b0⟩ := int_in Try.underlying3 t0
  obtain rfl : c = .int .i64 z0 := by simpa using e0
  obtain ⟨v1, _, _, e1, t1⟩ := field_in Try.underlying24 h 1 _ rfl rfl (by kernel_rfl) (by simp)
  obtain ⟨z1, rfl, b1⟩ := int_in Try.underlying3 t1
  obtain rfl : d = .int .i64 z1 := by simpa using e1
  exact ⟨z0, z1, rfl, rfl, b0, b1⟩
theorem pick_in {n : Nat} {cs : List Value} {y : DataW H × List MemPlace} (hl : cs.length = 2) (h : DataW.trod enc Try.prog w base spare held n 66 cs = some y) : ∃ x : Int × Int, cs = pkC x ∧ True := by
  obtain ⟨v0, _, _, e0, t0⟩ := field_in Try.underlying66 h 0 _ rfl rfl (by kernel_rfl) (by omega)
  obtain ⟨v1, _, _, e1, t1⟩ := field_in Try.underlying66 h 1 _ rfl rfl (by kernel_rfl) (by omega)
  obtain ⟨z0, rfl, b0⟩ := int_in Try.underlying3 t0
  obtain ⟨z1, rfl, b1⟩ := int_in Try.underlying3 t1
  exact ⟨(z0, z1), list2 hl e0 e1, trivial⟩
theorem found_in {n : Nat} {c0 c1 c2 c3 c4 c5 c6 : Value} {y : DataW H × List MemPlace} (h : DataW.trod enc Try.prog w base spare held n 26 [c0, c1, c2, c3, c4, c5, c6] = some y) : ∃ z0 z1 z2 z3 z4 z5 z6 : Int, [c0, c1, c2, c3, c4, c5, c6] = [.int .i64 z0, .int .i64 z1, .int .i64 z2, .int .i64 z3, .int .i64 z4, .int .i64 z5, .int .i64 z6] ∧ ∀ x ∈ [z0, z1, z2, z3, z4, z5, z6], I64 x := by
  have hc2 : Try.prog.cellsOf 24 = 2 := by kernel_rfl
  have hc1 : Try.prog.cellsOf 3 = 1 := by kernel_rfl
  obtain ⟨v0, _, _, e0, t0⟩ := field_in Try.underlying26 h 0 _ rfl rfl (by kernel_rfl) (by simp)
  obtain ⟨z0, rfl, b0⟩ := int_in Try.underlying3 t0
  obtain rfl : c0 = .int .i64 z0 := by simpa using e0
  obtain ⟨ya, na, ha⟩ := part_inW Try.underlying26 h 1 _ rfl
  change DataW.trod enc Try.prog w base spare held na 24 (List.take (Try.prog.cellsOf 24) (List.drop 1 _)) = some ya at ha
  rw [hc2] at ha
  simp only [List.drop_succ_cons, List.drop_zero, List.take_succ_cons, List.take_zero] at ha
  obtain ⟨z1, z2, rfl, rfl, b1, b2⟩ := sp_inW ha
  obtain ⟨yb, nb, hb⟩ := part_inW Try.underlying26 h 2 _ rfl
  change DataW.trod enc Try.prog w base spare held nb 24 (List.take (Try.prog.cellsOf 24) (List.drop 3 _)) = some yb at hb
  rw [hc2] at hb
  simp only [List.drop_succ_cons, List.drop_zero, List.take_succ_cons, List.take_zero] at hb
  obtain ⟨z3, z4, rfl, rfl, b3, b4⟩ := sp_inW hb
  obtain ⟨yc, nc, hc⟩ := part_inW Try.underlying26 h 3 _ rfl
  change DataW.trod enc Try.prog w base spare held nc 3 (List.take (Try.prog.cellsOf 3) (List.drop 5 _)) = some yc at hc
  rw [hc1] at hc
  simp only [List.drop_succ_cons, List.drop_zero, List.take_succ_cons, List.take_zero] at hc
  obtain ⟨z5, rfl, b5⟩ := int_in Try.underlying3 hc
  obtain ⟨yd, nd, hd⟩ := part_inW Try.underlying26 h 4 _ rfl
  change DataW.trod enc Try.prog w base spare held nd 3 (List.take (Try.prog.cellsOf 3) (List.drop 6 _)) = some yd at hd
  rw [hc1] at hd
  simp only [List.drop_succ_cons, List.drop_zero, List.take_succ_cons, List.take_zero] at hd
  obtain ⟨z6, rfl, b6⟩ := int_in Try.underlying3 hd
  refine ⟨z0, z1, z2, z3, z4, z5, z6, rfl, fun x hx => ?_⟩
  simp only [List.mem_cons, List.not_mem_nil, or_false] at hx
  rcases hx with rfl | rfl | rfl | rfl | rfl | rfl | rfl <;> assumption
theorem budget_in {n : Nat} {c0 c1 c2 : Value} {y : DataW H × List MemPlace} (h : DataW.trod enc Try.prog w base spare held n 29 [c0, c1, c2] = some y) : ∃ z0 z1 z2 : Int, [c0, c1, c2] = [.int .i64 z0, .int .i64 z1, .int .i64 z2] ∧ I64 z0 ∧ I64 z1 ∧ I64 z2 := by
  obtain ⟨v0, _, _, e0, t0⟩ := field_in Try.underlying29 h 0 _ rfl rfl (by kernel_rfl) (by simp)
  obtain ⟨z0, rfl, b0⟩ := int_in Try.underlying3 t0
  obtain rfl : c0 = .int .i64 z0 := by simpa using e0
  obtain ⟨v1, _, _, e1, t1⟩ := field_in Try.underlying29 h 1 _ rfl rfl (by kernel_rfl) (by simp)
  obtain ⟨z1, rfl, b1⟩ := int_in Try.underlying3 t1
  obtain rfl : c1 = .int .i64 z1 := by simpa using e1
  obtain ⟨v2, _, _, e2, t2⟩ := field_in Try.underlying29 h 2 _ rfl rfl (by kernel_rfl) (by simp)
  obtain ⟨z2, rfl, b2⟩ := int_in Try.underlying3 t2
  obtain rfl : c2 = .int .i64 z2 := by simpa using e2
  exact ⟨z0, z1, z2, rfl, b0, b1, b2⟩
theorem rows_blk {w : World} {k : Nat} {a : Option Addr} {cap : Nat} {α : Type} {l : List α} {C : α → List Value} (h : Rows w k a cap (l.map C)) : (∀ b ∈ blk a, b < w.heap.size) ∨ l = [] := by
  rcases h.2.2.2 with e | ⟨b, off, e, hlt, _⟩
  · exact .inr (List.map_eq_nil_iff.mp e)
  · refine .inl fun x hx => ?_
    rw [e] at hx
    simp only [blk, List.mem_singleton] at hx
    rw [hx]; exact hlt
theorem wit_arg {n : Nat} {cs : List Value} {y : DataW H × List MemPlace} (h : DataW.trod enc Try.prog w base spare held n 31 cs = some y) : ∃ (M : Wi) (pa : Option Addr) (pc : Nat), Value.agg cs.toArray = .agg (M.cells pa pc).toArray ∧ WitIn w M pa pc := by
  have hl : cs.length = 12 := by
    obtain ⟨xs, n, _, _, hl, _⟩ := DataW.trod_struct Try.underlying31 h
    rw [hl]
    kernel_rfl
  have hf7 : Try.prog.cellsOf 26 = 7 := by kernel_rfl
  have hp1 : Try.prog.cellsOf 27 = 1 := by kernel_rfl
  have hb3 : Try.prog.cellsOf 29 = 3 := by kernel_rfl
  match cs, hl, h with
  | [c0, c1, c2, c3, c4, c5, c6, c7, c8, c9, c10, c11], _, h =>
    obtain ⟨v0, _, _, e0, t0⟩ := field_in Try.underlying31 h 0 _ rfl rfl (by kernel_rfl) (by simp)
    obtain ⟨z0, rfl, b0⟩ := u32_in Try.underlying22 t0
    obtain rfl : c0 = .int .u32 z0 := by simpa using e0
    obtain ⟨ya, na, ha⟩ := part_inW Try.underlying31 h 1 _ rfl
    change DataW.trod enc Try.prog w base spare held na 26 (List.take (Try.prog.cellsOf 26) (List.drop 1 _)) = some ya at ha
    rw [hf7] at ha
    simp only [List.drop_succ_cons, List.drop_zero, List.take_succ_cons, List.take_zero] at ha
    obtain ⟨f0, f1, f2, f3, f4, f5, f6, ef, hf⟩ := found_in ha
    simp only [List.cons.injEq, and_true] at ef
    obtain ⟨rfl, rfl, rfl, rfl, rfl, rfl, rfl⟩ := ef
    obtain ⟨yb, nb, hb⟩ := part_inW Try.underlying31 h 2 _ rfl
    change DataW.trod enc Try.prog w base spare held nb 27 (List.take (Try.prog.cellsOf 27) (List.drop 8 _)) = some yb at hb
    rw [hp1] at hb
    simp only [List.drop_succ_cons, List.drop_zero, List.take_succ_cons, List.take_zero] at hb
    obtain ⟨pa, len, pc, rfl⟩ := slice_in Try.underlying27 hb
    obtain ⟨l, rfl, hr, _⟩ := rows_in (k := 2) ((0 : Int), (0 : Int)) pkC (fun _ => True) Try.underlying27 (by kernel_rfl) (by omega) (fun n cs y hl h => pick_in hl h) hb
    obtain ⟨yc, nc, hc⟩ := part_inW Try.underlying31 h 3 _ rfl
    change DataW.trod enc Try.prog w base spare held nc 29 (List.take (Try.prog.cellsOf 29) (List.drop 9 _)) = some yc at hc
    rw [hb3] at hc
    simp only [List.drop_succ_cons, List.drop_zero, List.take_succ_cons, List.take_zero] at hc
    obtain ⟨g0, g1, g2, eg, k0, k1, k2⟩ := budget_in hc
    simp only [List.cons.injEq, and_true] at eg
    obtain ⟨rfl, rfl, rfl⟩ := eg
    have hlen := rows_len hr
    refine ⟨⟨z0, f0, f1, f2, f3, f4, f5, f6, l, g0, g1, g2⟩, pa, pc, rfl, hr, rows_blk hr, b0.1, b0.2, fun x hx => ?_⟩
    simp only [Wi.vals, List.mem_cons, List.not_mem_nil, or_false] at hx
    rcases hx with rfl | rfl | rfl | rfl | rfl | rfl | rfl | rfl | rfl | rfl | rfl
    · exact hf _ (by simp)
    · exact hf _ (by simp)
    · exact hf _ (by simp)
    · exact hf _ (by simp)
    · exact hf _ (by simp)
    · exact hf _ (by simp)
    · exact hf _ (by simp)
    · exact k0
    · exact k1
    · exact k2
    · exact ⟨by omega, hlen⟩
end
end Go.Proofs.Ytikkgfmhnmoalaa.pg
