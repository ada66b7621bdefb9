/- The document's own put: a number put into a rising list, once. -/
import Derived.Test.YtlcljdldhajkiaaDoorM18
import Derived.Test.YtlcljdldhajkiaaDoorM7
import Derived.Laws.OwnMore
import Derived.Laws.MakeOwn
import Derived.OwnWalk
namespace Go.Proofs.YtlcljdldhajkiaaDoor.pg
open Go.ChangeShapes Go.WideShapes Go.ChangeAt Go.RowKit Go.Shelf
set_option linter.unusedVariables false
set_option linter.unusedSimpArgs false
set_option maxRecDepth 100000
def pStep (n : Int) (s : List Int × Bool) (x : Int) : List Int × Bool :=
  if x = n then (s.1 ++ [x], true) else if n < x ∧ s.2 = false then (s.1 ++ [n] ++ [x], true) else (s.1 ++ [x], s.2)
def pSt (n : Int) (l : List Int) : List Int × Bool := l.foldl (pStep n) ([], false)
def putL (l : List Int) (n : Int) : List Int := if (pSt n l).2 = true then (pSt n l).1 else (pSt n l).1 ++ [n]
abbrev Ris (l : List Int) : Prop := l.Pairwise (· < ·)
theorem pSt_more {n x : Int} {l : List Int} {k : Nat} (h : l[k]? = some x) : pSt n (l.take (k + 1)) = pStep n (pSt n (l.take k)) x := by
  obtain ⟨hk, e⟩ := List.getElem?_eq_some_iff.mp h
  rw [List.take_succ_eq_append_getElem hk, e]
  unfold pSt
  rw [List.foldl_append]; rfl
theorem pSt_len (n : Int) : ∀ (l : List Int) (s : List Int × Bool), (l.foldl (pStep n) s).1.length ≤ s.1.length + 2 * l.length
  | [], s => by simp
  | x :: l, s => by
    have h := pSt_len n l (pStep n s x)
    have h2 : (pStep n s x).1.length ≤ s.1.length + 2 := by
      unfold pStep
      split
      · simp
      · split <;> simp
    simp only [List.foldl_cons, List.length_cons]
    omega
structure PI (n : Int) (p : List Int) (s : List Int × Bool) : Prop where
  f : s.2 = false → s.1 = p ∧ ∀ x ∈ p, x < n
  t : s.2 = true → Ris s.1 ∧ (∀ x, x ∈ s.1 ↔ x ∈ p ∨ x = n) ∧ ∃ y ∈ p, n ≤ y
theorem ris_snoc {l : List Int} {x : Int} : Ris (l ++ [x]) ↔ Ris l ∧ ∀ y ∈ l, y < x := by
  rw [Ris, List.pairwise_append]
  constructor
  · rintro ⟨h1, _, h3⟩
    exact ⟨h1, fun y hy => h3 y hy x (by simp)⟩
  · rintro ⟨h1, h2⟩
    refine ⟨h1, by simp, fun y hy z hz => ?_⟩
    rw [List.mem_singleton] at hz
    subst hz
    exact h2 y hy
theorem PI.step {n : Int} {p : List Int} {s : List Int × Bool} (h : PI n p s) {x : Int} (hr : Ris (p ++ [x])) : PI n (p ++ [x]) (pStep n s x) := by
  obtain ⟨r1, r2⟩ := ris_snoc.mp hr
  unfold pStep
  cases hd : s.2 with
  | false =>
    obtain ⟨f1, f2⟩ := h.f hd
    split
    · rename_i e
      subst e
      refine ⟨fun q => by simp at q, fun _ => ⟨by rw [f1]; exact hr, fun y => by rw [f1]; simp, x, by simp, Int.le_refl _⟩⟩
    · split
      · rename_i e q
        refine ⟨fun q => by simp at q, fun _ => ⟨?_, fun y => by rw [f1]; simp; grind, x, by simp, by omega⟩⟩
        show Ris (s.1 ++ [n] ++ [x])
        rw [f1]
        refine ris_snoc.mpr ⟨ris_snoc.mpr ⟨r1, f2⟩, fun y hy => ?_⟩
        rw [List.mem_append, List.mem_singleton] at hy
        rcases hy with hy | hy
        · exact r2 y hy
        · omega
      · rename_i e q
        have hx : x < n := by
          have : ¬ n < x := fun c => q ⟨c, rfl⟩
          omega
        refine ⟨fun _ => ⟨by rw [f1], fun y hy => ?_⟩, fun q => (by simp at q)⟩
        rw [List.mem_append, List.mem_singleton] at hy
        rcases hy with hy | hy
        · exact f2 y hy
        · omega
  | true =>
    obtain ⟨t1, t2, y, hy, hny⟩ := h.t hd
    have hxy := r2 y hy
    have hne : x ≠ n := by omega
    rw [if_neg hne, if_neg (by simp)]
    refine ⟨fun q => (by simp at q), fun _ => ⟨?_, fun z => ?_, y, by simp [hy], hny⟩⟩
    · refine ris_snoc.mpr ⟨t1, fun z hz => ?_⟩
      rcases (t2 z).mp hz with hz | hz
      · exact r2 z hz
      · omega
    · show z ∈ s.1 ++ [x] ↔ _
      rw [List.mem_append, t2 z, List.mem_append]
      grind
theorem PI.go {n : Int} : ∀ (l p : List Int) (s : List Int × Bool), PI n p s → Ris (p ++ l) → PI n (p ++ l) (l.foldl (pStep n) s)
  | [], p, s, h, _ => by rw [List.append_nil]; exact h
  | x :: l, p, s, h, hr => by
    have e : p ++ x :: l = (p ++ [x]) ++ l := by simp
    rw [e] at hr ⊢
    exact PI.go l (p ++ [x]) _ (h.step (List.pairwise_append.mp hr).1) hr
theorem pSt_pi {n : Int} {l : List Int} (h : Ris l) : PI n l (pSt n l) := by
  have := PI.go (n := n) l [] ([], false) ⟨fun _ => ⟨rfl, by simp⟩, fun q => by cases q⟩ (by rw [List.nil_append]; exact h)
  rw [List.nil_append] at this
  exact this
theorem putL_ris {l : List Int} (h : Ris l) (n : Int) : Ris (putL l n) := by
  have hp := pSt_pi (n := n) h
  unfold putL
  cases hd : (pSt n l).2 with
  | true => rw [if_pos rfl]; exact (hp.t hd).1
  | false =>
    obtain ⟨f1, f2⟩ := hp.f hd
    rw [if_neg (by simp), f1]
    exact ris_snoc.mpr ⟨h, f2⟩
theorem putL_mem {l : List Int} (h : Ris l) (n x : Int) : x ∈ putL l n ↔ x ∈ l ∨ x = n := by
  have hp := pSt_pi (n := n) h
  unfold putL
  cases hd : (pSt n l).2 with
  | true => rw [if_pos rfl]; exact (hp.t hd).2.1 x
  | false =>
    obtain ⟨f1, f2⟩ := hp.f hd
    rw [if_neg (by simp), f1]
    simp
theorem ris_ext : ∀ {l m : List Int}, Ris l → Ris m → (∀ x, x ∈ l ↔ x ∈ m) → l = m
  | [], [], _, _, _ => rfl
  | [], y :: m, _, _, h => by have := (h y).mpr (by simp); simp at this
  | x :: l, [], _, _, h => by have := (h x).mp (by simp); simp at this
  | x :: l, y :: m, hl, hm, h => by
    obtain ⟨l1, l2⟩ := List.pairwise_cons.mp hl
    obtain ⟨m1, m2⟩ := List.pairwise_cons.mp hm
    have e : x = y := by
      rcases List.mem_cons.mp ((h x).mp (by simp)) with e | e
      · exact e
      · rcases List.mem_cons.mp ((h y).mpr (by simp)) with e' | e'
        · exact e'.symm
        · have := m1 x e; have := l1 y e'; omega
    subst e
    rw [ris_ext l2 m2 fun z => ?_]
    have hz := h z
    rw [List.mem_cons, List.mem_cons] at hz
    constructor
    · intro q
      have := l1 z q
      rcases hz.mp (.inr q) with e | e
      · omega
      · exact e
    · intro q
      have := m1 z q
      rcases hz.mpr (.inr q) with e | e
      · omega
      · exact e
theorem lst_ris (f : Nat → Bool) : ∀ n, Ris (lst f n)
  | 0 => by simp [lst, Ris]
  | n + 1 => by
    rw [lst]
    split
    · refine ris_snoc.mpr ⟨lst_ris f n, fun y hy => ?_⟩
      obtain ⟨k, hk, _, e⟩ := (lst_mem f y n).mp hy
      omega
    · rw [List.append_nil]; exact lst_ris f n
theorem putL_len (l : List Int) (n : Int) : (putL l n).length ≤ 2 * l.length + 1 := by
  have h := pSt_len n l ([], false)
  have h2 : (pSt n l).1.length ≤ 2 * l.length := by simpa [pSt] using h
  unfold putL
  split
  · omega
  · rw [List.length_append, List.length_singleton]; omega
/-- All of some numbers put in, one behind the other. -/
def putAll (l m : List Int) : List Int := m.foldl putL l
theorem putAll_ris : ∀ (m l : List Int), Ris l → Ris (putAll l m)
  | [], l, h => h
  | x :: m, l, h => putAll_ris m _ (putL_ris h x)
theorem putAll_mem : ∀ (m l : List Int), Ris l → ∀ x, x ∈ putAll l m ↔ x ∈ l ∨ x ∈ m
  | [], l, h, x => by simp [putAll]
  | y :: m, l, h, x => by
    have := putAll_mem m _ (putL_ris h y) x
    rw [show putAll l (y :: m) = putAll (putL l y) m from rfl, this, putL_mem h, List.mem_cons]
    grind
set_option maxHeartbeats 1000000 in
theorem put_any (l : List Int) (n : Int) (a : Option Addr) (ca : Nat) (w : World) (ha : Rows w 1 a ca (l.map chCells)) (hl : l.length ≤ 1000) :
    Calls Tryd.prog 43 #[.slice a l.length ca, .int .i64 n] w fun e w' => ∃ va vc, e = .returned (.slice va (putL l n).length vc) ∧ LsS w (putL l n) va vc w' := by
  obtain ⟨iN, hiN, hzN, hsN, hbN⟩ := info_q infoN_u
  have s0 : Hid (LsS w (pSt n (l.take 0)).1 none 0 w) := ⟨Below.refl _ _, own_nil_q _ _ _ _⟩
  have hlI : (l.length : Int) ≤ 1000 := by omega
  have haH : Hid (Rows w 1 a ca (l.map chCells)) := ha
  clear ha hl
  go_enter Tryd.func43, Tryd.ntmps43
  go_wp2_with fail
  go_loopw [5, 6, 7] (fun o d u wr => ∃ (k : Nat) (va : Option Addr) (vc : Nat), k ≤ l.length ∧ u = .int .i64 (k : Int) ∧ d = .bool (pSt n (l.take k)).2 ∧ o = .slice va (pSt n (l.take k)).1.length vc ∧ Hid (LsS w (pSt n (l.take k)).1 va vc wr)) (fun _ _ u _ => l.length - (intOf u).toNat)
  case atStart => exact ⟨0, none, 0, Nat.zero_le _, rfl, rfl, rfl, s0⟩
  case round =>
    clear s0
    obtain ⟨k, va, vc, hk, rfl, rfl, rfl, hs⟩ := hrel
    by_cases hlt : k < l.length
    · obtain ⟨y, hy, hym⟩ := get_lt l k hlt
      obtain ⟨b1, o1, hix1, hbl1, c0⟩ := ch_ix haH.out k y hy
      have c0H : Hid (w.cell? ⟨b1, o1, none⟩ = some (.int .i64 y)) := c0
      have c1 := cell_later hs.out.be c0
      clear c0
      have hkI : (k : Int) < l.length := by omega
      have hN : Hid (pSt n (l.take (k + 1)) = pStep n (pSt n (l.take k)) y) := pSt_more hy
      have hLl : Hid ((pSt n (l.take k)).1.length ≤ 2000) := by
        have h := pSt_len n (l.take k) ([], false)
        have h2 : (pSt n (l.take k)).1.length ≤ 2 * (l.take k).length := by simpa [pSt] using h
        rw [List.length_take] at h2
        show _ ≤ _
        omega
      clear hy hym
      generalize pSt n (l.take k) = s at *
      obtain ⟨L, d⟩ := s
      dsimp only at hs hN hLl ⊢
      have hL : L.length ≤ 2000 := hLl.out
      by_cases e : y = n
      · have d1 : (y == n) = true := by simpa using e
        have d2 : decide (n < y) = false := decide_eq_false (by omega)
        have hN2 : Hid (pSt n (l.take (k + 1)) = (L ++ [y], true)) := by show _ = _; rw [hN.out, pStep, if_pos e]
        clear e
        clear hN
        go_wp2_with (first
          | (at_builtin; (refine wpList_app1 rfl (.tmp 34) (.tmp 39) 23 rfl w.heap.size 3 iN _ 1 8 Tryd.underlying23 hiN hzN hsN hbN rfl (by decide) va vc (L.map chCells) (by rw [List.length_map]; rfl) hs.out.ow (chCells y) rfl rfl (one1u _) (by rw [List.length_map]; unfold maxLen; omega) (by rw [List.length_map]; omega) hs.out.be.size ?_); intro va' vc' w2 hg; rw [List.length_map]; (have hg2 : Hid (LsS w (L ++ [y]) va' vc' w2) := hs.out.grown hg); clear hg))
        go_roundw
        case rel => exact ⟨k + 1, va', vc', by omega, by go_num, by rw [hN2.out], by rw [hN2.out, List.length_append]; rfl, by rw [hN2.out]; exact hg2⟩
        case measure => simp [intOf]; omega
      have d1 : (y == n) = false := by simpa using e
      by_cases g : n < y
      · have d2 : decide (n < y) = true := decide_eq_true g
        cases d with
        | false =>
          have hN2 : Hid (pSt n (l.take (k + 1)) = (L ++ [n] ++ [y], true)) := by show _ = _; rw [hN.out, pStep, if_neg e, if_pos ⟨g, rfl⟩]
          clear hN e g
          go_wp2_with (first
            | (at_builtin; (refine wpList_app1 rfl (.tmp 30) (.tmp 32) 23 rfl w.heap.size 3 iN _ 1 8 Tryd.underlying23 hiN hzN hsN hbN rfl (by decide) va vc (L.map chCells) (by rw [List.length_map]; rfl) hs.out.ow (chCells n) rfl rfl (one1u _) (by rw [List.length_map]; unfold maxLen; omega) (by rw [List.length_map]; omega) hs.out.be.size ?_); intro va' vc' w2 hg; rw [List.length_map]; (have hg2 : Hid (LsS w (L ++ [n]) va' vc' w2) := hs.out.grown hg); (have c2 := cell_later hg2.out.be c0H.out); clear hg c1)
            | (at_builtin; (refine wpList_app1 rfl (.tmp 34) (.tmp 39) 23 rfl w.heap.size 3 iN _ 1 8 Tryd.underlying23 hiN hzN hsN hbN rfl (by decide) va' vc' ((L ++ [n]).map chCells) (by rw [List.length_map, List.length_append]; rfl) hg2.out.ow (chCells y) rfl rfl (one1u _) (by rw [List.length_map, List.length_append, List.length_singleton]; unfold maxLen; omega) (by rw [List.length_map, List.length_append, List.length_singleton]; omega) hg2.out.be.size ?_); intro va2 vc2 w3 hg; rw [List.length_map, List.length_append, List.length_singleton]; (have hg3 : Hid (LsS w ((L ++ [n]) ++ [y]) va2 vc2 w3) := hg2.out.grown hg); clear hg))
          go_roundw
          case rel => exact ⟨k + 1, va2, vc2, by omega, by go_num, by rw [hN2.out], by rw [hN2.out]; simp, by rw [hN2.out]; exact hg3⟩
          case measure => simp [intOf]; omega
        | true =>
          have hN2 : Hid (pSt n (l.take (k + 1)) = (L ++ [y], true)) := by show _ = _; rw [hN.out, pStep, if_neg e, if_neg (by simp)]
          clear e g
          clear hN
          go_wp2_with (first
            | (at_builtin; (refine wpList_app1 rfl (.tmp 34) (.tmp 39) 23 rfl w.heap.size 3 iN _ 1 8 Tryd.underlying23 hiN hzN hsN hbN rfl (by decide) va vc (L.map chCells) (by rw [List.length_map]; rfl) hs.out.ow (chCells y) rfl rfl (one1u _) (by rw [List.length_map]; unfold maxLen; omega) (by rw [List.length_map]; omega) hs.out.be.size ?_); intro va' vc' w2 hg; rw [List.length_map]; (have hg2 : Hid (LsS w (L ++ [y]) va' vc' w2) := hs.out.grown hg); clear hg))
          go_roundw
          case rel => exact ⟨k + 1, va', vc', by omega, by go_num, by rw [hN2.out], by rw [hN2.out, List.length_append]; rfl, by rw [hN2.out]; exact hg2⟩
          case measure => simp [intOf]; omega
      · have d2 : decide (n < y) = false := decide_eq_false g
        have hN2 : Hid (pSt n (l.take (k + 1)) = (L ++ [y], d)) := by show _ = _; rw [hN.out, pStep, if_neg e, if_neg (fun q => g q.1)]
        clear e g
        clear hN
        go_wp2_with (first
          | (at_builtin; (refine wpList_app1 rfl (.tmp 34) (.tmp 39) 23 rfl w.heap.size 3 iN _ 1 8 Tryd.underlying23 hiN hzN hsN hbN rfl (by decide) va vc (L.map chCells) (by rw [List.length_map]; rfl) hs.out.ow (chCells y) rfl rfl (one1u _) (by rw [List.length_map]; unfold maxLen; omega) (by rw [List.length_map]; omega) hs.out.be.size ?_); intro va' vc' w2 hg; rw [List.length_map]; (have hg2 : Hid (LsS w (L ++ [y]) va' vc' w2) := hs.out.grown hg); clear hg))
        go_roundw
        case rel => exact ⟨k + 1, va', vc', by omega, by go_num, by rw [hN2.out], by rw [hN2.out, List.length_append]; rfl, by rw [hN2.out]; exact hg2⟩
        case measure => simp [intOf]; omega
    · have hk2 : k = l.length := by omega
      subst hk2
      have hP : Hid (putL l n = if (pSt n (l.take l.length)).2 = true then (pSt n (l.take l.length)).1 else (pSt n (l.take l.length)).1 ++ [n]) := by show _ = _; rw [List.take_length]; rfl
      have hLl : (pSt n (l.take l.length)).1.length ≤ 2000 := by
        have h := pSt_len n (l.take l.length) ([], false)
        have h2 : (pSt n (l.take l.length)).1.length ≤ 2 * (l.take l.length).length := by simpa [pSt] using h
        rw [List.length_take] at h2
        omega
      generalize pSt n (l.take l.length) = s at *
      obtain ⟨L, d⟩ := s
      dsimp only at hs hP hLl ⊢
      cases d with
      | true =>
        have hP2 : Hid (putL l n = L) := by show _ = _; rw [hP.out, if_pos rfl]
        clear hP
        go_wp2
        go_ret
        exact ⟨va, vc, by rw [hP2.out]; rfl, by rw [hP2.out]; exact hs.out⟩
      | false =>
        have hP2 : Hid (putL l n = L ++ [n]) := by show _ = _; rw [hP.out, if_neg (by simp)]
        clear hP
        go_wp2_with (first
          | (at_builtin; (refine wpList_app1 rfl (.tmp 43) (.tmp 45) 23 rfl w.heap.size 3 iN _ 1 8 Tryd.underlying23 hiN hzN hsN hbN rfl (by decide) va vc (L.map chCells) (by rw [List.length_map]; rfl) hs.out.ow (chCells n) rfl rfl (one1u _) (by rw [List.length_map]; unfold maxLen; omega) (by rw [List.length_map]; omega) hs.out.be.size ?_); intro va' vc' w2 hg; rw [List.length_map]; (have hg2 : Hid (LsS w (L ++ [n]) va' vc' w2) := hs.out.grown hg); clear hg))
        go_ret
        exact ⟨va', vc', by rw [hP2.out, List.length_append]; rfl, by rw [hP2.out]; exact hg2.out⟩
end Go.Proofs.YtlcljdldhajkiaaDoor.pg
/- The document's own Next. -/
namespace Go.Proofs.YtlcljdldhajkiaaDoor.pg
open Go.ChangeShapes Go.WideShapes Go.ChangeAt Go.RowKit Go.Shelf
set_option linter.unusedVariables false
set_option linter.unusedSimpArgs false
set_option maxRecDepth 100000
theorem LsS.from {w W : World} {L : List Int} {va : Option Addr} {vc : Nat} {w' : World} (h : LsS W L va vc w') (hb : Below w.heap.size w W) : LsS w L va vc w' := ⟨bthen hb h.be, own_mono_q h.ow hb.size⟩
abbrev objIn (i : Ins) : Obj := .cells #[.int .i64 i.op, .int .i64 i.a, .int .i64 i.b, .int .i64 i.c, .int .i64 i.n] 70
abbrev objSl (s : MSel) : Obj := .cells #[.slice s.at_ s.cases.length s.cap, .int .i64 s.els] 76
theorem putAll_app (l m k : List Int) : putAll l (m ++ k) = putAll (putAll l m) k := List.foldl_append
theorem putAll_len : ∀ (m l : List Int) (c : Nat), m.length ≤ c → l.length ≤ 1 → c ≤ 5 → (putAll l m).length ≤ 63
  | [], l, c, h1, h2, h3 => by show l.length ≤ 63; omega
  | [x], l, c, h1, h2, h3 => by have := putL_len l x; show (putL l x).length ≤ 63; omega
  | [x, y], l, c, h1, h2, h3 => by have := putL_len l x; have := putL_len (putL l x) y; show (putL (putL l x) y).length ≤ 63; omega
  | [x, y, z], l, c, h1, h2, h3 => by have := putL_len l x; have := putL_len (putL l x) y; have := putL_len (putL (putL l x) y) z; show (putL (putL (putL l x) y) z).length ≤ 63; omega
  | [x, y, z, u], l, c, h1, h2, h3 => by have := putL_len l x; have := putL_len (putL l x) y; have := putL_len (putL (putL l x) y) z; have := putL_len (putL (putL (putL l x) y) z) u; show (putL (putL (putL (putL l x) y) z) u).length ≤ 63; omega
  | [x, y, z, u, v], l, c, h1, h2, h3 => by have := putL_len l x; have := putL_len (putL l x) y; have := putL_len (putL (putL l x) y) z; have := putL_len (putL (putL (putL l x) y) z) u; have := putL_len (putL (putL (putL (putL l x) y) z) u) v; show (putL (putL (putL (putL (putL l x) y) z) u) v).length ≤ 63; omega
  | _ :: _ :: _ :: _ :: _ :: _ :: _, l, c, h1, h2, h3 => by simp at h1; omega
theorem rows_none (w : World) : Rows w 1 none 0 (([] : List Int).map chCells) := own_rows (own_nil_q w 0 3 1) (len1u [])
/-- What the first k cases go on to. -/
def selC (s : MSel) (k : Nat) : List Int := putAll [] ((s.cases.map Cas.to).take k)
theorem selC_more {s : MSel} {k : Nat} {c : Cas} (h : s.cases[k]? = some c) : selC s (k + 1) = putL (selC s k) c.to := by
  have h1 : (s.cases.map Cas.to)[k]? = some c.to := by rw [List.getElem?_map, h]; rfl
  unfold selC
  rw [← take_more h1, putAll_app]; rfl
theorem selC_end (s : MSel) : putAll [] (selTo s.sel) = if s.els = -1 then selC s s.cases.length else putL (selC s s.cases.length) s.els := by
  have h1 : selC s s.cases.length = putAll [] (s.cases.map Cas.to) := by unfold selC; rw [List.take_of_length_le (by rw [List.length_map]; exact Nat.le_refl _)]
  rw [h1]
  unfold selTo
  rw [putAll_app]
  show putAll (putAll [] (s.cases.map Cas.to)) (if s.els = -1 then [] else [s.els]) = _
  split <;> rfl
set_option maxHeartbeats 4000000 in
theorem rnext_any (M : MPr) (f : Int) (pc : Nat) (w : World) (hM : M.lies w) (F : MFn) (hFi : M.fns[f.toNat]? = some F) (hfl : FlowF F.fn) (f0 : 0 ≤ f) (hpc : pc < F.code.length) :
    Calls Tryd.prog 44 #[M.val, .int .i64 f, .int .i64 (pc : Int)] w fun e w' => ∃ va vc, e = .returned (.slice va (putAll [] (nxt F.fn pc)).length vc) ∧ LsS w (putAll [] (nxt F.fn pc)) va vc w' := by
  have hb := boxed w (objP M)
  have bP := boxP_new w M
  have hFm := List.mem_of_getElem? hFi
  have hl64 := hfl.l64
  have hp64 : (pc : Int) < 64 := by have : F.fn.code.length = F.code.length := rfl; omega
  have hlF : Hid (F.lies (w.alloc (objP M))) := (hM.later hb).2.2.2.2.2.2 F hFm
  obtain ⟨fb, fo, hfix, hfb, fc0, fc1, fc2, fc3⟩ := fn_ix (hM.later hb).2.2.1 f.toNat F hFi
  rw [show ((f.toNat : Nat) : Int) = f by omega] at hfix
  obtain ⟨m1, m2⟩ := insAt_mem (code := F.code) (pc := (pc : Int)) (by omega) (by omega)
  rw [Int.toNat_natCast] at m1
  obtain ⟨ib, io, hix, hib, i0, i1, i2, i3, i4⟩ := ins_ix hlF.out.1 pc _ m1
  have hnx : Hid (nxt F.fn pc = nxtI F.fn (insAt F.code pc) pc) := rfl
  have hsl := hfl.s pc hpc
  rw [show F.fn.code = F.code from rfl] at hsl
  generalize insAt F.code pc = i at *
  have hb1 := boxed (w.alloc (objP M)) (objIn i)
  have hCn : ((w.alloc (objP M)).alloc (objIn i)).heap[(w.alloc (objP M)).heap.size]? = some (objIn i) := heap_alloc_new _ _
  have j0 := cell_ofF (k := 0) (v := .int .i64 i.op) hCn rfl
  have j1 := cell_ofF (k := 1) (v := .int .i64 i.a) hCn rfl
  have j2 := cell_ofF (k := 2) (v := .int .i64 i.b) hCn rfl
  have hW : Hid (Below w.heap.size w ((w.alloc (objP M)).alloc (objIn i))) := bthen hb hb1
  have hCH : Hid (((w.alloc (objP M)).alloc (objIn i)).heap[w.heap.size + 1]? = some (objIn i)) := by show _ = _; rw [← World.size_alloc w (objP M)]; exact hCn
  have hpw : wrap64 ((pc : Int) + 1) = (pc : Int) + 1 := by unfold wrap64; omega
  have xP : ∀ n : Int, Calls Tryd.prog 43 #[.slice none 0 0, .int .i64 n] ((w.alloc (objP M)).alloc (objIn i)) fun e w' => ∃ va vc, e = .returned (.slice va (putL [] n).length vc) ∧ LsS ((w.alloc (objP M)).alloc (objIn i)) (putL [] n) va vc w' := fun n => put_any [] n none 0 _ (rows_none _) (by simp)
  have hflH : Hid (FlowF F.fn) := hfl
  have hlF1 : Hid (F.lies ((w.alloc (objP M)).alloc (objIn i))) := hlF.out.later hb1
  have fcH : Hid (((w.alloc (objP M)).alloc (objIn i)).cell? ⟨fb, fo + 3, none⟩ = some (.slice F.sa F.sels.length F.scap)) := cell_later hb1 fc3
  have p3H : Hid (BoxP ((w.alloc (objP M)).alloc (objIn i)) w.heap.size M) := bP.later hb1
  have p3 := bP.2.2.2
  clear bP hb hb1 hCn hfl m1 m2 hl64 hM hlF hFi hFm fc3 fc0 fc1 hfb hib
  by_cases h45 : i.op = 45
  · have hnl : Hid (nxt F.fn pc = []) := by show _ = _; rw [hnx.out]; unfold nxtI; rw [if_pos h45]
    have d45 : (i.op == 45) = true := by simpa using h45
    have d42 : (i.op == 42) = false := by simp [h45]
    have d43 : (i.op == 43) = false := by simp [h45]
    have d61 : (i.op == 61) = false := by simp [h45]
    clear hnx h45 hsl xP
    go_enter Tryd.func44, Tryd.ntmps44
    go_wp2_with fail
    go_ret
    exact ⟨none, 0, by rw [hnl.out]; rfl, by rw [hnl.out]; exact ⟨hW.out, own_nil_q _ _ _ _⟩⟩
  have d45 : (i.op == 45) = false := by simpa using h45
  by_cases h42 : i.op = 42
  · have hnl : Hid (nxt F.fn pc = [i.a]) := by show _ = _; rw [hnx.out]; unfold nxtI; rw [if_neg h45, if_pos h42]
    have d42 : (i.op == 42) = true := by simpa using h42
    have d43 : (i.op == 43) = false := by simp [h42]
    have d61 : (i.op == 61) = false := by simp [h42]
    have xP1 := xP i.a
    clear hnx h45 hsl xP h42
    go_enter Tryd.func44, Tryd.ntmps44
    go_wp2_with (go_at_call 43; (with_reducible refine xP1.mono ?_); rintro e w2 ⟨va, vc, rfl, hs2⟩)
    go_ret
    exact ⟨va, vc, by rw [hnl.out]; rfl, by rw [hnl.out]; exact hs2.from hW.out⟩
  have d42 : (i.op == 42) = false := by simpa using h42
  by_cases h61 : i.op = 61
  · have hsr := hsl h61
    obtain ⟨s, hs, hsm⟩ := get_lt F.sels i.a.toNat (by have h1 := hsr.1; have h2 := hsr.2; have h3 : F.fn.sels.length = F.sels.length := (by show (F.sels.map MSel.sel).length = _; rw [List.length_map]); omega)
    have hse : selAt F.fn i.a = s.sel := by
      unfold selAt
      rw [List.getD_eq_getElem?_getD]
      show ((F.sels.map MSel.sel)[i.a.toNat]?).getD _ = _
      rw [List.getElem?_map, hs]
      rfl
    have hnl : Hid (nxt F.fn pc = selTo s.sel) := by show _ = _; rw [hnx.out]; unfold nxtI; rw [if_neg h45, if_neg h42, if_pos h61, hse]
    have hc4 : s.cases.length ≤ 4 := hflH.out.c s.sel (List.mem_map.mpr ⟨s, hsm, rfl⟩)
    obtain ⟨sb, so, hsx, hsb, e0, e1⟩ := sel_ix hlF1.out.2.1 i.a.toNat s hs
    rw [show ((i.a.toNat : Nat) : Int) = i.a by have := hsr.1; omega] at hsx
    have hlS : Hid (s.lies ((w.alloc (objP M)).alloc (objIn i))) := hlF1.out.2.2.2.1 s hsm
    have d61 : (i.op == 61) = true := by simpa using h61
    have d43 : (i.op == 43) = false := by simp [h61]
    have hcI : (s.cases.length : Int) ≤ 4 := by omega
    have q3 := p3H.out.2.2.2
    have q4 := fcH.out
    clear hnx h45 hsl xP h42 h61 hse hs hsm
    go_enter Tryd.func44, Tryd.ntmps44
    go_upto_region 12 with (fail)
    have hbz := boxed ((w.alloc (objP M)).alloc (objIn i)) (.cells #[.slice none 0 0, .int .i64 0] 76)
    have z3 := cell_later hbz q3
    have z4 := cell_later hbz q4
    have z0 := cell_later hbz e0
    have z1 := cell_later hbz e1
    have zj := cell_later hbz j1
    go_region
    have hV3 : Hid (Below w.heap.size w (((w.alloc (objP M)).alloc (objIn i)).alloc (objSl s)).drew) := (bthen (bthen hW.out (boxed _ (objSl s))) (bey_drew _))
    have hS3 : Hid ((((w.alloc (objP M)).alloc (objIn i)).alloc (objSl s)).drew.heap[w.heap.size + 1 + 1]? = some (objSl s)) := by
      have h := heap_alloc_new ((w.alloc (objP M)).alloc (objIn i)) (objSl s)
      rw [World.size_alloc, World.size_alloc] at h
      exact h
    have hl3 : Hid (s.lies (((w.alloc (objP M)).alloc (objIn i)).alloc (objSl s)).drew) := (hlS.out.later (boxed _ (objSl s))).later (bey_drew _)
    clear z0 z1 z3 z4 zj hbz q3 q4 e0 e1 hsx hsb hlS hW hlF1 fcH p3H hCH p3 j0 j1 j2 hfix hix i0 i1 i2 i3 i4 fc2 hflH
    generalize (((w.alloc (objP M)).alloc (objIn i)).alloc (objSl s)).drew = V at *
    have s0 : Hid (LsS w (selC s 0) none 0 V ∧ V.heap[w.heap.size + 1 + 1]? = some (objSl s) ∧ Below w.heap.size V V ∧ s.lies V) := ⟨⟨hV3.out, own_nil_q _ _ _ _⟩, hS3.out, Below.refl _ _, hl3.out⟩
    go_wp2_with fail
    go_loopw [8, 10] (fun o u wr => ∃ (k : Nat) (va : Option Addr) (vc : Nat), k ≤ s.cases.length ∧ u = .int .i64 (k : Int) ∧ o = .slice va (selC s k).length vc ∧ Hid (LsS w (selC s k) va vc wr ∧ wr.heap[w.heap.size + 1 + 1]? = some (objSl s) ∧ Below w.heap.size V wr ∧ s.lies wr)) (fun _ u _ => s.cases.length - (intOf u).toNat)
    case atStart => exact ⟨0, none, 0, Nat.zero_le _, rfl, rfl, s0⟩
    case round =>
      clear s0 hV3 hS3 hl3
      obtain ⟨k, va, vc, hk, rfl, rfl, hr⟩ := hrel
      have k0 := cell_ofF (k := 0) (v := .slice s.at_ s.cases.length s.cap) hr.out.2.1 rfl
      have hCl : (selC s k).length ≤ 1000 := by have := putAll_len ((s.cases.map Cas.to).take k) [] 5 (by rw [List.length_take, List.length_map]; omega) (by simp) (by omega); unfold selC; omega
      by_cases hlt : k < s.cases.length
      · obtain ⟨c, hc, hcm⟩ := get_lt s.cases k hlt
        obtain ⟨cb, co, hix, hcb, i0, i1, i2, i3⟩ := cas_ix hr.out.2.2.2.1 k c hc
        have hkI : (k : Int) < s.cases.length := by omega
        have hmore : Hid (selC s (k + 1) = putL (selC s k) c.to) := selC_more hc
        have xP := put_any (selC s k) c.to va vc wr hr.out.1.rows hCl
        clear hc hcm
        generalize selC s k = L at *
        go_wp2_with (go_at_call 43; (with_reducible refine xP.mono ?_); rintro e w2 ⟨va2, vc2, rfl, hs2⟩)
        have hr2 : Hid (LsS w (putL L c.to) va2 vc2 w2 ∧ w2.heap[w.heap.size + 1 + 1]? = some (objSl s) ∧ Below w.heap.size V w2 ∧ s.lies w2) := ⟨hs2.from hr.out.1.be, (hs2.be.block _ (Array.getElem?_eq_some_iff.mp hr.out.2.1).1).trans hr.out.2.1, hr.out.2.2.1.trans (hs2.be.mono hr.out.1.be.size), hr.out.2.2.2.later hs2.be⟩
        go_roundw
        case rel => exact ⟨k + 1, va2, vc2, by omega, by go_num, by rw [hmore.out], by rw [hmore.out]; exact hr2⟩
        case measure => simp [intOf]; omega
      · have hk2 : k = s.cases.length := by omega
        have hkI : ¬ ((k : Int) < s.cases.length) := by omega
        have k1 := cell_ofF (k := 1) (v := .int .i64 s.els) hr.out.2.1 rfl
        have hfin : Hid (putAll [] (nxt F.fn pc) = if s.els = -1 then selC s k else putL (selC s k) s.els) := by
          show _ = _
          rw [hnl.out, hk2]
          exact selC_end s
        have xP := put_any (selC s k) s.els va vc wr hr.out.1.rows hCl
        clear hnl hk2
        generalize selC s k = L at *
        by_cases he : s.els = -1
        · have hf2 : Hid (putAll [] (nxt F.fn pc) = L) := by show _ = _; rw [hfin.out, if_pos he]
          rw [he] at k1
          clear hfin he xP
          go_wp2_with fail
          go_ret
          exact ⟨va, vc, by rw [hf2.out]; rfl, by rw [hf2.out]; exact hr.out.1⟩
        · have hf2 : Hid (putAll [] (nxt F.fn pc) = putL L s.els) := by show _ = _; rw [hfin.out, if_neg he]
          have d : (s.els != -1) = true := by simpa using he
          clear hfin he
          go_wp2_with (go_at_call 43; (with_reducible refine xP.mono ?_); rintro e w2 ⟨va2, vc2, rfl, hs2⟩)
          go_ret
          exact ⟨va2, vc2, by rw [hf2.out]; rfl, by rw [hf2.out]; exact hs2.from hr.out.1.be⟩
  have d61 : (i.op == 61) = false := by simpa using h61
  by_cases h43 : i.op = 43
  · have hnl : Hid (nxt F.fn pc = [i.b, (pc : Int) + 1]) := by show _ = _; rw [hnx.out]; unfold nxtI; rw [if_neg h45, if_neg h42, if_neg h61, if_pos h43]
    have d43 : (i.op == 43) = true := by simpa using h43
    have xP1 := xP i.b
    have hL1 : (putL [] i.b).length ≤ 1000 := by have := putL_len [] i.b; simp at this; omega
    clear hnx h45 hsl xP h42 h43 h61
    go_enter Tryd.func44, Tryd.ntmps44
    go_wp2_with (go_at_call 43; first
      | ((with_reducible refine xP1.mono ?_); rintro e w2 ⟨va, vc, rfl, hs2⟩; (have xP2 := put_any (putL [] i.b) ((pc : Int) + 1) va vc w2 hs2.rows hL1))
      | ((with_reducible refine xP2.mono ?_); rintro e w3 ⟨va3, vc3, rfl, hs3⟩))
    go_ret
    exact ⟨va3, vc3, by rw [hnl.out]; rfl, by rw [hnl.out]; exact hs3.from (bthen hW.out hs2.be)⟩
  · have hnl : Hid (nxt F.fn pc = [(pc : Int) + 1]) := by show _ = _; rw [hnx.out]; unfold nxtI; rw [if_neg h45, if_neg h42, if_neg h61, if_neg h43]
    have d43 : (i.op == 43) = false := by simpa using h43
    have xP1 := xP ((pc : Int) + 1)
    clear hnx h45 hsl xP h42 h43 h61
    go_enter Tryd.func44, Tryd.ntmps44
    go_wp2_with (go_at_call 43; (with_reducible refine xP1.mono ?_); rintro e w2 ⟨va, vc, rfl, hs2⟩)
    go_ret
    exact ⟨va, vc, by rw [hnl.out]; rfl, by rw [hnl.out]; exact hs2.from hW.out⟩
end Go.Proofs.YtlcljdldhajkiaaDoor.pg
/- A new list of a given length, its elements of one cell each. -/
namespace Go.Proofs.YtlcljdldhajkiaaDoor.pg
open Go.ChangeShapes Go.WideShapes Go.ChangeAt Go.RowKit
set_option linter.unusedVariables false
theorem wpList_mk {P : Program} (w : World) {ops : Array Oper} {rest : List Oper} {o : Oper} {a : Act} {Q : Exit → Act → World → Prop}
    (hg : o.guard = none) (l c : Operand) (t : TypeId) (hop : o.op = Op.makeSlice t l c)
    (e : TypeId) (i : TypeInfo) (z : Value) (h1 : P.underlying t = some (.slice e)) (h2 : P.info? e = some i) (h3 : i.zero = some z) (hz : z.cells = #[z]) (h4 : i.size = 1)
    (n : Nat) (hl : a.eval l = .int .i64 (n : Int)) (hc : a.eval c = .int .i64 (n : Int)) (b2 : i.bytes * n ≤ 281474976710656) (b3 : n ≤ 9223372036854775807)
    (hK : ∀ w', w'.heap[w.heap.size]? = some (.cells (List.replicate n z).toArray e (0, 0)) → Below w.heap.size w w' → w'.heap.size = w.heap.size + 1 → wpList P ops Q rest (a.put o.dst (.slice (some ⟨w.heap.size, 0, none⟩) n n)) w') :
    wpList P ops Q (o :: rest) a w := by
  refine wpList_plain hg fun K hK' => ?_
  have b2' : (i.bytes : Int) * (n : Int) ≤ 281474976710656 := by
    have h : ((i.bytes * n : Nat) : Int) ≤ 281474976710656 := by omega
    rwa [Int.natCast_mul] at h
  have hrun := run_make (P := P) w t e i z h1 h2 h3 .i64 .i64 (n : Int) (n : Int) (by omega) (by omega) b2' (by omega)
  rw [hz, h4, Nat.mul_one, Int.toNat_natCast] at hrun
  unfold Oper.wp
  simp [execOp, hop, hl, hc, hrun, Result.andThen]
  refine hK' _ _ (hK _ ?_ ((Below.refl _ w).alloc (Nat.le_refl _) _) (by simp))
  rw [heap_new_q]
  congr 2
  apply Array.ext'
  rw [toList_madeCells_one]
end Go.Proofs.YtlcljdldhajkiaaDoor.pg
