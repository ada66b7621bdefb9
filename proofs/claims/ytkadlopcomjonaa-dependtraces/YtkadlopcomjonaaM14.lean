/- The document's own Le and Cmp; Tick, by both; what is wrong with two clocks. -/
import Derived.Test.YtkadlopcomjonaaM13
import Derived.Test.YtkadlopcomjonaaM11
import Derived.Test.YtkadlopcomjonaaM1
import Derived.Test.YtkadlopcomjonaaM6
import Derived.Test.YtkadlopcomjonaaM8
namespace Go.Proofs.Ytkadlopcomjonaa.pg
open Go.ChangeShapes Go.WideShapes Go.ChangeAt Go.RowKit
set_option linter.unusedVariables false
set_option linter.unusedSimpArgs false
set_option maxRecDepth 100000
attribute [local go_sem ↓] Go.wp_at_zero Go.wp_at_succ
/-- The first k numbers are not above. -/
def leTo (x y : Ck) (k : Nat) : Prop := ∀ i m n, i < k → x.list[i]? = some m → y.list[i]? = some n → m ≤ n
theorem leTo_six (x y : Ck) (h : leTo x y 6) : leK x y = true := by
  rw [leK_iff]
  exact ⟨h 0 _ _ (by omega) rfl rfl, h 1 _ _ (by omega) rfl rfl, h 2 _ _ (by omega) rfl rfl, h 3 _ _ (by omega) rfl rfl, h 4 _ _ (by omega) rfl rfl, h 5 _ _ (by omega) rfl rfl⟩
theorem le_not {x y : Ck} {k : Nat} {m n : Int} (hm : x.list[k]? = some m) (hn : y.list[k]? = some n) (h : n < m) : leK x y = false := by
  rw [Bool.eq_false_iff]
  intro q
  rw [leK_iff] at q
  match k, hm, hn with
  | 0, hm, hn => simp [Ck.list] at hm hn; omega
  | 1, hm, hn => simp [Ck.list] at hm hn; omega
  | 2, hm, hn => simp [Ck.list] at hm hn; omega
  | 3, hm, hn => simp [Ck.list] at hm hn; omega
  | 4, hm, hn => simp [Ck.list] at hm hn; omega
  | 5, hm, hn => simp [Ck.list] at hm hn; omega
  | k + 6, hm, hn => simp [Ck.list] at hm
theorem leTo_more {x y : Ck} {k : Nat} {m n : Int} (h : leTo x y k) (hm : x.list[k]? = some m) (hn : y.list[k]? = some n) (hmn : m ≤ n) : leTo x y (k + 1) := by
  intro i a b hi ha hb
  by_cases e : i = k
  · subst e
    rw [hm] at ha; rw [hn] at hb
    cases ha; cases hb
    exact hmn
  · exact h i a b (by omega) ha hb
end Go.Proofs.Ytkadlopcomjonaa.pg
/- The document's own Cmp; Tick, by both; what is wrong with two clocks. -/
namespace Go.Proofs.Ytkadlopcomjonaa.pg
open Go.ChangeShapes Go.WideShapes Go.ChangeAt Go.RowKit
set_option linter.unusedVariables false
set_option linter.unusedSimpArgs false
set_option maxRecDepth 100000
attribute [local go_sem ↓] Go.wp_at_zero Go.wp_at_succ
/-- A clock one step later, or why not. -/
def tickP (x : Ck) (g : Int) (R : Ck) (c : Int) : Prop := (¬ (x.ok ∧ 0 ≤ g ∧ g < 6) ∧ R = zeroK ∧ c = 1) ∨ (x.ok ∧ ∃ k : Nat, k < 6 ∧ g = k ∧ ∃ n, x.list[k]? = some n ∧ ((n = 1073741824 ∧ R = zeroK ∧ c = 2) ∨ (n ≠ 1073741824 ∧ R = x.put k (n + 1) ∧ c = 0)))
theorem tick_some (x : Ck) (g : Int) : ∃ R c, tickP x g R c := by
  by_cases h : x.ok ∧ 0 ≤ g ∧ g < 6
  · obtain ⟨n, hn, _⟩ := get_lt x.list g.toNat (by rw [Ck.list_len]; omega)
    by_cases e : n = 1073741824
    · exact ⟨zeroK, 2, .inr ⟨h.1, g.toNat, by omega, by omega, n, hn, .inl ⟨e, rfl, rfl⟩⟩⟩
    · exact ⟨x.put g.toNat (n + 1), 0, .inr ⟨h.1, g.toNat, by omega, by omega, n, hn, .inr ⟨e, rfl, rfl⟩⟩⟩
  · exact ⟨zeroK, 1, .inl ⟨h, rfl, rfl⟩⟩
theorem boxes2z (w : World) (x : Ck) : InB ((w.alloc (objK x)).alloc (objK zeroK)) w.heap.size x ∧ InB ((w.alloc (objK x)).alloc (objK zeroK)) (w.heap.size + 1) zeroK := boxes2 w x zeroK
theorem ok_at {x : Ck} (h : x.ok) {k : Nat} {n : Int} (hn : x.list[k]? = some n) : 0 ≤ n ∧ n ≤ 1073741824 := h n (List.mem_of_getElem? hn)
set_option maxHeartbeats 1000000 in
theorem tick_any (x : Ck) (g : Int) (R : Ck) (c : Int) (h : tickP x g R c) (w : World) : Calls Try.prog 96 #[x.val, .int .i64 g] w fun e w' => e = .returned (.tuple #[R.val, .int .i64 c]) ∧ Below w.heap.size w w' := by
  have bx : Hid _ := boxes2z w x
  rcases h with ⟨h, rfl, rfl⟩ | ⟨hx, k, hk, rfl, n, hn, ⟨rfl, rfl, rfl⟩ | ⟨hne, rfl, rfl⟩⟩
  · by_cases hx : x.ok
    · have c1 : ∀ wx, Calls Try.prog 113 #[x.val] wx _ := fun wx => check_ok x hx wx
      by_cases h0 : g < 0
      · clear h hx
        go_enter Try.func96, Try.ntmps96
        go_wp2_with (first
          | (go_at_call 113; (with_reducible refine (c1 _).mono ?_); rintro e w1 ⟨rfl, hb1⟩; (have hx2 := bx.out.1.later hb1); (have hz2 := bx.out.2.later hb1); (have hB1 : Hid (Below w.heap.size w w1) := bthen (boxed2 _ _ _) hb1); clear hb1 c1)
          | (refine wpList_store_row rfl 86 _ _ rfl (w.heap.size + 1) _ rfl rfl _ _ hz2 infoK rfl (one6 zeroK) ?_))
        exact bodyPost_ret (results_ck Try.results96 _ _ (w.heap.size + 1) zeroK _ rfl rfl (hz2.set zeroK)) rfl ⟨rfl, below_setRow hB1.out (by omega) _⟩
      · have h6 : 6 ≤ g := by
          have : ¬ (0 ≤ g ∧ g < 6) := fun q => h ⟨hx, q⟩
          omega
        clear h hx
        go_enter Try.func96, Try.ntmps96
        go_wp2_with (first
          | (go_at_call 113; (with_reducible refine (c1 _).mono ?_); rintro e w1 ⟨rfl, hb1⟩; (have hx2 := bx.out.1.later hb1); (have hz2 := bx.out.2.later hb1); (have hB1 : Hid (Below w.heap.size w w1) := bthen (boxed2 _ _ _) hb1); clear hb1 c1)
          | (refine wpList_store_row rfl 86 _ _ rfl (w.heap.size + 1) _ rfl rfl _ _ hz2 infoK rfl (one6 zeroK) ?_))
        exact bodyPost_ret (results_ck Try.results96 _ _ (w.heap.size + 1) zeroK _ rfl rfl (hz2.set zeroK)) rfl ⟨rfl, below_setRow hB1.out (by omega) _⟩
    · have c1 : ∀ wx, Calls Try.prog 113 #[x.val] wx _ := fun wx => check_bad x hx wx
      clear h hx
      go_enter Try.func96, Try.ntmps96
      go_wp2_with (first
        | (go_at_call 113; (with_reducible refine (c1 _).mono ?_); rintro e w1 ⟨rfl, hb1⟩; (have hx2 := bx.out.1.later hb1); (have hz2 := bx.out.2.later hb1); (have hB1 : Hid (Below w.heap.size w w1) := bthen (boxed2 _ _ _) hb1); clear hb1 c1)
        | (refine wpList_store_row rfl 86 _ _ rfl (w.heap.size + 1) _ rfl rfl _ _ hz2 infoK rfl (one6 zeroK) ?_))
      exact bodyPost_ret (results_ck Try.results96 _ _ (w.heap.size + 1) zeroK _ rfl rfl (hz2.set zeroK)) rfl ⟨rfl, below_setRow hB1.out (by omega) _⟩
  · have c1 : ∀ wx, Calls Try.prog 113 #[x.val] wx _ := fun wx => check_ok x hx wx
    have h0 : ¬ ((k : Int) < 0) := by omega
    have h6 : ¬ (6 : Int) ≤ k := by omega
    have h66 : (k : Int) < 6 := by omega
    have hat := ck_at w.heap.size k hk
    have hnH : Hid (x.list[k]? = some 1073741824) := hn
    clear hn hx
    go_enter Try.func96, Try.ntmps96
    go_wp2_with (first
      | (go_at_call 113; (with_reducible refine (c1 _).mono ?_); rintro e w1 ⟨rfl, hb1⟩; (have hx2 := bx.out.1.later hb1); (have hz2 := bx.out.2.later hb1); (have hB1 : Hid (Below w.heap.size w w1) := bthen (boxed2 _ _ _) hb1); (have hcell := (hx2.cell hnH.out).1); clear hb1 c1)
      | (refine wpList_store_row rfl 86 _ _ rfl (w.heap.size + 1) _ rfl rfl _ _ hz2 infoK rfl (one6 zeroK) ?_))
    exact bodyPost_ret (results_ck Try.results96 _ _ (w.heap.size + 1) zeroK _ rfl rfl (hz2.set zeroK)) rfl ⟨rfl, below_setRow hB1.out (by omega) _⟩
  · have c1 : ∀ wx, Calls Try.prog 113 #[x.val] wx _ := fun wx => check_ok x hx wx
    have h0 : ¬ ((k : Int) < 0) := by omega
    have h6 : ¬ (6 : Int) ≤ k := by omega
    have h66 : (k : Int) < 6 := by omega
    have hat := ck_at w.heap.size k hk
    have hnH : Hid (x.list[k]? = some n) := hn
    have hneB : (n == 1073741824) = false := by simpa using hne
    have hlo : 0 ≤ n := (ok_at hx hn).1
    have hhi : n ≤ 1073741824 := (ok_at hx hn).2
    clear hn hx hne
    go_enter Try.func96, Try.ntmps96
    go_wp2_with (first
      | (go_at_call 113; (with_reducible refine (c1 _).mono ?_); rintro e w1 ⟨rfl, hb1⟩; (have hx2 := bx.out.1.later hb1); (have hz2 := bx.out.2.later hb1); (have hB1 : Hid (Below w.heap.size w w1) := bthen (boxed2 _ _ _) hb1); (obtain ⟨hcell, hfz⟩ := hx2.cell hnH.out); (have hx3 := hx2.put hk (n + 1)); (have hz3 := hz2.setCell (B' := w.heap.size) (k := k) (by omega) (.int .i64 (n + 1))); clear hb1 c1)
      | (refine wpList_load_row rfl 86 _ rfl w.heap.size rfl _ _ _ _ hx3 Try.underlying86 rfl infoK ?_)
      | (refine wpList_store_row rfl 86 _ _ rfl (w.heap.size + 1) _ rfl rfl _ _ hz3 infoK rfl (one6 (x.put k (n + 1))) ?_))
    exact bodyPost_ret (results_ck Try.results96 _ _ (w.heap.size + 1) (x.put k (n + 1)) _ rfl rfl (hz3.set (x.put k (n + 1)))) rfl ⟨rfl, below_setRow (hB1.out.setCell (p := ⟨w.heap.size, k, none⟩) (Nat.le_refl _) _) (by omega) _⟩
end Go.Proofs.Ytkadlopcomjonaa.pg
/- The relation that package order builds: where it lies while one event more is told. -/
namespace Go.Proofs.Ytkadlopcomjonaa.pg
open Go.ChangeShapes Go.WideShapes Go.ChangeAt Go.RowKit Go.Shelf
set_option linter.unusedVariables false
set_option linter.unusedSimpArgs false
set_option maxRecDepth 100000
def edg (p : Nat × Nat) : List Value := [.int .i64 (p.1 : Int), .int .i64 (p.2 : Int)]
abbrev objR (ea : Option Addr) (en ec : Nat) (ca : Option Addr) (cn cc : Nat) (da : Option Addr) (dl dc : Nat) : Obj := .cells #[.slice ea en ec, .slice ca cn cc, .slice da dl dc] 104
/-- A clock's count of a goroutine. -/
def Ck.of (x : Ck) (g : Nat) : Int := x.list.getD g 0
/-- One event ahead, told: what is known of the new event's clock and of the edges to it. -/
def stp (ev : Nat → Ev) (cf : Nat → Ck) (j : Nat) (s : Ck × List (Nat × Nat)) (i : Nat) : Ck × List (Nat × Nat) :=
  if (cf i).of (ev i).go.toNat ≤ s.1.of (ev i).go.toNat ∨ clash (ev i).of (ev j).of = false then s else (s.1.join (cf i), s.2 ++ [(i, j)])
def told (ev : Nat → Ev) (cf : Nat → Ck) (j : Nat) (pre : List { i : Nat // i < j }) : Ck × List (Nat × Nat) := pre.foldl (fun s i => stp ev cf j s i.1) (zeroK, [])
theorem told_more (ev : Nat → Ev) (cf : Nat → Ck) (j : Nat) (pre : List { i : Nat // i < j }) (x : { i : Nat // i < j }) : told ev cf j (pre ++ [x]) = stp ev cf j (told ev cf j pre) x.1 := by
  unfold told
  rw [List.foldl_append]
  rfl
theorem stp_len (ev : Nat → Ev) (cf : Nat → Ck) (j : Nat) (s : Ck × List (Nat × Nat)) (i : Nat) : (stp ev cf j s i).2.length ≤ s.2.length + 1 := by
  unfold stp
  split
  · omega
  · simp
theorem told_len (ev : Nat → Ev) (cf : Nat → Ck) (j : Nat) : ∀ (n : Nat) (pre : List { i : Nat // i < j }), pre.length = n → (told ev cf j pre).2.length ≤ n
  | 0, pre, h => by
    have : pre = [] := List.length_eq_zero_iff.mp h
    subst this
    simp [told]
  | n + 1, pre, h => by
    rcases List.eq_nil_or_concat pre with rfl | ⟨q, x, rfl⟩
    · simp at h
    · rw [List.concat_eq_append] at h ⊢
      rw [List.length_append, List.length_singleton] at h
      have h1 := told_len ev cf j n q (by omega)
      have h2 := stp_len ev cf j (told ev cf j q) x.1
      rw [told_more]
      omega
theorem join_ok {x y : Ck} (hx : x.ok) (hy : y.ok) : (x.join y).ok := by
  rw [Ck.ok_iff] at hx hy ⊢
  have key : ∀ a b : Int, okC a → okC b → okC (max a b) := fun a b ha hb => by unfold okC at *; rw [Int.max_def]; split <;> omega
  exact ⟨key _ _ hx.1 hy.1, key _ _ hx.2.1 hy.2.1, key _ _ hx.2.2.1 hy.2.2.1, key _ _ hx.2.2.2.1 hy.2.2.2.1, key _ _ hx.2.2.2.2.1 hy.2.2.2.2.1, key _ _ hx.2.2.2.2.2 hy.2.2.2.2.2⟩
theorem told_ok (ev : Nat → Ev) (cf : Nat → Ck) (j : Nat) (hc : ∀ i, i < j → (cf i).ok) : ∀ (n : Nat) (pre : List { i : Nat // i < j }), pre.length = n → (told ev cf j pre).1.ok
  | 0, pre, h => by
    have : pre = [] := List.length_eq_zero_iff.mp h
    subst this
    show zeroK.ok
    rw [Ck.ok_iff]
    simp [zeroK, okC]
  | n + 1, pre, h => by
    rcases List.eq_nil_or_concat pre with rfl | ⟨q, x, rfl⟩
    · simp at h
    · rw [List.concat_eq_append] at h ⊢
      rw [List.length_append, List.length_singleton] at h
      have h1 := told_ok ev cf j hc n q (by omega)
      rw [told_more]
      unfold stp
      split
      · exact h1
      · exact join_ok h1 (hc x.1 x.2)
/-- The relation's place, as add finds it. -/
structure Ctx where
  w : World
  n₀ : Nat
  R : Nat
  ea : Option Addr
  en : Nat
  ec : Nat
  ca : Option Addr
  cn : Nat
  cc : Nat
  da : Option Addr
  j : Nat
structure Ctx.Good (c : Ctx) : Prop where
  rl : c.R < c.w.heap.size
  nR : c.n₀ ≤ c.R
  d1 : ∀ b ∈ blk c.da, b < c.w.heap.size ∧ c.n₀ ≤ b
  d2 : c.R ∉ blk c.da
  d3 : ∀ b ∈ blk c.ca, b < c.w.heap.size ∧ b ≠ c.R ∧ b ∉ blk c.da
/-- Between two rounds. -/
structure St (c : Ctx) (now : Ck) (EE : List (Nat × Nat)) (da' : Option Addr) (dc' : Nat) (W : World) : Prop where
  bx : W.heap[c.w.heap.size]? = some (.cells #[.pointer (some ⟨c.R, 0, none⟩)] 144)
  bj : W.heap[c.w.heap.size + 1]? = some (.cells #[.int .i64 (c.j : Int)] 3)
  nw : InB W (c.w.heap.size + 2) now
  rl : W.heap[c.R]? = some (objR c.ea c.en c.ec c.ca c.cn c.cc da' EE.length dc')
  ed : OwnL W c.n₀ 94 2 da' dc' (EE.map edg)
  bd : ∀ b ∈ blk da', b ∈ blk c.da ∨ c.w.heap.size + 4 ≤ b
  kp : ∀ b, b < c.w.heap.size → b ≠ c.R → b ∉ blk c.da → W.heap[b]? = c.w.heap[b]?
  be : Below c.n₀ c.w W
  sz : c.w.heap.size + 4 ≤ W.heap.size
theorem own_cells {w : World} {lo e k : Nat} {a : Option Addr} {cap : Nat} {L : List (List Value)} (h : OwnL w lo e k a cap L) : ∀ g ∈ blk a, ∃ o : Obj, w.heap[g]? = some o ∧ o.isCells = true := by
  intro g hg
  rcases h.2 with ⟨h1, _⟩ | ⟨g', cap', cur, h1, hb, hr, _⟩
  · simp only [Value.slice.injEq] at h1
    rw [h1.1] at hg
    simp [blk] at hg
  · simp only [Value.slice.injEq] at h1
    rw [h1.1] at hg
    simp [blk] at hg
    subst hg
    exact ⟨_, hr, rfl⟩
theorem St.keep {c : Ctx} {now : Ck} {EE : List (Nat × Nat)} {da' : Option Addr} {dc' : Nat} {W W' : World} (h : St c now EE da' dc' W) (hg : c.Good) (hs : W.heap.size ≤ W'.heap.size) (hb : Below c.n₀ W W')
    (hk : ∀ b o, b < W.heap.size → W.heap[b]? = some o → (b < c.w.heap.size + 4 ∨ o.isCells = true) → W'.heap[b]? = W.heap[b]?) : St c now EE da' dc' W' := by
  have hz := h.sz
  have one : ∀ {b : Nat} {o : Obj}, W.heap[b]? = some o → (b < c.w.heap.size + 4 ∨ o.isCells = true) → W'.heap[b]? = some o := fun {b o} q1 q2 => (hk b o (Array.getElem?_eq_some_iff.mp q1).1 q1 q2).trans q1
  have hR := hg.rl
  refine ⟨one h.bx (.inl (by omega)), one h.bj (.inl (by omega)), one h.nw (.inl (by omega)), one h.rl (.inl (by omega)), own_keep h.ed fun g hgm => ?_, h.bd, fun b q1 q2 q3 => ?_, h.be.trans hb, by omega⟩
  · obtain ⟨o, ho, hc⟩ := own_cells h.ed g hgm
    exact hk g o (blk_lt h.ed g hgm).2 ho (.inr hc)
  · rw [← h.kp b q1 q2 q3]
    have hlt : b < W.heap.size := by omega
    exact hk b W.heap[b] hlt (Array.getElem?_eq_getElem hlt) (.inl (by omega))
theorem St.later {c : Ctx} {now : Ck} {EE : List (Nat × Nat)} {da' : Option Addr} {dc' : Nat} {W W' : World} (h : St c now EE da' dc' W) (hg : c.Good) (hb : Below W.heap.size W W') : St c now EE da' dc' W' :=
  h.keep hg hb.size (hb.mono (by have := h.sz; have := hg.rl; have := hg.nR; omega)) fun b o q1 _ _ => hb.block b q1
theorem St.own {c : Ctx} {now : Ck} {EE : List (Nat × Nat)} {da' : Option Addr} {dc' : Nat} {W W' : World} {B : Nat} {row : Option Nat} (h : St c now EE da' dc' W) (hg : c.Good) (hB : c.w.heap.size + 4 ≤ B) (hgr : W.grownBy W' row)
    (hr : ∀ r, row = some r → B ≤ r ∧ ∃ o : Obj, W.heap[r]? = some o ∧ o.isCells = false) : St c now EE da' dc' W' := by
  have hz := h.sz
  have hR := hg.rl
  have hn := hg.nR
  have key : ∀ b o, b < W.heap.size → W.heap[b]? = some o → (b < c.w.heap.size + 4 ∨ o.isCells = true) → W'.heap[b]? = W.heap[b]? := fun b o q1 q2 q3 => hgr.block b q1 fun e => by
    obtain ⟨h1, o', h2, h3⟩ := hr b e.symm
    rcases q3 with q3 | q3
    · omega
    · rw [q2] at h2; cases h2; rw [q3] at h3; cases h3
  exact h.keep hg hgr.size ((Below.refl c.n₀ W).grown hgr (by omega) fun k e => by have := (hr k e).1; omega) key
/-- What a round has changed. -/
theorem round_keeps {c : Ctx} {now : Ck} {EE : List (Nat × Nat)} {da' : Option Addr} {dc' : Nat} {W W' : World} {B : Nat} (h : St c now EE da' dc' W) (hg : c.Good) (hB : c.w.heap.size + 4 ≤ B) (hs : W.heap.size ≤ W'.heap.size) (hb : Below c.n₀ W W')
    (hk : ∀ b, b < W.heap.size → b ≠ c.w.heap.size + 2 → b ≠ c.R → b ∉ blk da' → W'.heap[b]? = W.heap[b]?) : KeepsFrom B W W' ∧ Keeps c.n₀ (c.w.heap.size + 3) W W' := by
  have hz := h.sz
  have hR := hg.rl
  refine ⟨⟨hs, fun k o q1 q2 q3 => ?_⟩, hb, ?_⟩
  · rw [hk k (Array.getElem?_eq_some_iff.mp q2).1 (by omega) (by omega) fun q4 => by
      obtain ⟨o', h1, h2⟩ := own_cells h.ed k q4
      rw [q2] at h1; cases h1; rw [h2] at q3; cases q3]
    exact q2
  · refine hk _ (by omega) (by omega) (by omega) fun q4 => ?_
    rcases h.bd _ q4 with q | q
    · have := (hg.d1 _ q).1; omega
    · omega
end Go.Proofs.Ytkadlopcomjonaa.pg
