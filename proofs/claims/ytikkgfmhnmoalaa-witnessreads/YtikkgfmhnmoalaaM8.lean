/- A witness in memory; the numbers that it has: where they stand and what they may be. -/
import Derived.Test.YtikkgfmhnmoalaaM3
import Derived.Test.YtikkgfmhnmoalaaM7
import Derived.BigRegion
import Derived.BigQuiet
import Derived.RangeFuncNested
import Derived.RangeFuncBound
import Derived.RangeFuncCalls
import Derived.RangeFuncLeaves
import Derived.Shelf.Abstract
import Derived.WalkKit
import Derived.OwnWalkIn
import Derived.TacticsInMore
import Derived.LoopNIn
import Derived.LoopIn
namespace Go.Proofs.Ytikkgfmhnmoalaa.pg
open Go.ChangeShapes Go.WideShapes Go.ChangeAt Go.RowKit
set_option linter.unusedVariables false
set_option linter.unusedSimpArgs false
set_option maxRecDepth 100000
/-- A witness. -/
structure Wi where
  s : Int
  kd : Int
  af : Int
  ap : Int
  bf : Int
  bp : Int
  nm : Int
  wy : Int
  pk : List (Int × Int)
  st : Int
  fu : Int
  ru : Int
abbrev pkC (p : Int × Int) : List Value := [.int .i64 p.1, .int .i64 p.2]
/-- Its cells; its picks lie at pa. -/
def Wi.cells (M : Wi) (pa : Option Addr) (pc : Nat) : List Value := [.int .u32 M.s, .int .i64 M.kd, .int .i64 M.af, .int .i64 M.ap, .int .i64 M.bf, .int .i64 M.bp, .int .i64 M.nm, .int .i64 M.wy, .slice pa M.pk.length pc, .int .i64 M.st, .int .i64 M.fu, .int .i64 M.ru]
/-- A number: where it stands, the least and the most that it may be. -/
abbrev nmC (x : Addr × Int × Int) : List Value := [.pointer (some x.1), .int .i64 x.2.1, .int .i64 x.2.2]
/-- The numbers ahead of the picks, of a witness that begins at a block's cell o. -/
def headL (g o : Nat) : List (Addr × Int × Int) := [(⟨g, o + 1, none⟩, 1, 5), (⟨g, o + 2, none⟩, 0, 64), (⟨g, o + 3, none⟩, 0, 64), (⟨g, o + 4, none⟩, 0, 64), (⟨g, o + 5, none⟩, 0, 64), (⟨g, o + 6, none⟩, 0, 255), (⟨g, o + 7, none⟩, 0, 255), (⟨g, o + 9, none⟩, 0, 256), (⟨g, o + 10, none⟩, 0, 4096), (⟨g, o + 11, none⟩, 0, 65536)]
abbrev objNm (L : List (Addr × Int × Int)) : Obj := .cells (L.flatMap nmC).toArray 57
theorem bel_drewN (w : World) : ∀ n, Below w.heap.size w (w.drewN n)
  | 0 => Below.refl _ _
  | n + 1 => (bel_drewN w n).drew
set_option maxHeartbeats 4000000 in
theorem headOf_any (g o : Nat) (w : World) : Calls Try.prog 40 #[.pointer (some ⟨g, o, none⟩)] w fun e w' => e = .returned (.slice (some ⟨w.heap.size, 0, none⟩) 10 10) ∧ w'.heap[w.heap.size]? = some (objNm (headL g o)) ∧ Below w.heap.size w w' ∧ w'.heap.size = w.heap.size + 1 := by
  go_enter Try.func40, Try.ntmps40
  go_wp2_with fail
  go_quiet (fail)
  go_wp2_with fail
  go_region
  go_wp2_with fail
  go_ret
  refine ⟨rfl, ?_, ?_, ?_⟩
  · exact heap_alloc_new _ _
  · exact (bel_drewN w _).alloc (bel_drewN w _).size _
  · rw [World.size_alloc]; rfl
theorem countOf_any (a : Addr) (w : World) : Calls Try.prog 41 #[.pointer (some a)] w fun e w' => e = .returned (.agg #[.pointer (some a), .int .i64 0, .int .i64 256]) ∧ Below w.heap.size w w' := by
  go_enter Try.func41, Try.ntmps41
  go_wp2
  exact bodyPost_ret (v := .agg #[.pointer (some a), .int .i64 0, .int .i64 256]) (by simp [results, Try.results41, go_sem]) rfl ⟨rfl, boxed _ _⟩
theorem pairOf_any (g o : Nat) (w : World) : Calls Try.prog 42 #[.pointer (some ⟨g, o, none⟩)] w fun e w' => e = .returned (.slice (some ⟨w.heap.size, 0, none⟩) 2 2) ∧ w'.heap[w.heap.size]? = some (objNm [(⟨g, o, none⟩, 0, 5), (⟨g, o + 1, none⟩, 0, 4)]) ∧ Below w.heap.size w w' ∧ w'.heap.size = w.heap.size + 1 := by
  go_enter Try.func42, Try.ntmps42
  go_wp2_with fail
  go_region
  go_wp2_with fail
  go_ret
  refine ⟨rfl, ?_, ?_, ?_⟩
  · exact heap_alloc_new _ _
  · exact (boxed _ _).drew
  · show (World.alloc _ _).heap.size = _; rw [World.size_alloc]
theorem fits_any (a : Addr) (lo hi x : Int) (w : World) (ha : w.cell? a = some (.int .i64 x)) (hb : a.block < w.heap.size) (r : Bool) (hr : (decide (lo ≤ x) && decide (x ≤ hi)) = r) : Calls Try.prog 36 #[.agg #[.pointer (some a), .int .i64 lo, .int .i64 hi]] w fun e w' => e = .returned (.bool r) ∧ Below w.heap.size w w' := by
  obtain ⟨W, hW⟩ : ∃ W, W = w.alloc (.cells #[.pointer (some a), .int .i64 lo, .int .i64 hi] 57) := ⟨_, rfl⟩
  have hz : W.heap[w.heap.size]? = some (.cells #[.pointer (some a), .int .i64 lo, .int .i64 hi] 57) := by rw [hW]; exact heap_alloc_new _ _
  have hbW : Below w.heap.size w W := by rw [hW]; exact boxed _ _
  have z0 := whole_cell hz 0 _ rfl
  have z1 := whole_cell hz 1 _ rfl
  have z2 := whole_cell hz 2 _ rfl
  have zx : W.cell? a = some (.int .i64 x) := (hbW.cell hb).trans ha
  by_cases h1 : lo ≤ x
  · by_cases h2 : x ≤ hi
    · have e : r = true := by rw [← hr]; simp [h1, h2]
      subst e
      have d1 : decide (lo ≤ x) = true := by simpa using h1
      have d2 : decide (x ≤ hi) = true := by simpa using h2
      clear hr
      go_enter Try.func36, Try.ntmps36
      go_wp2_with fail
      rw [← hW]
      go_quiet (fail)
      go_wp2_with fail
      go_ret
      exact ⟨rfl, hbW.trans ((bel_drewN W _).mono hbW.size)⟩
    · have e : r = false := by rw [← hr]; simp [h2]
      subst e
      have d1 : decide (lo ≤ x) = true := by simpa using h1
      have d2 : decide (x ≤ hi) = false := by simpa using h2
      clear hr
      go_enter Try.func36, Try.ntmps36
      go_wp2_with fail
      rw [← hW]
      go_quiet (fail)
      go_wp2_with fail
      go_ret
      exact ⟨rfl, hbW.trans ((bel_drewN W _).mono hbW.size)⟩
  · have e : r = false := by rw [← hr]; simp [h1]
    subst e
    have d1 : decide (lo ≤ x) = false := by simpa using h1
    clear hr
    go_enter Try.func36, Try.ntmps36
    go_wp2_with fail
    rw [← hW]
    go_quiet (fail)
    go_wp2_with fail
    go_ret
    exact ⟨rfl, hbW.trans ((bel_drewN W _).mono hbW.size)⟩
theorem numbers_any (a : Option Addr) (w : World) : Calls Try.prog 18 #[.pointer a] w fun e w' => e = .returned (.func (.func 39) #[] #[.pointer (some ⟨w.heap.size, 0, none⟩)]) ∧ w' = w.alloc (.cells #[.pointer a] 54) := by
  go_enter Try.func18, Try.ntmps18
  go_wp2
  go_ret
  exact ⟨rfl, rfl⟩
end Go.Proofs.Ytikkgfmhnmoalaa.pg
/- The numbers of a witness, handed out one by one. -/
namespace Go.Proofs.Ytikkgfmhnmoalaa.pg
open Go.ChangeShapes Go.WideShapes Go.ChangeAt Go.RowKit
set_option linter.unusedVariables false
set_option linter.unusedSimpArgs false
set_option maxRecDepth 100000
attribute [local go_sem] Oper.semAt_some
theorem yieldAnyR {m : Nat} (m' : Nat) {P : Program} {l : Nat} {args : Array Value} {W : World} {R : Ending → World → Prop} (h : YieldAt Fence.wide m P l args W R) : YieldAt Fence.wide m' P l args W R := by
  obtain ⟨fn, tmps, assign, body, hy, hR⟩ := h
  exact ⟨fn, tmps, assign, body, hy, hR.1, fun c cs _ => hR.2 c cs (fun d q => by cases q)⟩
theorem cell_keep {B : Nat} {W W' : World} {a : Addr} {v : Value} (h : W.cell? a = some v) (ha : a.block ≠ B) (hk : ButC B W W') : W'.cell? a = some v := by
  have hb : ∃ o, W.heap[a.block]? = some o ∧ o.isCells = true := by
    cases ho : W.heap[a.block]? with
    | none => simp [World.cell?, ho] at h
    | some o =>
      refine ⟨o, rfl, ?_⟩
      cases o <;> first | rfl | simp [World.cell?, ho] at h
  obtain ⟨o, h1, h2⟩ := hb
  rw [World.cell?_of_block (w := W) ((hk.same _ o h1 h2 ha).trans h1.symm)]
  exact h
theorem Rows.keepC {B : Nat} {W W' : World} {k : Nat} {a : Option Addr} {cap : Nat} {L : List (List Value)} (h : Rows W k a cap L) (ha : B ∉ blk a) (hk : ButC B W W') : Rows W' k a cap L := by
  obtain ⟨h1, h2, h3, h4⟩ := h
  refine ⟨h1, h2, h3, h4.imp_right fun ⟨b, off, e, hlt, hc⟩ => ⟨b, off, e, Nat.lt_of_lt_of_le hlt hk.size, fun i row hi => ⟨(hc i row hi).1, fun j u hj => cell_keep ((hc i row hi).2 j u hj) (fun q => ha ?_) hk⟩⟩⟩
  rw [e]
  simp only [blk, List.mem_singleton]
  exact q.symm
theorem Rows.keepD {B : Nat} {W W' : World} {k : Nat} {a : Option Addr} {cap : Nat} {L : List (List Value)} (h : Rows W k a cap L) (ha : B ∉ blk a ∨ L = []) (hk : ButC B W W') : Rows W' k a cap L := by
  rcases ha with ha | rfl
  · exact h.keepC ha hk
  · exact ⟨h.1, h.2.1, h.2.2.1, .inl rfl⟩
theorem cell_lt {W : World} {a : Addr} {v : Value} (h : W.cell? a = some v) : a.block < W.heap.size := by
  cases ho : W.heap[a.block]? with
  | none => simp [World.cell?, ho] at h
  | some o => exact (Array.getElem?_eq_some_iff.mp ho).1
/-- A number as it is handed out: where it stands, what it may be, and what it is. -/
abbrev Itm := Addr × Int × Int × Int
abbrev itC (x : Itm) : List Value := [.pointer (some x.1), .int .i64 x.2.1, .int .i64 x.2.2.1]
abbrev itV (x : Itm) : Array Value := #[.agg #[.pointer (some x.1), .int .i64 x.2.1, .int .i64 x.2.2.1]]
abbrev ItR (x : Itm) (V : World) : Prop := V.cell? x.1 = some (.int .i64 x.2.2.2)
/-- A list of numbers in memory, that stays while block B changes. -/
structure Held (W : World) (B : Nat) (la : Option Addr) (lc : Nat) (E : List Itm) : Prop where
  r : Rows W 3 la lc (E.map itC)
  n : B ∉ blk la
  c : ∀ x ∈ E, ItR x W ∧ x.1.block ≠ B
theorem Held.keep {W W' : World} {B : Nat} {la : Option Addr} {lc : Nat} {E : List Itm} (h : Held W B la lc E) (hk : ButC B W W') : Held W' B la lc E := ⟨h.r.keepC h.n hk, h.n, fun x hx => ⟨cell_keep (h.c x hx).1 (h.c x hx).2 hk, (h.c x hx).2⟩⟩
theorem butC_of {B : Nat} {W W' : World} (h : Below W.heap.size W W') : ButC B W W' := (But.of h).c
theorem nm_ix {w : World} {a : Option Addr} {cap : Nat} {l : List Itm} (h : Rows w 3 a cap (l.map itC)) (i : Nat) (x : Itm) (hi : l[i]? = some x) :
    ∃ b o, (∀ wx, (Instr.indexAt 91 (.slice a l.length cap) (.int .i64 (i : Int))).run Try.prog wx = .ok (.pointer (some ⟨b, o, none⟩)) wx) ∧ b < w.heap.size ∧ w.cell? ⟨b, o, none⟩ = some (.pointer (some x.1)) ∧ w.cell? ⟨b, o + 1, none⟩ = some (.int .i64 x.2.1) ∧ w.cell? ⟨b, o + 2, none⟩ = some (.int .i64 x.2.2.1) := by
  obtain ⟨b, o, hr, hlt, hc⟩ := h.ix 91 57 Try.underlying91 (by kernel_rfl) (fun wx => Try.sizeOf57 wx) i (row := itC x) (by simp [hi])
  rw [List.length_map] at hr
  exact ⟨b, o, hr, hlt, hc 0 _ rfl, hc 1 _ rfl, hc 2 _ rfl⟩
theorem pk_ix {w : World} {a : Option Addr} {cap : Nat} {l : List (Int × Int)} (h : Rows w 2 a cap (l.map pkC)) (i : Nat) (x : Int × Int) (hi : l[i]? = some x) :
    ∃ b o, (∀ wx, (Instr.indexAt 27 (.slice a l.length cap) (.int .i64 (i : Int))).run Try.prog wx = .ok (.pointer (some ⟨b, o, none⟩)) wx) ∧ b ∈ blk a ∧ w.cell? ⟨b, o, none⟩ = some (.int .i64 x.1) ∧ w.cell? ⟨b, o + 1, none⟩ = some (.int .i64 x.2) := by
  obtain ⟨b, off, ha, hlt, hc⟩ := h.row (i := i) (row := pkC x) (by simp [hi])
  obtain ⟨b', o, hr, hlt', hc'⟩ := h.ix 27 66 Try.underlying27 (by kernel_rfl) (fun wx => Try.sizeOf66 wx) i (row := pkC x) (by simp [hi])
  rw [List.length_map] at hr
  have hil := (List.getElem?_eq_some_iff.mp hi).1
  have e : b' = b := by
    have q := hr w
    rw [ha, run_indexAt_slice w 27 ⟨b, off, none⟩ _ _ _ _ Try.underlying27, if_pos (by omega)] at q
    have z : ∀ wx, (sizeOf (Try.prog.elem 27)).run Try.prog wx = .ok 2 wx := fun wx => Try.sizeOf66 wx
    rw [z w] at q
    simp only [Int.toNat_natCast] at q
    have q2 : Result.ok (Value.pointer (some ((⟨b, off, none⟩ : Addr).add (i * 2)))) w = Result.ok (Value.pointer (some ⟨b', o, none⟩)) w := q
    rw [add_none] at q2
    simp only [Result.ok.injEq, Value.pointer.injEq, Option.some.injEq, Addr.mk.injEq, and_true] at q2
    exact q2.1.symm
  subst e
  exact ⟨b', o, hr, by rw [ha]; simp [blk], hc' 0 _ rfl, hc' 1 _ rfl⟩
/-- What a witness's numbers may be and are: those ahead of its picks, with how many there are, and all of them. -/
def Wi.head (M : Wi) : List (Int × Int × Int) := [(1, 5, M.kd), (0, 64, M.af), (0, 64, M.ap), (0, 64, M.bf), (0, 64, M.bp), (0, 255, M.nm), (0, 255, M.wy), (0, 256, M.st), (0, 4096, M.fu), (0, 65536, M.ru), (0, 256, (M.pk.length : Int))]
def pairs (l : List (Int × Int)) : List (Int × Int × Int) := l.flatMap fun p => [(0, 5, p.1), (0, 4, p.2)]
def Wi.nums (M : Wi) : List (Int × Int × Int) := M.head ++ pairs M.pk
theorem pairs_more {l : List (Int × Int)} {i : Nat} {p : Int × Int} (h : l[i]? = some p) : pairs (l.take (i + 1)) = pairs (l.take i) ++ [(0, 5, p.1), (0, 4, p.2)] := by
  unfold pairs
  rw [List.take_add_one, h, Option.toList_some, List.flatMap_append]
  simp
theorem nums_pre (M : Wi) (i : Nat) : M.head ++ pairs (M.pk.take i) <+: M.nums := by
  unfold Wi.nums
  rw [List.prefix_append_right_inj]
  obtain ⟨t, ht⟩ := List.take_prefix i M.pk
  refine ⟨pairs t, ?_⟩
  conv => rhs; rw [← ht]
  simp [pairs]
/-- A witness in block g, which a variable in block Bs points to. -/
structure NumW (W : World) (Bs g : Nat) (M : Wi) (pa : Option Addr) (pc : Nat) (B : Nat) : Prop where
  bs : W.heap[Bs]? = some (.cells #[.pointer (some ⟨g, 0, none⟩)] 54)
  gw : W.heap[g]? = some (.cells (M.cells pa pc).toArray 31)
  pk : Rows W 2 pa pc (M.pk.map pkC)
  n1 : Bs ≠ B
  n2 : g ≠ B
  n3 : B ∉ blk pa ∨ M.pk = []
theorem NumW.keep {W W' : World} {Bs g : Nat} {M : Wi} {pa : Option Addr} {pc B : Nat} (h : NumW W Bs g M pa pc B) (hk : ButC B W W') : NumW W' Bs g M pa pc B :=
  ⟨hk.same _ _ h.bs rfl h.n1, hk.same _ _ h.gw rfl h.n2, h.pk.keepD (h.n3.imp_right fun e => by rw [e]; rfl) hk, h.n1, h.n2, h.n3⟩
theorem infoN3 : (Try.prog.info? 57).map (fun i => (i.zero, i.size, i.bytes)) = some (some (.agg #[.pointer none, .int .i64 0, .int .i64 0]), 3, 24) := by kernel_rfl
/-- The items of a head's list: where they stand in block g, and how many picks there are in block Mb. -/
def Wi.items (M : Wi) (g Mb : Nat) : List Itm := [(⟨g, 1, none⟩, 1, 5, M.kd), (⟨g, 2, none⟩, 0, 64, M.af), (⟨g, 3, none⟩, 0, 64, M.ap), (⟨g, 4, none⟩, 0, 64, M.bf), (⟨g, 5, none⟩, 0, 64, M.bp), (⟨g, 6, none⟩, 0, 255, M.nm), (⟨g, 7, none⟩, 0, 255, M.wy), (⟨g, 9, none⟩, 0, 256, M.st), (⟨g, 10, none⟩, 0, 4096, M.fu), (⟨g, 11, none⟩, 0, 65536, M.ru), (⟨Mb, 0, none⟩, 0, 256, (M.pk.length : Int))]
theorem items_snd (M : Wi) (g Mb : Nat) : (M.items g Mb).map Prod.snd = M.head := rfl
theorem items_held {W : World} {Bs g Mb : Nat} {M : Wi} {pa : Option Addr} {pc B : Nat} {la : Option Addr} {lc : Nat} (h : NumW W Bs g M pa pc B) (hm : W.heap[Mb]? = some (.cells #[.int .i64 (M.pk.length : Int)] 3)) (hB : Mb ≠ B) (hr : Rows W 3 la lc ((M.items g Mb).map itC)) (hn : B ∉ blk la) : Held W B la lc (M.items g Mb) := by
  refine ⟨hr, hn, fun x hx => ?_⟩
  have hg : ∀ (k : Nat) (v : Value), (M.cells pa pc).toArray[k]? = some v → W.cell? ⟨g, k, none⟩ = some v := fun k v hv => by rw [cell_of_row W g k _ _ _ h.gw]; exact hv
  have hM : W.cell? ⟨Mb, 0, none⟩ = some (.int .i64 (M.pk.length : Int)) := by rw [cell_of_row W Mb 0 _ _ _ hm]; rfl
  simp only [Wi.items, List.mem_cons, List.not_mem_nil, or_false] at hx
  rcases hx with rfl | rfl | rfl | rfl | rfl | rfl | rfl | rfl | rfl | rfl | rfl
  all_goals first
    | exact ⟨hg _ _ rfl, h.n2⟩
    | exact ⟨hM, hB⟩
end Go.Proofs.Ytikkgfmhnmoalaa.pg
/- The iterator over a witness's numbers. -/
namespace Go.Proofs.Ytikkgfmhnmoalaa.pg
open Go.ChangeShapes Go.WideShapes Go.ChangeAt Go.RowKit
set_option linter.unusedVariables false
set_option linter.unusedSimpArgs false
set_option maxRecDepth 100000
attribute [local go_sem] Oper.semAt_some
theorem head_own {W : World} {g A : Nat} (h : W.heap[A]? = some (objNm (headL g 0))) : OwnL W A 57 3 (some ⟨A, 0, none⟩) 10 ((headL g 0).map nmC) :=
  ⟨rfl, .inr ⟨A, 10, _, rfl, Nat.le_refl _, h, by show 10 ≤ 10; decide, by unfold maxLen; decide, rfl, rfl⟩⟩
theorem it_len (E : List Itm) : ∀ row ∈ E.map itC, row.length = 3 := by intro r hr; obtain ⟨x, _, rfl⟩ := List.mem_map.mp hr; rfl
theorem nm_len (E : List (Addr × Int × Int)) : ∀ row ∈ E.map nmC, row.length = 3 := by intro r hr; obtain ⟨x, _, rfl⟩ := List.mem_map.mp hr; rfl
theorem nm_one (E : List (Addr × Int × Int)) : ∀ row ∈ E.map nmC, ∀ u ∈ row, u.oneCell' = true := by
  intro r hr u hu
  obtain ⟨x, _, rfl⟩ := List.mem_map.mp hr
  simp only [List.mem_cons, List.not_mem_nil, or_false] at hu
  rcases hu with rfl | rfl | rfl <;> rfl
theorem items_rows (M : Wi) (g Mb : Nat) : (headL g 0).map nmC ++ [nmC (⟨Mb, 0, none⟩, 0, 256)] = (M.items g Mb).map itC := by
  simp [headL, Wi.items]
theorem rows_box {W : World} {A : Nat} {x : Addr × Int × Int} (h : W.heap[A]? = some (.cells (nmC x).toArray 57)) : Rows W 3 (some ⟨A, 0, none⟩) 1 [nmC x] := by
  refine ⟨by simp, by decide, by simp, .inr ⟨A, 0, rfl, (Array.getElem?_eq_some_iff.mp h).1, fun i row hi => ?_⟩⟩
  obtain rfl : i = 0 := by have := (List.getElem?_eq_some_iff.mp hi).1; simp at this; exact this
  simp at hi
  subst hi
  refine ⟨rfl, fun j u hj => ?_⟩
  rw [cell_of_row W A _ _ _ _ h]
  simpa using hj
theorem app_ready {w1 w2 : World} {s g : Nat} (hh : w1.heap[s + 1]? = some (objNm (headL g 0))) (hz : w1.heap.size = s + 1 + 1) (hb : Below w1.heap.size w1 w2) :
    OwnL (w2.alloc (.cells #[.pointer (some ⟨s, 0, none⟩), .int .i64 0, .int .i64 256] 57)) (s + 1) 57 3 (some ⟨s + 1, 0, none⟩) 10 ((headL g 0).map nmC) ∧
    Rows (w2.alloc (.cells #[.pointer (some ⟨s, 0, none⟩), .int .i64 0, .int .i64 256] 57)) 3 (some ⟨w2.heap.size, 0, none⟩) 1 [nmC (⟨s, 0, none⟩, 0, 256)] ∧ s + 1 ≤ (w2.alloc (.cells #[.pointer (some ⟨s, 0, none⟩), .int .i64 0, .int .i64 256] 57)).heap.size ∧ s + 1 < w2.heap.size := by
  have h2 := hb.size
  refine ⟨head_own (((boxed w2 _).block _ (by omega)).trans ((hb.block _ (by omega)).trans hh)), rows_box (x := (⟨s, 0, none⟩, 0, 256)) (heap_alloc_new _ _), by rw [World.size_alloc]; omega, by omega⟩
theorem app_done {W W1 w1 w2 w3 : World} {M : Wi} {pa : Option Addr} {pc Bs g B lc : Nat} {la : Option Addr} {o : Obj} (hN : NumW W Bs g M pa pc B) (hB : B < W.heap.size) (b1 : Below W.heap.size W W1) (m1 : W1.heap[W.heap.size]? = some (.cells #[.int .i64 (M.pk.length : Int)] 3)) (hb1 : Below (W.heap.size + 1) W1 w1) (hz1 : w1.heap.size = W.heap.size + 1 + 1) (hb2 : Below w1.heap.size w1 w2)
    (ho3 : OwnL w3 (W.heap.size + 1) 57 3 la lc ((M.items g W.heap.size).map itC)) (hB3 : Below (min (W.heap.size + 1) (w2.alloc o).heap.size) (w2.alloc o) w3) : Below W.heap.size W w3 ∧ NumW w3 Bs g M pa pc B ∧ Held w3 B la lc (M.items g W.heap.size) := by
  have h2 := hb2.size
  have c1 : Below (W.heap.size + 1) W1 w3 := ((hb1.trans (hb2.mono (by omega))).trans ((boxed w2 o).mono (by omega))).trans (hB3.mono (by rw [World.size_alloc]; omega))
  have c2 : Below W.heap.size W w3 := b1.trans (c1.mono (by omega))
  have hN3 := hN.keep (butC_of c2)
  refine ⟨c2, hN3, items_held hN3 ((c1.block _ (by omega)).trans m1) (by omega) (own_rows ho3 (it_len _)) (fun q => ?_)⟩
  have := (blk_lt ho3 _ q).1
  omega
theorem pair_held {W W' : World} {B A b o : Nat} {x : Int × Int} (hb : Below W.heap.size W W') (hB : B < W.heap.size) (hA : W.heap.size ≤ A) (h : W'.heap[A]? = some (objNm [(⟨b, o, none⟩, 0, 5), (⟨b, o + 1, none⟩, 0, 4)])) (c0 : W.cell? ⟨b, o, none⟩ = some (.int .i64 x.1)) (c1 : W.cell? ⟨b, o + 1, none⟩ = some (.int .i64 x.2)) (hbB : b ≠ B) :
    Held W' B (some ⟨A, 0, none⟩) 2 [(⟨b, o, none⟩, 0, 5, x.1), (⟨b, o + 1, none⟩, 0, 4, x.2)] := by
  have hw : OwnL W' A 57 3 (some ⟨A, 0, none⟩) 2 ([((⟨b, o, none⟩, 0, 5, x.1) : Itm), (⟨b, o + 1, none⟩, 0, 4, x.2)].map itC) := ⟨rfl, .inr ⟨A, 2, _, rfl, Nat.le_refl _, h, by show 2 ≤ 2; decide, by unfold maxLen; decide, rfl, rfl⟩⟩
  refine ⟨own_rows hw (it_len _), by simp only [blk, List.mem_singleton]; omega, fun y hy => ?_⟩
  simp only [List.mem_cons, List.not_mem_nil, or_false] at hy
  rcases hy with rfl | rfl
  · exact ⟨cell_keep c0 hbB (butC_of hb), hbB⟩
  · exact ⟨cell_keep c1 hbB (butC_of hb), hbB⟩
section
variable {M : Wi} {pa : Option Addr} {pc Bs g B : Nat}
set_option maxHeartbeats 4000000 in
theorem nums_in (n ll : Nat) (J Jx : List Itm → World → Prop) (hJ : Lasts J)
    (hY : ∀ m pre x V, ItR x V → J pre V → pre.length < M.nums.length → YieldAt Fence.wide m Try.prog ll (itV x) V fun e V' => (e = .returned (.bool true) ∧ J (pre ++ [x]) V' ∧ ButC B V V') ∨ (e = .returned (.bool false) ∧ Jx (pre ++ [x]) V'))
    (W : World) (hN : NumW W Bs g M pa pc B) (hB : B < W.heap.size) (h0 : J [] W) :
    CallsIn Fence.wide n Try.prog 39 #[.func (.yield ll) #[] #[], .pointer (some ⟨Bs, 0, none⟩)] W fun e W' => (∃ v, e = .returned v) ∧ ((∃ xs : List Itm, xs.map Prod.snd = M.nums ∧ J xs W') ∨ ∃ pre : List Itm, pre.map Prod.snd <+: M.nums ∧ Jx pre W') := by
  obtain ⟨i3, hi3, hz3, hs3, hb3⟩ := info_of infoN3
  have cW := cell_of_row W Bs 0 _ _ _ hN.bs
  have cP : W.cell? ⟨g, 8, none⟩ = some (.slice pa M.pk.length pc) := by rw [cell_of_row W g 8 _ _ _ hN.gw]; rfl
  have hlen : (M.pk.length : Int) ≤ 9223372036854775807 := rows_len hN.pk
  obtain ⟨W1, hW1⟩ : ∃ W1, W1 = W.alloc (.cells #[.int .i64 (M.pk.length : Int)] 3) := ⟨_, rfl⟩
  have b1 : Below W.heap.size W W1 := by rw [hW1]; exact boxed _ _
  have m1 : W1.heap[W.heap.size]? = some (.cells #[.int .i64 (M.pk.length : Int)] 3) := by rw [hW1]; exact heap_alloc_new _ _
  have z1 : W1.heap.size = W.heap.size + 1 := by rw [hW1]; exact World.size_alloc _ _
  have cH := headOf_any g 0 W1
  rw [z1] at cH
  have cC : ∀ wx, Calls Try.prog 41 #[.pointer (some ⟨W.heap.size, 0, none⟩)] wx _ := fun wx => countOf_any _ wx
  have cW1 : (W.alloc (.cells #[.int .i64 (M.pk.length : Int)] 3)).cell? ⟨Bs, 0, none⟩ = some (.pointer (some ⟨g, 0, none⟩)) := by rw [← hW1, cell_of_row W1 Bs 0 _ _ _ ((b1.block Bs (Array.getElem?_eq_some_iff.mp hN.bs).1).trans hN.bs)]; rfl
  have cW' : W.cell? ⟨Bs, 0, none⟩ = some (.pointer (some ⟨g, 0, none⟩)) := cW
  have hNH : Hid _ := hN
  have hYH : Hid _ := hY
  have hJH : Hid _ := hJ
  have h0H : Hid _ := h0
  have m1H : Hid _ := m1
  have hBH : Hid (B < W.heap.size) := hB
  obtain ⟨E, hE⟩ : ∃ E, E = M.items g W.heap.size := ⟨_, rfl⟩
  have hEl : Hid (E.length = 11 ∧ E.map Prod.snd = M.head) := by rw [hE]; exact ⟨rfl, rfl⟩
  have hEH : Hid (E = M.items g W.heap.size) := hE
  have hr3 : Hid ((headL g 0).map nmC ++ [nmC (⟨W.heap.size, 0, none⟩, 0, 256)] = E.map itC) := by rw [hE]; exact items_rows M g W.heap.size
  clear hN hY hJ h0 m1 cW hB hE
  refine callsIn_of_wp Try.func39 rfl trivial ?_ rfl
  simp only [Try.ntmps39, List.size_toArray, List.length_cons, List.length_nil, Nat.reduceAdd, Nat.reduceSub, Array.replicate_succ, Array.replicate_zero, List.push_toArray, List.append_toArray, List.nil_append, List.cons_append]
  refine wpIn_wide.2 ?_
  have hb1H : Hid _ := b1
  clear b1
  go_wp2_with (first
    | (go_at_call 40; rw [← hW1]; (with_reducible refine cH.mono ?_); rintro e w1 ⟨rfl, hh1, hb1, hz1⟩)
    | (go_at_call 41; (with_reducible refine (cC _).mono ?_); rintro e w2 ⟨rfl, hb2⟩)
    | (at_builtin; (obtain ⟨o3, r3, s3, s4⟩ := app_ready hh1 hz1 hb2); (refine wpList_app rfl (.tmp 15) (.tmp 17) 91 rfl (W.heap.size + 1) 57 i3 _ 3 24 Try.underlying91 hi3 hz3 hs3 hb3 rfl (by decide) (some ⟨W.heap.size + 1, 0, none⟩) 10 ((headL g 0).map nmC) rfl o3 (some ⟨w2.heap.size, 0, none⟩) 1 [nmC (⟨W.heap.size, 0, none⟩, 0, 256)] rfl r3 (nm_len [(⟨W.heap.size, 0, none⟩, 0, 256)]) (nm_one [(⟨W.heap.size, 0, none⟩, 0, 256)]) (by unfold maxLen; show 10 + 1 ≤ _; decide) (by show (10 + 1) * 24 ≤ _; decide) s3 ?_); intro la lc w3 ho3 hk3 hB3 hbl3; rw [hr3.out] at ho3 ⊢; (have hdone := app_done hNH.out hBH.out hb1H.out m1H.out hb1 hz1 hb2 (by rw [← hEH.out]; exact ho3) hB3); clear ho3 hk3 hB3 hbl3 o3 r3 s3 s4))
  have hs0 : Hid (J [] w3 ∧ ([] : List Itm).map Prod.snd = M.head.take 0 ∧ NumW w3 Bs g M pa pc B ∧ Held w3 B la lc E) := ⟨hJH.out _ _ _ hdone.1 h0H.out, rfl, hdone.2.1, by rw [hEH.out]; exact hdone.2.2⟩
  have hBw : Hid (B < w3.heap.size) := by have := hdone.1.size; have := hBH.out; show _ < _; omega
  clear hdone hh1 hb1 hb2 hz1 m1H h0H hb1H cW1 cW' cP cH cC hr3 hEH hNH hW1 z1 hBH hi3 hz3 hs3 hb3
  refine (wpIn_wide (n := n)).1 ?_
  gi_loopw [20] (fun u wr => ∃ (k : Nat) (ys : List Itm), k ≤ 11 ∧ u = .int .i64 (k : Int) ∧ Hid (J ys wr ∧ ys.map Prod.snd = M.head.take k ∧ NumW wr Bs g M pa pc B ∧ Held wr B la lc E) ∧ Hid (B < wr.heap.size)) (fun u _ => 11 - (intOf u).toNat)
  case atStart => exact ⟨0, [], by omega, rfl, hs0, hBw⟩
  case round =>
    clear hs0 hBw
    obtain ⟨k, ys, hk, rfl, hs, hBw⟩ := hrel
    by_cases hlt : k < 11
    · have hkI : (k : Int) < (E.length : Int) := by have := hEl.out.1; omega
      obtain ⟨x, hx⟩ : ∃ x, E[k]? = some x := ⟨_, List.getElem?_eq_getElem (by have := hEl.out.1; omega)⟩
      obtain ⟨b, o, hix, hbl, c0, c1, c2⟩ := nm_ix hs.out.2.2.2.r k x hx
      have hmore : Hid (M.head.take (k + 1) = M.head.take k ++ [x.2]) := by
        show _ = _
        rw [List.take_add_one, ← hEl.out.2, List.getElem?_map, hx]
        rfl
      have hpre : Hid ((ys ++ [x]).map Prod.snd <+: M.nums) := by
        show _ <+: _
        rw [List.map_append, hs.out.2.1]
        show M.head.take k ++ [x.2] <+: _
        rw [← hmore.out]
        exact (List.take_prefix _ _).trans (List.prefix_append _ _)
      have hlt2 : ys.length < M.nums.length := by have := hpre.out.length_le; simp at this; omega
      have hbx := boxed wr (.cells (itC x).toArray 57)
      have hxc := hs.out.2.2.2.c x (List.mem_of_getElem? hx)
      obtain ⟨fn, tmps, assign, body, hy, hR⟩ := hYH.out (n - 1) ys x _ (cell_keep hxc.1 hxc.2 (butC_of hbx)) (hJH.out _ _ _ hbx hs.out.1) hlt2
      have hbxH : Hid (Below wr.heap.size wr (wr.alloc (.cells (itC x).toArray 57))) := hbx
      clear hxc hbx hx hbl
      gi_wp2
      refine ⟨fun q => (by cases q), hR.mono ?_⟩
      rintro e W3 (⟨rfl, hJ3, hk3⟩ | ⟨rfl, hJx3⟩)
      · have hk4 := (butC_of (B := B) hbxH.out).trans hk3
        have hs3 : Hid (J (ys ++ [x]) W3 ∧ (ys ++ [x]).map Prod.snd = M.head.take (k + 1) ∧ NumW W3 Bs g M pa pc B ∧ Held W3 B la lc E) := ⟨hJ3, by rw [List.map_append, hs.out.2.1, hmore.out]; rfl, hs.out.2.2.1.keep hk4, hs.out.2.2.2.keep hk4⟩
        have hBw3 : Hid (B < W3.heap.size) := by have := hk4.size; have := hBw.out; show _ < _; omega
        clear hJ3 hk3 hk4 hs hmore hbxH hBw hpre hlt2
        gi_wp2
        go_roundw
        case rel => exact ⟨k + 1, ys ++ [x], by omega, by go_num, hs3, hBw3⟩
        case measure => simp [intOf]; omega
      · gi_wp2
        refine bodyPost_ret (results_none rfl _ _ _) rfl ?_
        exact ⟨⟨_, rfl⟩, .inr ⟨_, hpre.out, hJx3⟩⟩
    · have hk11 : Hid (k = 11) := by (show k = 11; omega)
      have hEL : (E.length : Int) ≤ (k : Int) := by have := hEl.out.1; have := hk11.out; omega
      have hs1 : Hid (J ys wr ∧ ys.map Prod.snd = M.head ++ pairs (M.pk.take 0) ∧ NumW wr Bs g M pa pc B) := ⟨hs.out.1, by rw [hs.out.2.1, hk11.out]; simp [Wi.head, pairs], hs.out.2.2.1⟩
      have cB := cell_of_row wr Bs 0 _ _ _ hs.out.2.2.1.bs
      have cB' : wr.cell? ⟨Bs, 0, none⟩ = some (.pointer (some ⟨g, 0, none⟩)) := cB
      have cG : wr.cell? ⟨g, 8, none⟩ = some (.slice pa M.pk.length pc) := by rw [cell_of_row wr g 8 _ _ _ hs.out.2.2.1.gw]; rfl
      clear hs cB
      gi_wp2
      go_wp2_with fail
      have hd1 : decide (k < E.length) = false := decide_eq_false (by omega)
      have hd2 : decide ((k : Int) < (E.length : Int)) = false := decide_eq_false (by omega)
      clear cB' cG hEL
      try simp only [hd1, hd2]
      clear hd1 hd2
      refine (wpIn_wide (n := n)).1 ?_
      gi_loopw [34] (fun u wr => ∃ (p : Nat) (ys : List Itm), p ≤ M.pk.length ∧ u = .int .i64 (p : Int) ∧ Hid (J ys wr ∧ ys.map Prod.snd = M.head ++ pairs (M.pk.take p) ∧ NumW wr Bs g M pa pc B) ∧ Hid (B < wr.heap.size)) (fun u _ => M.pk.length - (intOf u).toNat)
      case atStart => exact ⟨0, ys, Nat.zero_le _, rfl, hs1, hBw⟩
      case round =>
        clear hs1 hBw
        clear ys
        obtain ⟨p, ys, hp, rfl, hs, hBw⟩ := hrel
        by_cases hpl : p < M.pk.length
        · have hpI : (p : Int) < (M.pk.length : Int) := by omega
          obtain ⟨x, hx⟩ : ∃ x, M.pk[p]? = some x := ⟨_, List.getElem?_eq_getElem hpl⟩
          obtain ⟨b, o, hix, hbl, c0, c1⟩ := pk_ix hs.out.2.2.pk p x hx
          have hbB : Hid (b ≠ B) := fun q => hs.out.2.2.n3.elim (fun h => h (q ▸ hbl)) (fun h => by rw [h] at hx; simp at hx)
          have hmore := pairs_more hx
          have hpre : Hid (M.head ++ pairs (M.pk.take (p + 1)) <+: M.nums) := nums_pre M (p + 1)
          have hmoreH : Hid (pairs (M.pk.take (p + 1)) = pairs (M.pk.take p) ++ [(0, 5, x.1), (0, 4, x.2)]) := hmore
          have cB' : wr.cell? ⟨Bs, 0, none⟩ = some (.pointer (some ⟨g, 0, none⟩)) := by rw [cell_of_row wr Bs 0 _ _ _ hs.out.2.2.bs]; rfl
          have cG : wr.cell? ⟨g, 8, none⟩ = some (.slice pa M.pk.length pc) := by rw [cell_of_row wr g 8 _ _ _ hs.out.2.2.gw]; rfl
          have cP := pairOf_any b o wr
          have c0H : Hid (wr.cell? ⟨b, o, none⟩ = some (.int .i64 x.1)) := c0
          have c1H : Hid (wr.cell? ⟨b, o + 1, none⟩ = some (.int .i64 x.2)) := c1
          clear hmore hbl hx c0 c1
          refine wpIn_wide.2 ?_
          go_wp2_with (go_at_call 42; (with_reducible refine cP.mono ?_); rintro e w5 ⟨rfl, hh5, hb5, hz5⟩)
          obtain ⟨E2, hE2⟩ : ∃ E2 : List Itm, E2 = [(⟨b, o, none⟩, 0, 5, x.1), (⟨b, o + 1, none⟩, 0, 4, x.2)] := ⟨_, rfl⟩
          have hE2l : Hid (E2.length = 2 ∧ E2.map Prod.snd = [(0, 5, x.1), (0, 4, x.2)]) := by rw [hE2]; exact ⟨rfl, rfl⟩
          have hbc := butC_of (B := B) hb5
          have hs5 : Hid (J ys w5 ∧ ys.map Prod.snd = (M.head ++ pairs (M.pk.take p)) ++ (E2.map Prod.snd).take 0 ∧ NumW w5 Bs g M pa pc B ∧ Held w5 B (some ⟨wr.heap.size, 0, none⟩) 2 E2) := ⟨hJH.out _ _ _ hb5 hs.out.1, by rw [hs.out.2.1]; simp, hs.out.2.2.keep hbc, by rw [hE2]; exact pair_held hb5 hBw.out (Nat.le_refl _) hh5 c0H.out c1H.out hbB.out⟩
          have hB5 : Hid (B < w5.heap.size) := by have := hb5.size; have := hBw.out; show _ < _; omega
          generalize wr.heap.size = A5 at *
          clear hs hBw hb5 hh5 hz5 hbc c0H c1H hbB cB' cG cP hix hE2
          refine (wpIn_wide (n := n)).1 ?_
          gi_loopw [45] (fun u wq => ∃ (k : Nat) (ys : List Itm), k ≤ 2 ∧ u = .int .i64 (k : Int) ∧ Hid (J ys wq ∧ ys.map Prod.snd = (M.head ++ pairs (M.pk.take p)) ++ (E2.map Prod.snd).take k ∧ NumW wq Bs g M pa pc B ∧ Held wq B (some ⟨A5, 0, none⟩) 2 E2) ∧ Hid (B < wq.heap.size)) (fun u _ => 2 - (intOf u).toNat)
          case atStart => exact ⟨0, ys, by omega, rfl, hs5, hB5⟩
          case round =>
            clear hs5 hB5
            clear ys
            obtain ⟨k, ys, hk, rfl, hs, hBw⟩ := hrel
            by_cases hlt : k < 2
            · have hkI : (k : Int) < 2 := by omega
              obtain ⟨y, hy0⟩ : ∃ y, E2[k]? = some y := ⟨_, List.getElem?_eq_getElem (by have := hE2l.out.1; omega)⟩
              obtain ⟨b2, o2, hix, hbl, c0, c1, c2⟩ := nm_ix hs.out.2.2.2.r k y hy0
              rw [hE2l.out.1] at hix
              have hmore2 : Hid ((E2.map Prod.snd).take (k + 1) = (E2.map Prod.snd).take k ++ [y.2]) := by
                show _ = _
                rw [List.take_add_one, List.getElem?_map, hy0]
                rfl
              have hpre2 : Hid ((ys ++ [y]).map Prod.snd <+: M.nums) := by
                show _ <+: _
                rw [List.map_append, hs.out.2.1]
                show ((M.head ++ pairs (M.pk.take p)) ++ (E2.map Prod.snd).take k) ++ [y.2] <+: _
                rw [List.append_assoc, ← hmore2.out]
                refine List.IsPrefix.trans ?_ hpre.out
                rw [hmoreH.out, ← List.append_assoc, hE2l.out.2]
                exact (List.prefix_append_right_inj _).mpr (List.take_prefix _ _)
              have hlt2 : ys.length < M.nums.length := by have := hpre2.out.length_le; simp at this; omega
              have hbx := boxed wr (.cells (itC y).toArray 57)
              have hxc := hs.out.2.2.2.c y (List.mem_of_getElem? hy0)
              obtain ⟨fn, tmps, assign, body, hy, hR⟩ := hYH.out (n - 1) ys y _ (cell_keep hxc.1 hxc.2 (butC_of hbx)) (hJH.out _ _ _ hbx hs.out.1) hlt2
              have hbxH : Hid (Below wr.heap.size wr (wr.alloc (.cells (itC y).toArray 57))) := hbx
              clear hxc hbx hy0 hbl
              gi_wp2
              refine ⟨fun q => (by cases q), hR.mono ?_⟩
              rintro e W3 (⟨rfl, hJ3, hk3⟩ | ⟨rfl, hJx3⟩)
              · have hk4 := (butC_of (B := B) hbxH.out).trans hk3
                have hs3 : Hid (J (ys ++ [y]) W3 ∧ (ys ++ [y]).map Prod.snd = (M.head ++ pairs (M.pk.take p)) ++ (E2.map Prod.snd).take (k + 1) ∧ NumW W3 Bs g M pa pc B ∧ Held W3 B (some ⟨A5, 0, none⟩) 2 E2) := ⟨hJ3, by rw [List.map_append, hs.out.2.1, hmore2.out, List.append_assoc]; rfl, hs.out.2.2.1.keep hk4, hs.out.2.2.2.keep hk4⟩
                have hBw3 : Hid (B < W3.heap.size) := by have := hk4.size; have := hBw.out; show _ < _; omega
                clear hJ3 hk3 hk4 hs hmore2 hbxH hBw hpre2 hlt2
                gi_wp2
                go_roundw
                case rel => exact ⟨k + 1, ys ++ [y], by omega, by go_num, hs3, hBw3⟩
                case measure => simp [intOf]; omega
              · gi_wp2
                refine bodyPost_ret (results_none rfl _ _ _) rfl ?_
                exact ⟨⟨_, rfl⟩, .inr ⟨_, hpre2.out, hJx3⟩⟩
            · have hk2 : k = 2 := by omega
              subst hk2
              have hs1 : Hid (J ys wr ∧ ys.map Prod.snd = M.head ++ pairs (M.pk.take (p + 1)) ∧ NumW wr Bs g M pa pc B) := ⟨hs.out.1, by rw [hs.out.2.1, hmoreH.out, hE2l.out.2, ← List.append_assoc]; rfl, hs.out.2.2.1⟩
              clear hs
              gi_wp2
              go_wp2_with fail
              go_roundw
              case rel => exact ⟨p + 1, ys, by omega, by go_num, hs1, hBw⟩
              case measure => simp [intOf]; omega
        · have hpe : p = M.pk.length := by omega
          have hsE : Hid (ys.map Prod.snd = M.nums ∧ J ys wr) := ⟨by rw [hs.out.2.1, hpe, List.take_length]; rfl, hs.out.1⟩
          clear hs
          have hpI : (p : Int) = (M.pk.length : Int) := by omega
          gi_wp2
          go_end0
          exact ⟨⟨_, rfl⟩, .inl ⟨ys, hsE.out.1, hsE.out.2⟩⟩
end
end Go.Proofs.Ytikkgfmhnmoalaa.pg
