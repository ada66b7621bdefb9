/- Whether a witness is right. -/
import Derived.Test.YtikkgfmhnmoalaaM8
import Derived.Test.YtikkgfmhnmoalaaM10
import Derived.Test.YtikkgfmhnmoalaaM7
import Derived.Handy
import Derived.Shelf.RegionOpen
import Derived.Lib.SlBytesConst
namespace Go.Proofs.Ytikkgfmhnmoalaa.pg
open Go.ChangeShapes Go.WideShapes Go.ChangeAt Go.RowKit
set_option linter.unusedVariables false
set_option linter.unusedSimpArgs false
set_option maxRecDepth 100000
attribute [local go_sem] Oper.semAt_some
theorem nums_gives (n : Nat) {M : Wi} {pa : Option Addr} {pc Bs g B : Nat} (w : World) (hN : NumW w Bs g M pa pc B) (hB : B < w.heap.size) :
    Gives Fence.wide n Try.prog 39 #[.pointer (some ⟨Bs, 0, none⟩)] itV ItR B (fun xs => xs.map Prod.snd = M.nums) (fun pre => pre.map Prod.snd <+: M.nums) M.nums.length w :=
  fun l J Jx W hW hJ hY h0 => nums_in n l J Jx hJ (fun m pre x V h1 h2 h3 => yieldAnyR m (hY pre x V h1 h2 h3)) W (hN.keep (butC_of hW)) (by have := hW.size; omega) h0
theorem itR_plain {b : Nat} : Plain b (fun x => ItR x) := fun x A l o o' _ h1 h2 hx => by
  have hk : ButC (x.1.block + 1) A (A.putObj l o') := ButC.put h1 h2 o'
  exact cell_keep hx (by omega) hk
theorem inRound_calls {l n : Nat} {P : Program} {f : FuncId} {args : Array Value} {w : World} {R R' : Ending → World → Prop} (h : Calls P f args w R) (hr : ∀ e w', R e w' → R' e w') : CallsIn (Fence.wide.inRound l) n P f args w R' :=
  CallsIn.mono (show CallsIn (Fence.wide.inRound l) n P f args w R from (callsIn_wide (n := n)).2 h) hr
theorem itR_lasts : Lasts (fun x => ItR x) := fun x A B hb hx => cell_keep (B := x.1.block + 1) hx (by omega) (butC_of hb)
/-- A witness's numbers are what they may be. -/
def Wi.ok (M : Wi) : Bool := M.nums.all fun x => decide (x.1 ≤ x.2.2) && decide (x.2.2 ≤ x.2.1)
abbrev objWi (M : Wi) (pa : Option Addr) (pc : Nat) : Obj := .cells (M.cells pa pc).toArray 31
abbrev fitB (x : Int × Int × Int) : Bool := decide (x.1 ≤ x.2.2) && decide (x.2.2 ≤ x.2.1)
theorem wi_ok (M : Wi) : M.ok = M.nums.all fitB := rfl
theorem alloc3 (w : World) (o1 o2 o3 : Obj) : ∃ W, W = ((w.alloc o1).alloc o2).alloc o3 ∧ W.heap.size = w.heap.size + 3 ∧ Below w.heap.size w W ∧ W.heap[w.heap.size]? = some o1 ∧ W.heap[w.heap.size + 1]? = some o2 ∧ W.heap[w.heap.size + 1 + 1]? = some o3 := by
  refine ⟨_, rfl, by simp [World.size_alloc], bthen (bthen (boxed _ _) (boxed _ _)) (boxed _ _), ?_, ?_, ?_⟩
  · exact ((boxed _ _).block _ (by simp only [World.size_alloc]; omega)).trans (((boxed _ _).block _ (by simp [World.size_alloc])).trans (heap_alloc_new w o1))
  · have h := heap_alloc_new (w.alloc o1) o2
    simp only [World.size_alloc] at h
    exact ((boxed _ _).block _ (by simp [World.size_alloc])).trans h
  · have h := heap_alloc_new ((w.alloc o1).alloc o2) o3
    simp only [World.size_alloc] at h
    exact h
theorem wresb {fn : Func} {t : Tmp} (h : fn.results = #[.cell t 4]) (tmps : Array Value) (w : World) {B : Nat} {r : Bool} (ht : tmps[t]?.getD undef = .pointer (some ⟨B, 0, none⟩)) (hc : w.heap[B]? = some (.cells #[.bool r] 4)) : (results fn tmps).run Try.prog w = .ok (.bool r) w := by
  have u := Try.underlying4
  have hc2 : w.cell? ⟨B, 0, none⟩ = some (.bool r) := by rw [cell_of_row w B 0 _ _ _ hc]; rfl
  simp [results, h, ht, go_sem, u, hc2]
/-- How right stands: its answer's cell. -/
structure OkS (w W : World) (B : Nat) : Prop where
  r : W.heap[B]? = some (.cells #[.bool false] 4)
  b : Below w.heap.size w W
theorem OkS.later {w W W' : World} {B : Nat} (h : OkS w W B) (hb : Below W.heap.size W W') : OkS w W' B := ⟨(hb.block B (Array.getElem?_eq_some_iff.mp h.r).1).trans h.r, h.b.trans (hb.mono h.b.size)⟩
theorem OkS.put {w W : World} {B l : Nat} {o o' : Obj} (h : OkS w W B) (hl : w.heap.size ≤ l) (h1 : W.heap[l]? = some o) (h2 : o.isCells = false) : OkS w (W.putObj l o') B :=
  ⟨(World.putObj_heap_other (fun e => by subst e; have := h.r; rw [h1] at this; cases this; cases h2)).trans h.r, h.b.trans ((Below.refl _ W).grown (grownBy_putObj' W l o') h.b.size (fun k e => by cases e; exact hl))⟩
theorem OkS.set {w W : World} {B : Nat} (h : OkS w W B) (hB : w.heap.size ≤ B) (b : Bool) : (W.setCell ⟨B, 0, none⟩ (.bool b)).heap[B]? = some (.cells #[.bool b] 4) ∧ Below w.heap.size w (W.setCell ⟨B, 0, none⟩ (.bool b)) := by
  refine ⟨?_, h.b.setCell (p := ⟨B, 0, none⟩) hB _⟩
  rw [setCell_eq_setRow W B 0 _ _ _ _ h.r, setRow_heap W B _ _ _ _ h.r]
  rfl
theorem put_def {w W : World} {D B : Nat} {o : Obj} (hb : Below w.heap.size w W) (hD : w.heap.size ≤ D) (hK : W.heap[D]? = some (.deferred (some []))) (hB : W.heap[B]? = some o) (ho : o.isCells = true) : Below w.heap.size w (W.putObj D (.deferred none)) ∧ (W.putObj D (.deferred none)).heap[B]? = some o :=
  ⟨hb.trans ((Below.refl _ W).grown (grownBy_putObj' W D _) hb.size (fun k e => by cases e; exact hD)), (World.putObj_heap_other (fun e => by subst e; rw [hK] at hB; cases hB; cases ho)).trans hB⟩
set_option maxHeartbeats 4000000 in
theorem wok_any (M : Wi) (pa : Option Addr) (pc : Nat) (w : World) (hp : Rows w 2 pa pc (M.pk.map pkC)) (hbl : (∀ b ∈ blk pa, b < w.heap.size) ∨ M.pk = []) : Calls Try.prog 15 #[.agg (M.cells pa pc).toArray] w fun e w' => e = .returned (.bool M.ok) ∧ Below w.heap.size w w' := by
  have cU : ∀ a wx, Calls Try.prog 18 #[.pointer a] wx _ := fun a wx => numbers_any a wx
  obtain ⟨Wz, hWz, z3, b3, p0, p1, p2⟩ := alloc3 w (objWi M pa pc) (.cells #[.bool false] 4) (.cells #[.pointer (some ⟨w.heap.size, 0, none⟩)] 54)
  have hN : NumW Wz (w.heap.size + 1 + 1) w.heap.size M pa pc (w.heap.size + 1) := ⟨p2, p0, hp.later b3, by omega, by omega, hbl.imp_left fun h q => by have := h _ q; omega⟩
  have s0 : OkS w Wz (w.heap.size + 1) := ⟨p1, b3⟩
  have hWH : Hid _ := hWz
  clear hWz p0 p1 p2 hp hbl
  refine (callsIn_wide (n := 3)).1 ?_
  refine callsIn_of_wp_marks Try.func15 rfl trivial ?_ rfl
  simp only [Try.ntmps15, List.size_toArray, List.length_cons, List.length_nil, Nat.reduceAdd, Nat.reduceSub, Array.replicate_succ, Array.replicate_zero, List.push_toArray, List.append_toArray, List.nil_append, List.cons_append]
  refine wpIn_wide.2 ?_
  go_wp2_with (go_at_call 18; (refine (cU _ _).mono ?_); rintro e w1 ⟨rfl, hw1⟩)
  refine Eq.mp (congrArg (Code.wp Try.prog _ _ _) hWH.out) ?_
  clear cU hWH
  refine (wpIn_wide (n := 3)).1 ?_
  refine range_told (n := 3) rfl (by omega) (gf := 39) (lb := #[.pointer (some ⟨w.heap.size + 1 + 1, 0, none⟩)]) rfl trivial (enters_of Try.func39 (by kernel_rfl) rfl)
    (nums_gives 2 Wz hN (by omega)) (by omega) (fun _ => rfl) itR_lasts itR_plain (fun pre V => (∀ x ∈ pre, fitB x.2 = true) ∧ OkS w V (w.heap.size + 1)) (fun pre V => (∃ x ∈ pre, fitB x.2 = false) ∧ OkS w V (w.heap.size + 1)) ?last ?plain ?plainx ⟨by simp, s0⟩
    (fun x A => { tmps := #[.agg (M.cells pa pc).toArray, .pointer (some ⟨w.heap.size, 0, none⟩), .pointer (some ⟨w.heap.size + 1, 0, none⟩), .pointer (some ⟨A, 0, none⟩), .func (.func 39) #[] #[.pointer (some ⟨w.heap.size + 1 + 1, 0, none⟩)], .agg #[.pointer (some x.1), .int .i64 x.2.1, .int .i64 x.2.2.1], undef, undef, undef], defers := [] })
    (fun x => .cells #[.pointer (some x.1), .int .i64 x.2.1, .int .i64 x.2.2.1] 57) (fun _ => rfl) ?assign ?body ?done ?stop
  case last => exact fun s A C hb h => ⟨h.1, h.2.later hb⟩
  case plain => exact fun s A l o o' hl h1 h2 h => ⟨h.1, h.2.put (by omega) h1 h2⟩
  case plainx => exact fun s A l o o' hl h1 h2 h => ⟨h.1, h.2.put (by omega) h1 h2⟩
  case assign =>
    intro l x V K hK
    gi_wp2
    simpa using hK
  case body =>
    rintro l pre x A V hx ⟨hall, hs⟩ hlenN hA hwA
    clear hlenN
    have z0 : V.cell? ⟨A, 0, none⟩ = some (.pointer (some x.1)) := by rw [cell_of_row V A 0 _ _ _ hA]; rfl
    have z1 : V.cell? ⟨A, 1, none⟩ = some (.int .i64 x.2.1) := by rw [cell_of_row V A 1 _ _ _ hA]; rfl
    have z2 : V.cell? ⟨A, 2, none⟩ = some (.int .i64 x.2.2.1) := by rw [cell_of_row V A 2 _ _ _ hA]; rfl
    have cF := fits_any x.1 x.2.1 x.2.2.1 x.2.2.2 V hx (cell_lt hx) (fitB x.2) rfl
    have hsH : Hid (OkS w V (w.heap.size + 1)) := hs
    have haH : Hid (∀ x ∈ pre, fitB x.2 = true) := hall
    cases hr : fitB x.2 with
    | true =>
      rw [hr] at cF
      have hrH : Hid (fitB x.2 = true) := hr
      clear hs hall hA hx hr
      gi_wp2
      refine ⟨trivial, inRound_calls cF ?_⟩
      rintro e V2 ⟨rfl, hb2⟩
      gi_wp2
      refine ⟨But.of hb2, fun y hy => ?_, hsH.out.later hb2⟩
      rcases List.mem_append.mp hy with q | q
      · exact haH.out y q
      · rw [List.mem_singleton.mp q]; exact hrH.out
    | false =>
      rw [hr] at cF
      have hrH : Hid (fitB x.2 = false) := hr
      clear hs hall hA hx hr
      gi_wp2
      refine ⟨trivial, inRound_calls cF ?_⟩
      rintro e V2 ⟨rfl, hb2⟩
      have hs2 := hsH.out.later hb2
      have hc2 : V2.cell? ⟨w.heap.size + 1, 0, none⟩ = some (.bool false) := by rw [cell_of_row V2 _ 0 _ _ _ hs2.r]; rfl
      have hf2 : V2.frozen? ⟨w.heap.size + 1, 0, none⟩ = false := frozen_of_row _ _ _ _ _ hs2.r
      have hs2H : Hid (OkS w V2 (w.heap.size + 1)) := hs2
      clear hs2
      gi_wp2
      obtain ⟨q1, q2⟩ := hs2H.out.set (by omega) false
      exact ⟨(But.of hb2).trans (But.set ⟨w.heap.size + 1, 0, none⟩ _), ⟨x, by simp, hrH.out⟩, q1, q2⟩
  case done =>
    rintro D ys V hD hS ⟨hall, hs⟩ hK
    have hok : Hid (M.ok = true) := by
      show _ = _
      rw [wi_ok, ← hS, List.all_eq_true]
      intro y hy
      obtain ⟨x, hx, rfl⟩ := List.mem_map.mp hy
      exact hall x hx
    have hc : V.cell? ⟨w.heap.size + 1, 0, none⟩ = some (.bool false) := by rw [cell_of_row V _ 0 _ _ _ hs.r]; rfl
    have hf : V.frozen? ⟨w.heap.size + 1, 0, none⟩ = false := frozen_of_row _ _ _ _ _ hs.r
    have hsH : Hid (OkS w V (w.heap.size + 1)) := hs
    have hKH : Hid (V.heap[D]? = some (.deferred (some []))) := hK
    clear hs hK s0 hN hall hS
    go_wp2_with (refine wpList_putb rfl 4 _ _ rfl ⟨w.heap.size + 1, 0, none⟩ rfl true rfl (by kernel_rfl) _ hc hf fun W' hW' => ?_)
    obtain ⟨q1, q2⟩ := hsH.out.set (by omega) true
    rw [← hW'] at q1 q2
    have kD : W'.heap[D]? = some (.deferred (some [])) := by rw [hW']; exact (Below.heap_setCell _ _ _ _ (by show D ≠ w.heap.size + 1; omega)).trans hKH.out
    obtain ⟨r1, r2⟩ := put_def q2 (by omega) kD q1 rfl
    refine ⟨by simp, .inl ⟨_, _, rfl, run_takeDeferred kD, ?_⟩⟩
    exact ⟨_, wresb Try.results15 _ _ rfl r2, by rw [hok.out], r1⟩
  case stop =>
    rintro D pre V hD hS ⟨hbad, hs⟩ hK
    have hok : Hid (M.ok = false) := by
      show _ = _
      rw [wi_ok, Bool.eq_false_iff]
      intro q
      obtain ⟨x, hx, hf⟩ := hbad
      have := List.all_eq_true.mp q x.2 (hS.subset (List.mem_map.mpr ⟨x, hx, rfl⟩))
      rw [this] at hf
      cases hf
    have hsH : Hid (OkS w V (w.heap.size + 1)) := hs
    have hKH : Hid (V.heap[D]? = some (.deferred (some []))) := hK
    clear hs hK s0 hN hbad hS
    refine wpIn_wide.2 ?_
    go_wp2_with fail
    obtain ⟨r1, r2⟩ := put_def hsH.out.b (by omega) hKH.out hsH.out.r rfl
    refine ⟨by simp, .inl ⟨_, _, rfl, run_takeDeferred hKH.out, ?_⟩⟩
    exact ⟨_, wresb Try.results15 _ _ rfl r2, by rw [hok.out], r1⟩
end Go.Proofs.Ytikkgfmhnmoalaa.pg
/- Contracts of package octet's Fixed and of the document's own. -/
namespace Go.Proofs.Ytikkgfmhnmoalaa.octet
open Go.ChangeShapes Go.WideShapes Go.ChangeAt Go.RowKit
open wrapped
set_option linter.unusedVariables false
theorem fixed_any (x : Int) (h0 : 0 ≤ x) (h1 : x < 4294967296) (w : World) : Calls Try.prog 38 #[.int .u32 x] w fun e w' => e = .returned (.agg #[.int .u8 (x / 16777216), .int .u8 (x / 65536 % 256), .int .u8 (x / 256 % 256), .int .u8 (x % 256)]) ∧ Below w.heap.size w w' := by
  go_enter Try.func38, Try.ntmps38
  go_wp2
  go_rounds 5
  refine bodyPost_ret (v := .agg #[.int .u8 (x / 16777216), .int .u8 (x / 65536 % 256), .int .u8 (x / 256 % 256), .int .u8 (x % 256)]) (by simp [results, Try.results38, go_sem]) rfl ⟨rfl, ?_⟩
  go_grown
theorem reffixed_any (x : Int) (h0 : 0 ≤ x) (h1 : x < 4294967296) (w : World) : Calls Try.prog 21 #[.int .u32 x] w fun e w' => e = .returned (.agg #[.int .u8 (x / 16777216), .int .u8 (x / 65536 % 256), .int .u8 (x / 256 % 256), .int .u8 (x % 256)]) ∧ Below w.heap.size w w' := by
  go_enter Try.func21, Try.ntmps21
  go_wp2
  refine bodyPost_ret (v := .agg #[.int .u8 (x / 16777216), .int .u8 (x / 65536 % 256), .int .u8 (x / 256 % 256), .int .u8 (x % 256)]) (by simp [results, Try.results21, go_sem]) rfl ⟨rfl, ?_⟩
  go_grown
end Go.Proofs.Ytikkgfmhnmoalaa.octet
/- A witness in bytes. -/
namespace Go.Proofs.Ytikkgfmhnmoalaa.pg
open Go.ChangeShapes Go.WideShapes Go.ChangeAt Go.RowKit
set_option linter.unusedVariables false
set_option linter.unusedSimpArgs false
set_option maxRecDepth 100000
attribute [local go_sem] Oper.semAt_some
def sumB (x : Nat) : List Nat := [x / 16777216, x / 65536 % 256, x / 256 % 256, x % 256]
def sumOf (f : Nat → Nat) (n : Nat) : Nat := 4294967295 - octet.crc f n
abbrev objSum (x : Nat) : Obj := .cells #[.int .u8 ((x : Int) / 16777216), .int .u8 ((x : Int) / 65536 % 256), .int .u8 ((x : Int) / 256 % 256), .int .u8 ((x : Int) % 256)] 61
theorem bt_sum (x : Nat) (h : x < 4294967296) : Bt (sumB x) := fun b hb => by
  simp only [sumB, List.mem_cons, List.not_mem_nil, or_false] at hb
  rcases hb with rfl | rfl | rfl | rfl <;> omega
theorem rows_sum {w : World} {A x : Nat} (h : w.heap[A]? = some (objSum x)) : Rows w 1 (some ⟨A, 0, none⟩) 4 ((sumB x).map u8c) := by
  refine ⟨by simp [sumB], by decide, by simp, .inr ⟨A, 0, rfl, (Array.getElem?_eq_some_iff.mp h).1, fun i row hi => ?_⟩⟩
  have hi4 : i < 4 := by have := (List.getElem?_eq_some_iff.mp hi).1; simpa [sumB] using this
  have h4 : i = 0 ∨ i = 1 ∨ i = 2 ∨ i = 3 := by omega
  rcases h4 with rfl | rfl | rfl | rfl
  all_goals
    simp [sumB] at hi
    subst hi
    refine ⟨rfl, fun j u hj => ?_⟩
    match j with
    | 0 =>
      simp at hj
      subst hj
      first
        | exact whole_cell h 0 _ rfl
        | exact whole_cell h 1 _ rfl
        | exact whole_cell h 2 _ rfl
        | exact whole_cell h 3 _ rfl
    | j + 1 => simp at hj
theorem wfixed_any (x : Nat) (hx : x < 4294967296) (w : World) : Calls Try.prog 17 #[.int .u32 (x : Int)] w fun e w' => ∃ A, e = .returned (.slice (some ⟨A, 0, none⟩) 4 4) ∧ w.heap.size ≤ A ∧ w'.heap[A]? = some (objSum x) ∧ Below w.heap.size w w' := by
  have cX := octet.fixed_any (x : Int) (by omega) (by omega) w
  go_enter Try.func17, Try.ntmps17
  go_wp2_with (go_at_call 38; (with_reducible refine cX.mono ?_); rintro e w2 ⟨rfl, hb2⟩)
  go_ret
  exact ⟨w2.heap.size, rfl, hb2.size, heap_alloc_new _ _, bthen hb2 (boxed _ _)⟩
abbrev magW : List Nat := [115, 99, 97, 119]
theorem rows_mag {w : World} {A : Nat} {fr : Nat × Nat} (h : w.heap[A]? = some (.cells #[.int .u8 115, .int .u8 99, .int .u8 97, .int .u8 119] 5 fr)) : Rows w 1 (some ⟨A, 0, none⟩) 4 (magW.map u8c) := by
  refine ⟨by simp, by decide, by simp, .inr ⟨A, 0, rfl, (Array.getElem?_eq_some_iff.mp h).1, fun i row hi => ?_⟩⟩
  have hi4 : i < 4 := by have := (List.getElem?_eq_some_iff.mp hi).1; simpa using this
  have h4 : i = 0 ∨ i = 1 ∨ i = 2 ∨ i = 3 := by omega
  rcases h4 with rfl | rfl | rfl | rfl
  all_goals
    simp at hi
    subst hi
    refine ⟨rfl, fun j u hj => ?_⟩
    match j with
    | 0 =>
      simp at hj
      subst hj
      first
        | exact (cell_of_row w A 0 _ _ _ h).trans rfl
        | exact (cell_of_row w A 1 _ _ _ h).trans rfl
        | exact (cell_of_row w A 2 _ _ _ h).trans rfl
        | exact (cell_of_row w A 3 _ _ _ h).trans rfl
    | j + 1 => simp at hj
/-- The bytes of a number of 64 bits. -/
def numB (v : Int) : List Nat := putB (v % 18446744073709551616).toNat
theorem bt_num (v : Int) : Bt (numB v) := bt_put _
theorem bl_list (L : List Nat) (f : Nat → Nat) (n : Nat) (hn : n = L.length) (hf : ∀ i (h : i < L.length), f i = L[i]) : octet.bl f n = (L.map u8c).flatten := by
  rw [u8_flat]
  subst hn
  unfold octet.bl
  refine List.ext_getElem (by simp) fun i h1 h2 => ?_
  simp only [List.getElem_map, List.getElem_range]
  rw [hf i (by simpa using h2)]
theorem own_put {w : World} {lo g x c : Nat} {L : List Nat} (h : octet.Owns w lo g (L.length + octet.szN x) c (octet.cat (fl L) L.length (octet.gr x))) : OwnL w lo 5 1 (some ⟨g, 0, none⟩) c ((L ++ putB x).map u8c) := by
  have hl : ((L ++ putB x).map u8c).length = L.length + octet.szN x := by rw [List.length_map, List.length_append, putB_len]
  show w.ownsRow lo _ 1 (.slice _ ((L ++ putB x).map u8c).length c) ((L ++ putB x).map u8c).length _
  rw [hl, ← bl_list (L ++ putB x) (octet.cat (fl L) L.length (octet.gr x)) (L.length + octet.szN x) (by rw [List.length_append, putB_len]) (fun i hi => ?_)]
  · exact h
  · unfold octet.cat fl
    by_cases hq : i < L.length
    · rw [if_pos hq, List.getD_eq_getElem?_getD, List.getElem?_eq_getElem hq, List.getElem_append_left hq]
      rfl
    · rw [if_neg hq, List.getElem_append_right (by omega)]
      simp [putB]
end Go.Proofs.Ytikkgfmhnmoalaa.pg
