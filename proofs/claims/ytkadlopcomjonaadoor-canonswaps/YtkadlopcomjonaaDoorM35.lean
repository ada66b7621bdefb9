/- Bytes of a call's own; numbers put behind them. -/
import Derived.Test.YtkadlopcomjonaaDoorM1
import Derived.Test.YtkadlopcomjonaaDoorM34
import Derived.Test.YtkadlopcomjonaaDoorShelf
import Derived.Lib.AppendIntMem
import Derived.Lib.ItoaLen
import Derived.Test.YtkadlopcomjonaaDoorM2
import Derived.Test.YtkadlopcomjonaaDoorM33
namespace Go.Proofs.YtkadlopcomjonaaDoor.pg
open Go.ChangeShapes Go.WideShapes Go.ChangeAt Go.RowKit Go.Shelf
set_option linter.unusedVariables false
set_option linter.unusedSimpArgs false
set_option maxRecDepth 100000
/-- The cell of a byte. -/
def bC (b : UInt8) : List Value := [.int .u8 (b.toNat : Int)]
theorem bC_flat : ∀ (l : List UInt8), (l.map bC).flatten = Lib.byteCells l
  | [] => rfl
  | b :: l => by
    have ih := bC_flat l
    simp only [List.map_cons, List.flatten_cons, ih]
    rfl
theorem bC_len (l : List UInt8) : ∀ row ∈ l.map bC, row.length = 1 := by intro r hr; obtain ⟨x, _, rfl⟩ := List.mem_map.mp hr; rfl
theorem bC_one (b : UInt8) : ∀ u ∈ bC b, u.oneCell' = true := by intro u hu; simp [bC] at hu; subst hu; rfl
/-- Bytes in memory of the call's own. -/
abbrev OwnB (w : World) (B : Nat) (a : Option Addr) (cap : Nat) (bs : List UInt8) : Prop := OwnL w B 5 1 a cap (bs.map bC)
theorem ownB_row {w : World} {B : Nat} {a : Option Addr} {cap : Nat} {bs : List UInt8} (h : OwnB w B a cap bs) : w.ownsRow B 5 1 (.slice a bs.length cap) bs.length (Lib.byteCells bs) := by
  have h1 : w.ownsRow B 5 1 (.slice a (bs.map bC).length cap) (bs.map bC).length (bs.map bC).flatten := h
  rw [List.length_map, bC_flat] at h1
  exact h1
theorem row_ownB {w : World} {B n : Nat} {v : Value} {bs : List UInt8} (h : w.ownsRow B 5 1 v n (Lib.byteCells bs)) (hn : n = bs.length) : ∃ a cap, v = .slice a bs.length cap ∧ OwnB w B a cap bs := by
  subst hn
  have key : ∀ a cap, v = .slice a bs.length cap → OwnB w B a cap bs := fun a cap e => by
    show w.ownsRow B 5 1 (.slice a (bs.map bC).length cap) (bs.map bC).length (bs.map bC).flatten
    rw [List.length_map, bC_flat, ← e]
    exact h
  rcases h.2 with ⟨q, q2⟩ | ⟨g, cap, cur, q, _⟩
  · have e : bs.length = 0 := by have := h.1; simp_all [Lib.byteCells]
    exact ⟨none, 0, by rw [q, e], key none 0 (by rw [q, e])⟩
  · exact ⟨_, _, q, key _ _ q⟩
theorem own_tagK {w : World} {lo e k : Nat} {a : Option Addr} {cap : Nat} {L : List (List Value)} (h : OwnL w lo e k a cap L) {g : Nat} (hg : g ∈ blk a) : ∃ cur, w.heap[g]? = some (.cells cur e (0, 0)) := by
  rcases h.2 with ⟨q, _⟩ | ⟨g', cap', cur, q, hb, hg', h1, h2, h3, h4⟩
  · simp only [Value.slice.injEq] at q; rw [q.1] at hg; simp [blk] at hg
  · simp only [Value.slice.injEq] at q
    rw [q.1] at hg
    simp only [blk, List.mem_singleton] at hg
    subst hg
    exact ⟨cur, hg'⟩
/-- The table of powers of ten, and what stays. -/
def TabB (B : Nat) (w : World) : Prop := Lib.TabBelow Tryd.prog B w "internal/strconv.uint64pow10" .u64 Lib.pow10Tab
theorem TabB.later {B : Nat} {w w' : World} (h : TabB B w) (hb : Below B w w') : TabB B w' := fun w'' h2 => h w'' (hb.trans h2)
abbrev OKp (w w' : World) : Prop := Lib.OthersKept 5 none w w'
theorem okp_below {w w' : World} (h : Below w.heap.size w w') : OKp w w' := fun k o hk _ _ => (h.block k (Array.getElem?_eq_some_iff.mp hk).1).trans hk
theorem okp_grown {w w' : World} {B : Nat} {a a' : Option Addr} {cap cap' : Nat} {bs : List UInt8} {c : UInt8} (h : OwnB w B a cap bs) (hg : Grown w B 5 1 a (bs.map bC) (bC c) a' cap' w') : OKp w w' := fun k o hk _ ho => by
  rw [hg.kp k (Array.getElem?_eq_some_iff.mp hk).1 fun q => ?_]
  · exact hk
  · obtain ⟨cur, e⟩ := own_tagK h q
    rw [hk] at e
    exact ho cur (0, 0) (Option.some.inj e)
theorem appint_any (B : Nat) (i : Int) (hi : I64 i) (a : Option Addr) (cap m : Nat) (bs : List UInt8) (w : World) (h : OwnB w B a cap bs) (hm : m = bs.length) (hB : B ≤ w.heap.size) (hl : bs.length ≤ 1000000) (hT : TabB B w) :
    Calls Tryd.prog 30 #[.slice a m cap, .int .i64 i, .int .i64 10] w fun e w' => ∃ a' cap' m', e = .returned (.slice a' m' cap') ∧ Hid (m' = (bs ++ Lib.itoa i).length ∧ OwnB w' B a' cap' (bs ++ Lib.itoa i) ∧ Below B w w' ∧ OKp w w') := by
  subst hm
  refine (Tryd.strconv_AppendInt_10 B bs.length i hi.1 hi.2 (.slice a bs.length cap) (Lib.byteCells bs) w (ownB_row h) hB (by omega) hT).mono fun e w' ⟨v', he, h1, h2, h3⟩ => ?_
  rw [← Lib.byteCells_append] at h1
  obtain ⟨a', cap', e1, e2⟩ := row_ownB h1 (by rw [List.length_append])
  exact ⟨a', cap', _, by rw [he, e1], ⟨rfl, e2, h2, h3⟩⟩
theorem numsB_len : ∀ (l : List Int), (∀ n ∈ l, I64 n) → (numsB l).length ≤ 22 * l.length
  | [], _ => by simp [numsB]
  | [n], h => by
    have := Lib.itoa_length_le n (h n (by simp)).1 (h n (by simp)).2
    simp only [numsB, List.length_cons, List.length_nil]
    omega
  | n :: m :: r, h => by
    have h1 := Lib.itoa_length_le n (h n (by simp)).1 (h n (by simp)).2
    have ih := numsB_len (m :: r) fun x hx => h x (by simp [hx])
    simp only [numsB, List.length_append, List.length_cons] at ih ⊢
    omega
/-- How the bytes stand while numbers are put behind them. -/
structure NbS (w W : World) (B : Nat) (va : Option Addr) (vc : Nat) (cs : List UInt8) : Prop where
  o : OwnB W B va vc cs
  b : Below B w W
  k : OKp w W
theorem NbS.then {w W W' : World} {B : Nat} {va va' : Option Addr} {vc vc' : Nat} {cs cs' : List UInt8} (h : NbS w W B va vc cs) (o : OwnB W' B va' vc' cs') (b : Below B W W') (k : OKp W W') : NbS w W' B va' vc' cs' := ⟨o, h.b.trans b, h.k.trans k⟩
theorem NbS.later {w W W' : World} {B : Nat} {va : Option Addr} {vc : Nat} {cs : List UInt8} (h : NbS w W B va vc cs) (hB : B ≤ W.heap.size) (hb : Below W.heap.size W W') : NbS w W' B va vc cs := h.then (own_keep h.o fun g hg => hb.block g (blk_lt h.o g hg).2) (hb.mono hB) (okp_below hb)
theorem NbS.sz {w W : World} {B : Nat} {va : Option Addr} {vc : Nat} {cs : List UInt8} (h : NbS w W B va vc cs) (hB : B ≤ w.heap.size) : B ≤ W.heap.size := by have := h.b.size; omega
theorem ix_i64 (A n : Nat) (j : Nat) (h : j < n) : ∀ wx, (Instr.indexAt 68 (.slice (some ⟨A, 0, none⟩) n n) (.int .i64 (j : Int))).run Tryd.prog wx = .ok (.pointer (some ⟨A, j, none⟩)) wx := by
  intro wx
  have u := Tryd.underlying68
  have z := Tryd.sizeOf2
  have q1 : (j : Int) < n := by omega
  have q2 : ¬ (j : Int) < 0 := by omega
  simp [Instr.indexAt, run_underlying u, asIntOf, go_sem, z, q1, q2, h]
theorem infoU8 : (Tryd.prog.info? 5).map (fun i => (i.zero, i.size, i.bytes)) = some (some (.int .u8 0), 1, 1) := by kernel_rfl
abbrev objI64 (s : List Int) : Obj := .cells (s.map fun v => Value.int .i64 v).toArray 2
theorem i64_cell {w W : World} {A : Nat} {L : List Int} (h : w.heap[A]? = some (objI64 L)) (hk : OKp w W) {k : Nat} {n : Int} (hn : L[k]? = some n) : W.cell? ⟨A, k, none⟩ = some (.int .i64 n) := by
  have h2 := hk A _ h (by simp) (fun c fz e => by
    have : 2 = 5 := by injection e
    exact absurd this (by decide))
  refine cell_ofK h2 ?_
  simp [hn]
/-- Bytes as a call tells them. -/
def NumR (w W : World) (B : Nat) (va : Option Addr) (vc m : Nat) (cs : List UInt8) : Prop := m = cs.length ∧ NbS w W B va vc cs
set_option maxHeartbeats 2000000 in
theorem numbers_any (B : Nat) (bs : List UInt8) (L : List Int) (sa : Option Addr) (sc A m q : Nat) (w : World) (h : OwnB w B sa sc bs) (hm : m = bs.length) (hq : q = L.length) (hB : B ≤ w.heap.size) (hT : TabB B w) (hA : w.heap[A]? = some (objI64 L)) (hL : ∀ n ∈ L, I64 n) (hlim : bs.length + 22 * L.length ≤ 1000000) :
    Calls Tryd.prog 18 #[.slice sa m sc, .slice (some ⟨A, 0, none⟩) q q] w fun e w' => ∃ va vc m', e = .returned (.slice va m' vc) ∧ Hid (NumR w w' B va vc m' (bs ++ numsB L)) := by
  obtain ⟨iU, hiU, hzU, hsU, hbU⟩ := info_q infoU8
  have iUH : Hid (Tryd.prog.info? 5 = some iU ∧ iU.zero = some (.int .u8 0) ∧ iU.size = 1 ∧ iU.bytes = 1) := ⟨hiU, hzU, hsU, hbU⟩
  have hAH : Hid (w.heap[A]? = some (objI64 L)) := hA
  have hqI : (q : Int) ≤ 1000000 := by omega
  have hqH : Hid (q = L.length) := hq
  have s0 : Hid (m = (bs ++ numsB (L.take 0)).length ∧ NbS w w B sa sc (bs ++ numsB (L.take 0))) := ⟨by simpa [numsB] using hm, by simpa [numsB] using h, Below.refl _ _, Lib.OthersKept.refl _ _ _⟩
  have hlen : Hid (∀ k, k ≤ L.length → (bs ++ numsB (L.take k)).length ≤ bs.length + 22 * k) := fun k hk => by
    have := numsB_len (L.take k) fun n hn => hL n (List.mem_of_mem_take hn)
    rw [List.length_take, Nat.min_eq_left hk] at this
    rw [List.length_append]
    omega
  have hBH : Hid (B ≤ w.heap.size ∧ TabB B w) := ⟨hB, hT⟩
  have hlH : Hid (bs.length + 22 * L.length ≤ 1000000) := hlim
  have hLH : Hid (∀ n ∈ L, I64 n) := hL
  clear h hB hT hA hL hlim hiU hzU hsU hbU hm hq
  go_enter Tryd.func18, Tryd.ntmps18
  go_wp2_with fail
  go_loopw [0, 9] (fun b u wr => ∃ (k : Nat) (va : Option Addr) (vc m : Nat), k ≤ q ∧ b = .slice va m vc ∧ u = .int .i64 (k : Int) ∧ Hid (m = (bs ++ numsB (L.take k)).length ∧ NbS w wr B va vc (bs ++ numsB (L.take k)))) (fun _ u _ => q - (intOf u).toNat)
  case atStart => exact ⟨0, sa, sc, m, Nat.zero_le _, rfl, rfl, s0⟩
  case round =>
    obtain ⟨k, va, vc, m1, hk, rfl, rfl, hs⟩ := hrel
    clear s0
    by_cases hlt : k < q
    · have hkI : (k : Int) < q := by omega
      have hltL : k < L.length := by rw [← hqH.out]; exact hlt
      obtain ⟨n, hn, hnm⟩ := get_lt L k hltL
      have hnw : Hid (I64 n) := hLH.out n hnm
      have xI := ix_i64 A q k hlt
      have cI := i64_cell hAH.out hs.out.2.k hn
      have hle : Hid (m1 ≤ bs.length + 22 * k ∧ k < L.length ∧ bs.length + 22 * L.length ≤ 1000000) := by
        have := hlen.out k (by omega)
        have := hs.out.1
        exact ⟨by omega, hltL, hlH.out⟩
      rcases Nat.eq_zero_or_pos k with hz | hp
      · have d : ¬ ((0 : Int) < (k : Int)) := by omega
        have hnx : Hid (bs ++ numsB (L.take (k + 1)) = (bs ++ numsB (L.take k)) ++ Lib.itoa n) := by
          subst hz
          show _ = _
          rw [List.take_add_one, hn]
          simp [numsB]
        have cA := appint_any B n hnw.out va vc m1 (bs ++ numsB (L.take k)) wr hs.out.2.o hs.out.1 (hs.out.2.sz hBH.out.1) (by have h1 := hs.out.1; have h2 := hle.out; omega) (hBH.out.2.later hs.out.2.b)
        clear hz hn hnm
        go_wp2_with (go_at_call 30; (with_reducible refine cA.mono ?_); rintro e w2 ⟨a', c', m2, rfl, h2⟩; (have s2 : Hid (m2 = (bs ++ numsB (L.take (k + 1))).length ∧ NbS w w2 B a' c' (bs ++ numsB (L.take (k + 1)))) := (by rw [hnx.out]; exact ⟨h2.out.1, hs.out.2.then h2.out.2.1 h2.out.2.2.1 h2.out.2.2.2⟩)); clear cA h2)
        go_roundw
        case rel => exact ⟨k + 1, a', c', m2, by omega, rfl, by go_num, s2⟩
        case measure => simp [intOf]; omega
      · have d : (0 : Int) < (k : Int) := by omega
        have hnx : Hid (bs ++ numsB (L.take (k + 1)) = ((bs ++ numsB (L.take k)) ++ [44]) ++ Lib.itoa n) := by
          show _ = _
          have ht : L.take (k + 1) = L.take k ++ [n] := by rw [List.take_add_one, hn]; rfl
          rw [ht, numsB_snoc _ _ (by intro q; have := congrArg List.length q; rw [List.length_take, Nat.min_eq_left (by omega)] at this; simp at this; omega)]
          simp
        have hsl : Hid (m1 ≤ 1000000 ∧ B ≤ wr.heap.size ∧ ((bs ++ numsB (L.take k)).map bC).length = m1 ∧ (bs ++ numsB (L.take k)).length = m1) := by
          have h2 := hle.out
          exact ⟨by omega, hs.out.2.sz hBH.out.1, by rw [List.length_map]; exact hs.out.1.symm, hs.out.1.symm⟩
        have hsN : Hid (NbS w wr B va vc (bs ++ numsB (L.take k))) := hs.out.2
        clear hs
        generalize bs ++ numsB (L.take k) = cs at *
        have cA : ∀ wx a c, OwnB wx B a c (cs ++ [44]) → Below B w wx → Calls Tryd.prog 30 #[.slice a (m1 + 1) c, .int .i64 n, .int .i64 10] wx _ := fun wx a c ho hb => appint_any B n hnw.out a c (m1 + 1) (cs ++ [44]) wx ho (by rw [List.length_append, hsl.out.2.2.2]; rfl) (by have := hb.size; have := hBH.out.1; omega) (by rw [List.length_append, hsl.out.2.2.2]; have h3 := hle.out; simp; omega) (hBH.out.2.later hb)
        clear hp hn hnm
        go_wp2_with (first
          | (refine wpList_buildSlice rfl 51 5 1 _ rfl (bC 44).toArray iU _ Tryd.underlying51 iUH.out.1 iUH.out.2.1 (by rw [iUH.out.2.2.1]; omega) (by rw [iUH.out.2.2.1]; omega) (by simp only [iUH.out.2.2.1]; kernel_rfl) ?_)
          | (at_builtin; (refine wpList_app1 rfl (.tmp 16) (.tmp 17) 51 rfl B 5 iU _ 1 1 Tryd.underlying51 iUH.out.1 iUH.out.2.1 iUH.out.2.2.1 iUH.out.2.2.2 rfl (by decide) va vc (cs.map bC) (by rw [hsl.out.2.2.1]; rfl) hsN.out.o (bC 44) rfl rfl (bC_one _) (by rw [hsl.out.2.2.1]; have := hsl.out.1; unfold maxLen; omega) (by rw [hsl.out.2.2.1]; have := hsl.out.1; omega) hsl.out.2.1 ?_); intro ra rc w3 hg; rw [hsl.out.2.2.1]; (have s3 : Hid (NbS w w3 B ra rc (cs ++ [44])) := hsN.out.then (by rw [OwnB, List.map_append]; exact hg.ow) (hg.be.mono (by have := hsl.out.2.1; omega)) (okp_grown hsN.out.o hg)); clear hg)
          | (go_at_call 30; (refine (cA _ ra rc s3.out.o s3.out.b).mono ?_); rintro e w2 ⟨a', c', m2, rfl, h2⟩; (have s2 : Hid (m2 = (bs ++ numsB (L.take (k + 1))).length ∧ NbS w w2 B a' c' (bs ++ numsB (L.take (k + 1)))) := (by rw [hnx.out]; exact ⟨h2.out.1, s3.out.then h2.out.2.1 h2.out.2.2.1 h2.out.2.2.2⟩)); clear cA h2))
        go_roundw
        case rel => exact ⟨k + 1, a', c', m2, by omega, rfl, by go_num, s2⟩
        case measure => simp [intOf]; omega
    · have hkI : ¬ ((k : Int) < q) := by omega
      have hs2 : Hid (NumR w wr B va vc m1 (bs ++ numsB L)) := by
        have h2 := hs.out
        rw [List.take_of_length_le (by have := hqH.out; omega)] at h2
        exact h2
      clear hs
      go_wp2
      go_ret
      exact ⟨va, vc, m1, rfl, hs2⟩
end Go.Proofs.YtkadlopcomjonaaDoor.pg
/- A trace laid in another order that keeps what happens before what: what happens before what, and its canonical order, are as they were. -/
namespace Go.Proofs.YtkadlopcomjonaaDoor.pg
set_option linter.unusedVariables false
/-- What stands at a place of an order. -/
def nth (L : List Nat) (i : Nat) : Nat := L.getD i 0
theorem nth_at {L : List Nat} {i : Nat} (h : i < L.length) : L[i]? = some (nth L i) := by
  unfold nth
  rw [List.getD_eq_getElem?_getD, List.getElem?_eq_getElem h]; rfl
theorem nth_of {L : List Nat} {i x : Nat} (h : L[i]? = some x) : nth L i = x := by
  unfold nth
  rw [List.getD_eq_getElem?_getD, h]; rfl
/-- A whole order that keeps what happens before what. -/
structure Ways (B : Nat → Nat → Bool) (n : Nat) (L : List Nat) : Prop where
  lin : LinP B n L
  len : L.length = n
section
variable {B : Nat → Nat → Bool} {n : Nat} {L : List Nat} (hL : Ways B n L)
include hL
theorem Ways.lt {i : Nat} (h : i < n) : nth L i < n := hL.lin.lt _ (List.mem_of_getElem? (nth_at (by rw [hL.len]; exact h)))
theorem Ways.inj {i j : Nat} (hi : i < n) (hj : j < n) (e : nth L i = nth L j) : i = j := by
  have h1 := nth_at (L := L) (i := i) (by rw [hL.len]; exact hi)
  have h2 := nth_at (L := L) (i := j) (by rw [hL.len]; exact hj)
  rw [e, ← h2] at h1
  exact (List.getElem?_inj (by rw [hL.len]; exact hi) hL.lin.nodup).mp h1
theorem Ways.all {x : Nat} (h : x < n) : ∃ i, i < n ∧ nth L i = x := by
  have hm : x ∈ L := by
    apply Classical.byContradiction
    intro q
    have h1 := cnt_memS L hL.lin.nodup hL.lin.lt
    rw [hL.len] at h1
    have h2 := cnt_lt (p := memS L) (q := fun _ => true) (n := n) (m := x) (fun _ _ _ => rfl) h rfl (by unfold memS; exact decide_eq_false q)
    have := cnt_le (fun _ => true) n
    omega
  obtain ⟨i, hi, e⟩ := List.getElem_of_mem hm
  exact ⟨i, by rw [← hL.len]; exact hi, nth_of (by rw [← e]; exact List.getElem?_eq_getElem hi)⟩
theorem Ways.take {k i : Nat} (hk : k ≤ n) (hi : i < n) : nth L i ∈ L.take k ↔ i < k := by
  constructor
  · intro h
    obtain ⟨j, hj⟩ := List.getElem?_of_mem h
    have hjk : j < k := by
      have := (List.getElem?_eq_some_iff.mp hj).1
      rw [List.length_take] at this
      omega
    rw [List.getElem?_take_of_lt hjk] at hj
    have := hL.inj (i := j) (j := i) (by omega) hi (nth_of hj)
    omega
  · intro h
    exact List.mem_iff_getElem?.mpr ⟨i, by rw [List.getElem?_take_of_lt h]; exact nth_at (by rw [hL.len]; exact hi)⟩
/-- What stands ahead of what in the trace stands so in the order. -/
theorem Ways.up {d : Nat → Nat → Bool} (hB : Tells d B) {i j : Nat} (hi : i < n) (hj : j < n) (h : HB d (nth L i) (nth L j)) : i < j := by
  have h1 := (freeB_iff.mp (hL.lin j _ (nth_at (by rw [hL.len]; exact hj))).2).2 (nth L i) h.lt ((hB _ _).mpr h)
  exact (hL.take (by omega) hi).mp (of_decide_eq_true h1)
variable {d d' : Nat → Nat → Bool} (hB : Tells d B) (hs : ∀ i j, d i j = d j i) (hd : ∀ i j, i < n → j < n → d' i j = d (nth L i) (nth L j))
include hB hs hd
theorem Ways.hb {i j : Nat} (h : HB d' i j) : j < n → HB d (nth L i) (nth L j) := by
  induction h with
  | @one a b hab q =>
    intro hb
    rw [hd a b (by omega) hb] at q
    rcases Nat.lt_trichotomy (nth L a) (nth L b) with c | c | c
    · exact .one c q
    · have := hL.inj (by omega) hb c; omega
    · have := hL.up hB hb (by omega) (.one c (by rw [hs]; exact q)); omega
  | @«then» a b c h1 h2 i1 i2 =>
    intro hc
    have := h2.lt
    exact .then (i1 (by omega)) (i2 hc)
theorem Ways.bh {x y : Nat} (h : HB d x y) : y < n → ∀ i j, i < n → j < n → nth L i = x → nth L j = y → HB d' i j := by
  have _ := hs
  induction h with
  | @one a b hab q =>
    intro hb i j hi hj e1 e2
    have := hL.up hB hi hj (by rw [e1, e2]; exact .one hab q)
    exact .one this (by rw [hd i j hi hj, e1, e2]; exact q)
  | @«then» a b c h1 h2 i1 i2 =>
    intro hc i j hi hj e1 e2
    have hbc := h2.lt
    obtain ⟨k, hk, e3⟩ := hL.all (show b < n by omega)
    exact .then (i1 (by omega) i k hi hk e1 e3) (i2 hc k j hk hj e3 e2)
theorem Ways.same {B' : Nat → Nat → Bool} (hB' : Tells d' B') {i j : Nat} (hi : i < n) (hj : j < n) : B' i j = B (nth L i) (nth L j) := by
  rw [Bool.eq_iff_iff, hB' i j, hB]
  exact ⟨fun h => hL.hb hB hs hd h hj, fun h => hL.bh hB hs hd h (hL.lt hj) i j hi hj rfl rfl⟩
/-- What may come next in the new trace is what might in the old one. -/
theorem Ways.free {B' : Nat → Nat → Bool} (hB' : Tells d' B') {S S' : Nat → Bool} (hS : ∀ i, i < n → S' i = S (nth L i)) {i : Nat} (hi : i < n) : freeB B' S' i = freeB B S (nth L i) := by
  rw [Bool.eq_iff_iff, freeB_iff, freeB_iff, hS i hi]
  constructor
  · rintro ⟨h1, h2⟩
    refine ⟨h1, fun j hj hb => ?_⟩
    have := hL.lt hi
    obtain ⟨k, hk, e⟩ := hL.all (show j < n by omega)
    subst e
    have hb' : B' k i = true := by rw [hL.same hB hs hd hB' hk hi]; exact hb
    have h3 := h2 k ((hB' _ _).mp hb').lt hb'
    rw [hS k hk] at h3
    exact h3
  · rintro ⟨h1, h2⟩
    refine ⟨h1, fun j hj hb => ?_⟩
    rw [hL.same hB hs hd hB' (by omega) hi] at hb
    rw [hS j (by omega)]
    exact h2 _ ((hB _ _).mp hb).lt hb
variable {g g' : Nat → Nat} (hg : ∀ i, i < n → g' i = g (nth L i)) (ho : Ord d g n)
include hg ho
/-- The canonical order of the new trace, told by the old one's places, is the canonical order of the old one. -/
theorem Ways.canon {B' : Nat → Nat → Bool} (hB' : Tells d' B') {M : List Nat} (hM : OrdL B' g' n M) : OrdL B g n (M.map (nth L)) := by
  intro k x hx
  rw [List.getElem?_map] at hx
  cases hy : M[k]? with
  | none => rw [hy] at hx; simp at hx
  | some y =>
    rw [hy] at hx
    simp only [Option.map_some, Option.some.injEq] at hx
    subst hx
    have p := hM k y hy
    have hlt : ∀ z ∈ M, z < n := hM.lin.lt
    have hS : ∀ i, i < n → memS (M.take k) i = memS ((M.map (nth L)).take k) (nth L i) := fun i hi => by
      rw [← List.map_take]
      unfold memS
      rw [Bool.eq_iff_iff, decide_eq_true_iff, decide_eq_true_iff, List.mem_map]
      constructor
      · intro h; exact ⟨i, h, rfl⟩
      · rintro ⟨j, h1, h2⟩
        rw [← hL.inj (hlt j (List.mem_of_mem_take h1)) hi h2]
        exact h1
    have hf : ∀ i, i < n → freeB B' (memS (M.take k)) i = freeB B (memS ((M.map (nth L)).take k)) (nth L i) := fun i hi => hL.free hB hs hd hB' hS hi
    refine ⟨hL.lt p.lt, by rw [← hf y p.lt]; exact p.fr, fun z hz hz2 => ?_, fun z hz hz2 e => ?_⟩
    · obtain ⟨i, hi, rfl⟩ := hL.all hz
      rw [← hg y p.lt, ← hg i hi]
      exact p.lo i hi (by rw [hf i hi]; exact hz2)
    · obtain ⟨i, hi, rfl⟩ := hL.all hz
      have h1 := p.fi i hi (by rw [hf i hi]; exact hz2) (by rw [hg y p.lt, hg i hi]; exact e)
      rcases Nat.lt_or_ge (nth L i) (nth L y) with c | c
      · have := hL.up hB hi p.lt (.one c (ho _ _ c (hL.lt p.lt) e))
        omega
      · exact c
end
theorem ord_ways {B : Nat → Nat → Bool} {g : Nat → Nat} {n : Nat} {L : List Nat} (h : OrdL B g n L) (hl : L.length = n) : Ways B n L := ⟨h.lin, hl⟩
/-- Laid in its canonical order a trace has the order 0, 1, 2 .. -/
theorem canon_once {d d' B B' : Nat → Nat → Bool} (hB : Tells d B) (hB' : Tells d' B') {g g' : Nat → Nat} {n : Nat} {L M : List Nat} (hL : OrdL B g n L) (hl : L.length = n) (hs : ∀ i j, d i j = d j i) (hd : ∀ i j, i < n → j < n → d' i j = d (nth L i) (nth L j)) (hg : ∀ i, i < n → g' i = g (nth L i)) (ho : Ord d g n) (hM : OrdL B' g' n M) (hm : M.length = n) : ∀ i, i < n → nth M i = i := by
  intro i hi
  have hw := ord_ways hL hl
  have h1 := (hw.canon hB hs hd hg ho hB' hM).same hL (by rw [List.length_map, hm, hl])
  have h2 := congrArg (·[i]?) h1
  simp only [List.getElem?_map, nth_at (L := M) (i := i) (by omega), nth_at (L := L) (i := i) (by omega), Option.map_some, Option.some.injEq] at h2
  exact hw.inj ((ord_ways hM hm).lt hi) hi h2
end Go.Proofs.YtkadlopcomjonaaDoor.pg
/- A trace laid in another order: what it is then. -/
namespace Go.Proofs.YtkadlopcomjonaaDoor.pg
set_option linter.unusedVariables false
theorem dpf_comm (l : List Ev) (i j : Nat) : dpf l i j = dpf l j i := clash_comm _ _
/-- The events in an order. -/
def laidE (l : List Ev) (L : List Nat) : List Ev := L.map (evf l)
theorem arr_laid (l : List Ev) (L : List Nat) : arrE l (L.map fun x : Nat => (x : Int)) = laidE l L := by
  unfold arrE laidE
  rw [List.map_map]
  rfl
theorem laid_len (l : List Ev) (L : List Nat) : (laidE l L).length = L.length := by simp [laidE]
theorem laid_evf {l : List Ev} {L : List Nat} {i : Nat} (h : i < L.length) : evf (laidE l L) i = evf l (nth L i) := by
  have h1 := evf_at (l := laidE l L) (i := i) (by rw [laid_len]; exact h)
  unfold laidE at h1 ⊢
  rw [List.getElem?_map, nth_at h] at h1
  simpa using h1.symm
theorem laid_dpf {l : List Ev} {L : List Nat} {i j : Nat} (hi : i < L.length) (hj : j < L.length) : dpf (laidE l L) i j = dpf l (nth L i) (nth L j) := by
  unfold dpf
  rw [laid_evf hi, laid_evf hj]
theorem laid_gof {l : List Ev} {L : List Nat} {i : Nat} (hi : i < L.length) : gof (laidE l L) i = gof l (nth L i) := by
  unfold gof
  rw [laid_evf hi]
theorem laid_all {l : List Ev} {L : List Nat} {P : Ev → Prop} (h : ∀ x ∈ l, P x) (hL : ∀ x ∈ L, x < l.length) : ∀ x ∈ laidE l L, P x := by
  intro x hx
  obtain ⟨i, hi, rfl⟩ := List.mem_map.mp hx
  exact h _ (List.mem_of_getElem? (evf_at (hL i hi)))
theorem laid_id {l : List Ev} {M : List Nat} (hm : M.length = l.length) (h : ∀ i, i < l.length → nth M i = i) : laidE l M = l := by
  apply List.ext_getElem?
  intro i
  by_cases c : i < l.length
  · unfold laidE
    rw [List.getElem?_map, nth_at (by omega), h i c, evf_at c]
    rfl
  · rw [List.getElem?_eq_none (by rw [laid_len]; omega), List.getElem?_eq_none (by omega)]
section
variable {l : List Ev} (hrt : ∀ x ∈ l, rightP x) {B : Nat → Nat → Bool} (hB : Tells (dpf l) B)
include hrt hB
/-- Laid in any order that keeps what happens before what, a trace has the same canonical events. -/
theorem canon_laid {S L M : List Nat} (hS : Ways B l.length S) (hL : OrdL B (gof l) l.length L) (hl : L.length = l.length) {B' : Nat → Nat → Bool} (hB' : Tells (dpf (laidE l S)) B') (hM : OrdL B' (gof (laidE l S)) l.length M) (hm : M.length = l.length) : laidE (laidE l S) M = laidE l L := by
  have h1 := (hS.canon hB (fun i j => dpf_comm l i j) (fun i j hi hj => laid_dpf (by rw [hS.len]; exact hi) (by rw [hS.len]; exact hj)) (fun i hi => laid_gof (by rw [hS.len]; exact hi)) (ord_ok hrt) hB' hM).same hL (by rw [List.length_map, hm, hl])
  rw [← h1]
  unfold laidE
  rw [List.map_map]
  refine List.map_congr_left fun x hx => ?_
  exact laid_evf (by rw [hS.len]; exact hM.lin.lt x hx)
theorem once_laid {L M : List Nat} (hL : OrdL B (gof l) l.length L) (hl : L.length = l.length) {B' : Nat → Nat → Bool} (hB' : Tells (dpf (laidE l L)) B') (hM : OrdL B' (gof (laidE l L)) l.length M) (hm : M.length = l.length) : ∀ i, i < l.length → nth M i = i :=
  canon_once hB hB' hL hl (fun i j => dpf_comm l i j) (fun i j hi hj => laid_dpf (by rw [hl]; exact hi) (by rw [hl]; exact hj)) (fun i hi => laid_gof (by rw [hl]; exact hi)) (ord_ok hrt) hM hm
end
end Go.Proofs.YtkadlopcomjonaaDoor.pg
