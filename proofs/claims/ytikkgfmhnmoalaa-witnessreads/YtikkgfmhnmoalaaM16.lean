/- A witness's reader: its head, its picks, its end. -/
import Derived.Test.YtikkgfmhnmoalaaM15
namespace Go.Proofs.Ytikkgfmhnmoalaa.pg
open Go.ChangeShapes Go.WideShapes Go.ChangeAt Go.RowKit
set_option linter.unusedVariables false
set_option linter.unusedSimpArgs false
set_option maxRecDepth 100000
section
variable {w0 W : World} {r q : Nat} {ba : Option Addr} {bc n : Nat} {f : Nat → Nat} {a k : Nat}
abbrev headB : List (Int × Int) := [(1, 5), (0, 64), (0, 64), (0, 64), (0, 64), (0, 255), (0, 255), (0, 256), (0, 4096), (0, 65536)]
set_option maxHeartbeats 2000000 in
theorem whead_any (s : Int) (h : RdW w0 W r q ba bc n f (fillW s []) none 0 a k) (R : RL) (hR : rdL f n headB a k = R) : Calls Try.prog 27 #[.pointer (some ⟨r, 0, none⟩)] W fun e w' => e = .returned (.int .i64 R.e) ∧ ∃ vs, RdW w0 w' r q ba bc n f (fillW s vs) none 0 R.at_ R.k ∧ (R.e = 0 → vs = R.vs) := by
  have cH := headOf_any r 1 W
  have hrl := (Array.getElem?_eq_some_iff.mp h.rb).1
  have hql := h.d.lt
  have cE : ∀ w1, w1.heap[W.heap.size]? = some (objNm (headL r 1)) → Below W.heap.size W w1 → Calls Try.prog 49 #[.pointer (some ⟨r, 0, none⟩), .slice (some ⟨W.heap.size, 0, none⟩) 10 10] w1 _ := fun w1 h1 h2 => by
    have hw : OwnL w1 W.heap.size 57 3 (some ⟨W.heap.size, 0, none⟩) 10 ((headL r 1).map nmC) := ⟨rfl, .inr ⟨W.heap.size, 10, _, rfl, Nat.le_refl _, h1, by show 10 ≤ 10; decide, by unfold maxLen; decide, rfl, rfl⟩⟩
    exact each_any (head_rds w0 r q ba bc n f s W.heap.size (by omega) (by omega)) a k w1 ⟨h.later h2, own_rows hw (nm_len _)⟩ R hR
  clear h hR
  go_enter Try.func27, Try.ntmps27
  go_wp2_with (first
    | (go_at_call 40; (with_reducible refine cH.mono ?_); rintro e w1 ⟨rfl, hh1, hb1, hz1⟩)
    | (go_at_call 49; (with_reducible refine (cE _ hh1 hb1).mono ?_); rintro e w2 ⟨rfl, vs, hv1, hv2⟩))
  go_ret
  exact ⟨rfl, vs, hv1.1, hv2⟩
set_option maxHeartbeats 2000000 in
theorem wend_any {M : Wi} {pa : Option Addr} {pc : Nat} (h : RdW w0 W r q ba bc n f M pa pc a k) (hn : n ≤ 65536) : Calls Try.prog 29 #[.pointer (some ⟨r, 0, none⟩)] W fun e w' => e = .returned (.int .i64 (octet.endOf n k)) ∧ RdW w0 w' r q ba bc n f M pa pc k k := by
  have h2 := h.setA k
  have c0 := h.cell 0 _ rfl
  have c13 := h.cell 13 _ rfl
  have z13 := h.fz 13
  have cA := octet.at_any q _ (k : Int) W h.d
  obtain ⟨V, hV⟩ : ∃ V, V = W.setCell ⟨r, 13, none⟩ (.int .i64 (k : Int)) := ⟨_, rfl⟩
  have d0 : (W.setCell ⟨r, 13, none⟩ (.int .i64 (k : Int))).cell? ⟨r, 0, none⟩ = some (.pointer (some ⟨q, 0, none⟩)) := h2.cell 0 _ rfl
  rw [← hV] at h2
  have cE := octet.end_any q ba n bc k V h2.d h2.kn (by omega)
  have hVH : Hid (V = W.setCell ⟨r, 13, none⟩ (.int .i64 (k : Int))) := hV
  have h2H : Hid _ := h2
  clear h h2 hV
  go_enter Try.func29, Try.ntmps29
  go_wp2_with (first
    | (go_at_call 50; (with_reducible refine cA.mono ?_); rintro e w' ⟨rfl, hw⟩; rw [hw]; clear hw w')
    | (go_at_call 51; rw [← hVH.out]; (with_reducible refine cE.mono ?_); rintro e w' ⟨rfl, hw⟩; rw [hw]; clear hw w'))
  go_ret
  exact ⟨rfl, h2H.out⟩
end
end Go.Proofs.Ytikkgfmhnmoalaa.pg
/- A witness's reader: its picks. -/
namespace Go.Proofs.Ytikkgfmhnmoalaa.pg
open Go.ChangeShapes Go.WideShapes Go.ChangeAt Go.RowKit
set_option linter.unusedVariables false
set_option linter.unusedSimpArgs false
set_option maxRecDepth 100000
abbrev pairB : List (Int × Int) := [(0, 5), (0, 4)]
def repB (c : Nat) : List (Int × Int) := (List.replicate c pairB).flatten
theorem repB_more (c : Nat) : repB (c + 1) = pairB ++ repB c := by unfold repB; rw [List.replicate_succ, List.flatten_cons]
/-- How many picks, and the picks. -/
def rdP (f : Nat → Nat) (n a k : Nat) : RL := if (rdL f n [(0, 256)] a k).e = 0 then rdL f n (repB ((rdL f n [(0, 256)] a k).vs.getD 0 0).toNat) (rdL f n [(0, 256)] a k).at_ (rdL f n [(0, 256)] a k).k else rdL f n [(0, 256)] a k
theorem rdL_len (f : Nat → Nat) (n : Nat) : ∀ (B : List (Int × Int)) (a k : Nat), (rdL f n B a k).e = 0 → (rdL f n B a k).vs.length = B.length
  | [], a, k, _ => rfl
  | b :: t, a, k, he => by
    obtain ⟨X, E, R, h⟩ : ∃ X E R, octet.gotten f n (k : Int) = (X, E, R) := ⟨_, _, _, rfl⟩
    by_cases hR : R = 0
    · subst hR
      by_cases hb : b.1 ≤ capI X ∧ capI X ≤ b.2
      · rw [rdL_ok h hb] at he ⊢
        dsimp only at he ⊢
        rw [List.length_cons, List.length_cons, rdL_len f n t _ _ he]
      · rw [rdL_bad h hb] at he; cases he
    · rw [rdL_err h hR] at he; exact (hR he).elim
theorem rd_one {f : Nat → Nat} {n a k : Nat} {b : Int × Int} (he : (rdL f n [b] a k).e = 0) : ∃ v, (rdL f n [b] a k).vs = [v] ∧ b.1 ≤ v ∧ v ≤ b.2 := by
  obtain ⟨X, E, R, h⟩ : ∃ X E R, octet.gotten f n (k : Int) = (X, E, R) := ⟨_, _, _, rfl⟩
  by_cases hR : R = 0
  · subst hR
    by_cases hb : b.1 ≤ capI X ∧ capI X ≤ b.2
    · rw [rdL_ok h hb]; exact ⟨_, rfl, hb⟩
    · rw [rdL_bad h hb] at he; cases he
  · rw [rdL_err h hR] at he; exact (hR he).elim
theorem infoPk : (Try.prog.info? 66).map (fun i => (i.zero, i.size, i.bytes)) = some (some (.agg #[.int .i64 0, .int .i64 0]), 2, 16) := by kernel_rfl
theorem pk_len (E : List (Int × Int)) : ∀ row ∈ E.map pkC, row.length = 2 := by intro r hr; obtain ⟨x, _, rfl⟩ := List.mem_map.mp hr; rfl
theorem pk_one (E : List (Int × Int)) : ∀ row ∈ E.map pkC, ∀ u ∈ row, u.oneCell' = true := by
  intro r hr u hu
  obtain ⟨x, _, rfl⟩ := List.mem_map.mp hr
  simp only [List.mem_cons, List.not_mem_nil, or_false] at hu
  rcases hu with rfl | rfl <;> rfl
theorem rows_pk {W : World} {A : Nat} {x : Int × Int} (h : W.heap[A]? = some (.cells (pkC x).toArray 66)) : Rows W 2 (some ⟨A, 0, none⟩) 1 [pkC x] := by
  refine ⟨by simp, by decide, by simp, .inr ⟨A, 0, rfl, (Array.getElem?_eq_some_iff.mp h).1, fun i row hi => ?_⟩⟩
  obtain rfl : i = 0 := by have := (List.getElem?_eq_some_iff.mp hi).1; simp at this; exact this
  simp at hi
  subst hi
  refine ⟨rfl, fun j u hj => ?_⟩
  rw [cell_of_row W A _ _ _ _ h]
  simpa using hj
section
variable {w0 W : World} {r q : Nat} {ba : Option Addr} {bc n : Nat} {f : Nat → Nat} {a k : Nat} {M : Wi}
abbrev CnS (w0 : World) (r q : Nat) (ba : Option Addr) (bc n : Nat) (f : Nat → Nat) (M : Wi) (m A : Nat) (vs : List Int) (a k : Nat) (W : World) : Prop := RdW w0 W r q ba bc n f M none 0 a k ∧ W.heap[m]? = some (.cells [Value.int .i64 (vs.getD 0 0)].toArray 3) ∧ Rows W 3 (some ⟨A, 0, none⟩) 1 ([((⟨m, 0, none⟩, 0, 256) : Addr × Int × Int)].map nmC)
abbrev PrS (w0 : World) (r q : Nat) (ba : Option Addr) (bc n : Nat) (f : Nat → Nat) (M : Wi) (pa : Option Addr) (pc p A : Nat) (vs : List Int) (a k : Nat) (W : World) : Prop := RdW w0 W r q ba bc n f M pa pc a k ∧ W.heap[p]? = some (.cells [Value.int .i64 (vs.getD 0 0), .int .i64 (vs.getD 1 0)].toArray 66) ∧ Rows W 3 (some ⟨A, 0, none⟩) 2 ([((⟨p, 0, none⟩, 0, 5) : Addr × Int × Int), (⟨p, 1, none⟩, 0, 4)].map nmC)
theorem cn_rds (m A : Nat) (hr : A ≠ r) (hq : A ≠ q) (hA : A ≠ m) (t1 : m ≠ r) (t2 : m ≠ q) (t3 : m ∉ blk ba) (t5 : w0.heap.size ≤ m) : Rds r q ba bc n f (some ⟨A, 0, none⟩) 1 [(⟨m, 0, none⟩, 0, 256)] (CnS w0 r q ba bc n f M m A) :=
  own_rds w0 r q ba bc n f M none 0 A m 3 [(⟨m, 0, none⟩, 0, 256)] (fun vs => [Value.int .i64 (vs.getD 0 0)]) hr hq hA t1 t2 t3 (by simp [blk]) t5 (fun vs x hx => by
    match vs, hx with
    | [], hx => simp at hx; subst hx; exact ⟨rfl, by decide, fun v => rfl⟩
    | _ :: t, hx => simp at hx)
theorem pr_rds {pa : Option Addr} {pc : Nat} (p A : Nat) (hr : A ≠ r) (hq : A ≠ q) (hA : A ≠ p) (t1 : p ≠ r) (t2 : p ≠ q) (t3 : p ∉ blk ba) (t4 : p ∉ blk pa) (t5 : w0.heap.size ≤ p) : Rds r q ba bc n f (some ⟨A, 0, none⟩) 2 [(⟨p, 0, none⟩, 0, 5), (⟨p, 1, none⟩, 0, 4)] (PrS w0 r q ba bc n f M pa pc p A) :=
  own_rds w0 r q ba bc n f M pa pc A p 66 [(⟨p, 0, none⟩, 0, 5), (⟨p, 1, none⟩, 0, 4)] (fun vs => [Value.int .i64 (vs.getD 0 0), .int .i64 (vs.getD 1 0)]) hr hq hA t1 t2 t3 t4 t5 (fun vs x hx => by
    match vs, hx with
    | [], hx => simp at hx; subst hx; exact ⟨rfl, by simp, fun v => rfl⟩
    | [_], hx => simp at hx; subst hx; exact ⟨rfl, by simp, fun v => rfl⟩
    | _ :: _ :: t, hx => simp at hx)
theorem cell_one {W : World} {m : Nat} {vs : List Int} {c : Int} (h : W.heap[m]? = some (.cells [Value.int .i64 (vs.getD 0 0)].toArray 3)) (e : vs = [c]) : W.cell? ⟨m, 0, none⟩ = some (.int .i64 c) := by
  subst e
  exact (cell_of_row W m 0 _ _ _ h).trans rfl
set_option maxHeartbeats 4000000 in
theorem wpicks_any (h : RdW w0 W r q ba bc n f M none 0 a k) (hM : M.pk = []) (R : RL) (hR : rdP f n a k = R) : Calls Try.prog 28 #[.pointer (some ⟨r, 0, none⟩)] W fun e w' => e = .returned (.int .i64 R.e) ∧ ∃ pk pa pc, RdW w0 w' r q ba bc n f { M with pk := pk } pa pc R.at_ R.k ∧ (R.e = 0 → pk.flatMap (fun p => [p.1, p.2]) = R.vs) := by
  obtain ⟨iP, hiP, hzP, hsP, hbP⟩ := info_of infoPk
  have hrl := (Array.getElem?_eq_some_iff.mp h.rb).1
  have hql := h.d.lt
  have hw0 := h.be.size
  obtain ⟨m, hm⟩ : ∃ m, m = W.heap.size := ⟨_, rfl⟩
  obtain ⟨W1, hW1⟩ : ∃ W1, W1 = W.alloc (.cells #[.int .i64 0] 3) := ⟨_, rfl⟩
  have b1 : Below W.heap.size W W1 := by rw [hW1]; exact boxed _ _
  have m1 : W1.heap[m]? = some (.cells #[.int .i64 0] 3) := by rw [hW1, hm]; exact heap_alloc_new _ _
  have z1 : W1.heap.size = m + 1 := by rw [hW1, hm]; exact World.size_alloc _ _
  have cC : Calls Try.prog 41 #[.pointer (some ⟨m, 0, none⟩)] W1 _ := countOf_any _ W1
  obtain ⟨R1, hR1⟩ : ∃ R1, rdL f n [(0, 256)] a k = R1 := ⟨_, rfl⟩
  have cE : ∀ w2, Below W1.heap.size W1 w2 → Calls Try.prog 49 #[.pointer (some ⟨r, 0, none⟩), .slice (some ⟨w2.heap.size, 0, none⟩) 1 1] (w2.alloc (.cells #[.pointer (some ⟨m, 0, none⟩), .int .i64 0, .int .i64 256] 57)) fun e w' => e = .returned (.int .i64 R1.e) ∧ ∃ vs, CnS w0 r q ba bc n f M m w2.heap.size vs R1.at_ R1.k w' ∧ (R1.e = 0 → vs = R1.vs) := fun w2 hb => by
    have hsz := hb.size
    have hb3 : Below W1.heap.size W1 (w2.alloc (.cells #[.pointer (some ⟨m, 0, none⟩), .int .i64 0, .int .i64 256] 57)) := bthen hb (boxed _ _)
    refine each_any (cn_rds m w2.heap.size (by omega) (by omega) (by omega) (by omega) (by omega) (fun q => by have := h.bz m q; omega) (by omega)) a k _ ⟨h.later (b1.trans (hb3.mono (by omega))), (hb3.block m (by omega)).trans m1, rows_box (x := (⟨m, 0, none⟩, 0, 256)) (heap_alloc_new _ _)⟩ R1 hR1
  have hRR : R = if R1.e = 0 then rdL f n (repB (R1.vs.getD 0 0).toNat) R1.at_ R1.k else R1 := by rw [← hR]; unfold rdP; rw [hR1]
  have hRRH : Hid _ := hRR
  have hMH : Hid (M.pk = []) := hM
  have hv1 : Hid (R1.e = 0 → ∃ v, R1.vs = [v] ∧ 0 ≤ v ∧ v ≤ 256) := fun he => by rw [← hR1] at he ⊢; exact rd_one he
  have hbz : Hid (∀ b ∈ blk ba, b < m) := fun b hb => by rw [hm]; exact h.bz b hb
  have hW1H : Hid (W1 = W.alloc (.cells #[.int .i64 0] 3)) := hW1
  have hmr : Hid (r < m ∧ q < m ∧ w0.heap.size ≤ m) := ⟨by omega, by omega, by omega⟩
  clear h hR hR1 hM hRR hrl hql b1 m1 hW1 z1
  subst hm
  by_cases he1 : R1.e = 0
  · obtain ⟨v, hv3, hv4, hv5⟩ := hv1.out he1
    obtain ⟨c, hc⟩ : ∃ c : Nat, v = (c : Int) := ⟨v.toNat, by omega⟩
    have hc256 : (c : Int) ≤ 256 := by omega
    have hR2 : Hid (R = rdL f n (repB c) R1.at_ R1.k) := by
      have := hRRH.out
      rw [if_pos he1, hv3] at this
      show R = _
      rw [this, hc]
      rfl
    have hvs : Hid (R1.vs = [(c : Int)]) := by rw [hc] at hv3; exact hv3
    rw [he1] at cE
    clear hRRH hv1 hv3 hv4 hv5 hc
    clear v
    go_enter Try.func28, Try.ntmps28
    go_wp2_with (first
      | (go_at_call 41; rw [← hW1H.out]; (with_reducible refine cC.mono ?_); rintro e w2 ⟨rfl, hb2⟩)
      | (go_at_call 49; (with_reducible refine (cE _ hb2).mono ?_); rintro e w3 ⟨rfl, vs, hv, hv2⟩; (have hm3 : w3.cell? ⟨W.heap.size, 0, none⟩ = some (.int .i64 (c : Int)) := cell_one hv.2.1 ((hv2 trivial).trans hvs.out)); (have hvH : Hid (RdW w0 w3 r q ba bc n f M none 0 R1.at_ R1.k) := hv.1); clear hv hv2))
    have hs0 : Hid (RdW w0 w3 r q ba bc n f { M with pk := [] } none 0 R1.at_ R1.k) := by
      have e : { M with pk := [] } = M := by cases M; simp only at hMH; rw [hMH.out]
      rw [e]; exact hvH.out
    clear hvH hm3 cE cC hb2 hW1H hMH
    go_loopw [15] (fun u wr => ∃ (j a k : Nat) (pk : List (Int × Int)) (pa : Option Addr) (pc : Nat), j ≤ c ∧ u = .int .i64 (j : Int) ∧ Hid (RdW w0 wr r q ba bc n f { M with pk := pk } pa pc a k ∧ (∀ b ∈ blk ba, b ∉ blk pa) ∧ pk.length = j ∧ R.e = (rdL f n (repB (c - j)) a k).e ∧ R.at_ = (rdL f n (repB (c - j)) a k).at_ ∧ R.k = (rdL f n (repB (c - j)) a k).k ∧ (R.e = 0 → R.vs = pk.flatMap (fun p => [p.1, p.2]) ++ (rdL f n (repB (c - j)) a k).vs))) (fun u _ => c - (intOf u).toNat)
    case atStart => exact ⟨0, R1.at_, R1.k, [], none, 0, Nat.zero_le _, rfl, hs0.out, by simp [blk], rfl, by rw [hR2.out]; exact ⟨rfl, rfl, rfl, fun _ => rfl⟩⟩
    case round =>
      clear hs0 hR2
      obtain ⟨j, a, k, pk, pa, pc, hj, rfl, hs⟩ := hrel
      by_cases hlt : j < c
      · have hjI : (j : Int) < (c : Int) := by omega
        obtain ⟨h0, hba, hpkl, q3, q4, q5, q6⟩ := hs.out
        have hrl := (Array.getElem?_eq_some_iff.mp h0.rb).1
        have hql := h0.d.lt
        have hw0 := h0.be.size
        obtain ⟨V, hV⟩ : ∃ V, V = wr.alloc (.cells #[.int .i64 0, .int .i64 0] 66) := ⟨_, rfl⟩
        obtain ⟨Pk, hPk⟩ : ∃ Pk, Pk = wr.heap.size := ⟨_, rfl⟩
        have hbV : Below wr.heap.size wr V := by rw [hV]; exact boxed _ _
        have zV : V.heap.size = Pk + 1 := by rw [hV, hPk]; exact World.size_alloc _ _
        have hPB : V.heap[Pk]? = some (.cells #[.int .i64 0, .int .i64 0] 66) := by rw [hV, hPk]; exact heap_alloc_new _ _
        have cP := pairOf_any Pk 0 V
        rw [zV] at cP
        obtain ⟨R2, hR2⟩ : ∃ R2, rdL f n pairB a k = R2 := ⟨_, rfl⟩
        have cE2 : ∀ w5, w5.heap[Pk + 1]? = some (objNm [(⟨Pk, 0, none⟩, 0, 5), (⟨Pk, 0 + 1, none⟩, 0, 4)]) → Below (Pk + 1) V w5 → Calls Try.prog 49 #[.pointer (some ⟨r, 0, none⟩), .slice (some ⟨Pk + 1, 0, none⟩) 2 2] w5 fun e w' => e = .returned (.int .i64 R2.e) ∧ ∃ vs, PrS w0 r q ba bc n f { M with pk := pk } pa pc Pk (Pk + 1) vs R2.at_ R2.k w' ∧ (R2.e = 0 → vs = R2.vs) := fun w5 h5 hb5 => by
          have hw : OwnL w5 (Pk + 1) 57 3 (some ⟨Pk + 1, 0, none⟩) 2 ([((⟨Pk, 0, none⟩, 0, 5) : Addr × Int × Int), (⟨Pk, 1, none⟩, 0, 4)].map nmC) := ⟨rfl, .inr ⟨Pk + 1, 2, _, rfl, Nat.le_refl _, h5, by show 2 ≤ 2; decide, by unfold maxLen; decide, rfl, rfl⟩⟩
          exact each_any (pr_rds Pk (Pk + 1) (by omega) (by omega) (by omega) (by omega) (by omega) (fun q => by have := h0.bz Pk q; omega) (fun q => by have := (blk_lt h0.ow Pk q).2; omega) (by omega)) a k w5 ⟨(h0.later hbV).later (by rw [zV]; exact hb5), (hb5.block Pk (by omega)).trans hPB, own_rows hw (nm_len _)⟩ R2 hR2
        have hrep : repB (c - j) = pairB ++ repB (c - (j + 1)) := by rw [show c - j = (c - (j + 1)) + 1 by omega]; exact repB_more _
        rw [hrep, rdL_app, hR2] at q3 q4 q5 q6
        by_cases he2 : R2.e = 0
        · rw [if_pos he2] at q3 q4 q5 q6
          dsimp only at q3 q4 q5 q6
          obtain ⟨x, y, hxy⟩ : ∃ x y, R2.vs = [x, y] := by
            have hl := rdL_len f n pairB a k (by rw [hR2]; exact he2)
            rw [hR2] at hl
            match h : R2.vs, hl with
            | [x, y], _ => exact ⟨x, y, rfl⟩
          have hnx : Hid (∀ va vc W', RdW w0 W' r q ba bc n f { M with pk := pk ++ [(x, y)] } va vc R2.at_ R2.k ∧ (∀ b ∈ blk ba, b ∉ blk va) → Hid (RdW w0 W' r q ba bc n f { M with pk := pk ++ [(x, y)] } va vc R2.at_ R2.k ∧ (∀ b ∈ blk ba, b ∉ blk va) ∧ (pk ++ [(x, y)]).length = j + 1 ∧ R.e = (rdL f n (repB (c - (j + 1))) R2.at_ R2.k).e ∧ R.at_ = (rdL f n (repB (c - (j + 1))) R2.at_ R2.k).at_ ∧ R.k = (rdL f n (repB (c - (j + 1))) R2.at_ R2.k).k ∧ (R.e = 0 → R.vs = (pk ++ [(x, y)]).flatMap (fun p => [p.1, p.2]) ++ (rdL f n (repB (c - (j + 1))) R2.at_ R2.k).vs))) := fun va vc W' hh => ⟨hh.1, hh.2, by rw [List.length_append, hpkl]; rfl, q3, q4, q5, fun h => by rw [q6 h, hxy, List.flatMap_append, List.append_assoc]; rfl⟩
          have hpl : Hid (pk.length < 256) := by show _ < _; omega
          have hbaH : Hid (∀ b ∈ blk ba, b ∉ blk pa) := hba
          have hxyH : Hid (R2.vs = [x, y]) := hxy
          rw [he2] at cE2
          have hVH : Hid (V = wr.alloc (.cells #[.int .i64 0, .int .i64 0] 66)) := hV
          have hPkH : Hid (Pk = wr.heap.size) := hPk
          have hPks : Hid (w0.heap.size ≤ Pk) := by show _ ≤ _; omega
          clear hs h0 hba q3 q4 q5 q6 hrep hxy hR2 hV hPB zV hbV hrl hql
          subst hPk
          go_wp2_with (first
            | (go_at_call 42; rw [← hVH.out]; (with_reducible refine cP.mono ?_); rintro e w5 ⟨rfl, hh5, hb5, hz5⟩)
            | (go_at_call 49; (with_reducible refine (cE2 _ hh5 hb5).mono ?_); rintro e w7 ⟨rfl, vs, hv, hv2⟩))
          have e2 : vs = [x, y] := (hv2 trivial).trans hxyH.out
          rw [e2] at hv
          obtain ⟨h7, hp7, _⟩ := hv
          have h7d := h7.later (Below.refl _ w7).drew
          have hA := h7d.later (boxed w7.drew (.cells #[.int .i64 x, .int .i64 y] 66))
          have hpB : Hid (w7.drew.heap[wr.heap.size]? = some (.cells #[.int .i64 x, .int .i64 y] 66)) := hp7
          have hcA : Hid (w7.drew.cell? ⟨r, 9, none⟩ = some (.slice pa pk.length pc)) := h7d.cell 9 _ rfl
          have hcB : Hid ((w7.drew.alloc (.cells #[.int .i64 x, .int .i64 y] 66)).cell? ⟨r, 9, none⟩ = some (.slice pa pk.length pc)) := hA.cell 9 _ rfl
          have hAo : Hid (OwnL (w7.drew.alloc (.cells #[.int .i64 x, .int .i64 y] 66)) w0.heap.size 66 2 pa pc (pk.map pkC)) := hA.ow
          have hAr : Hid (Rows (w7.drew.alloc (.cells #[.int .i64 x, .int .i64 y] 66)) 2 (some ⟨w7.heap.size, 0, none⟩) 1 [pkC (x, y)]) := rows_pk (heap_alloc_new w7.drew _)
          have hAs : Hid (w0.heap.size ≤ w7.drew.heap.size + 1) := by have := h7d.be.size; show _ ≤ _; omega
          have hgo : Hid (∀ va vc w8, OwnL w8 w0.heap.size 66 2 va vc (pk.map pkC ++ [pkC (x, y)]) → (∀ b, b < (w7.drew.alloc (.cells #[.int .i64 x, .int .i64 y] 66)).heap.size → b ∉ blk pa → w8.heap[b]? = (w7.drew.alloc (.cells #[.int .i64 x, .int .i64 y] 66)).heap[b]?) → Below (min w0.heap.size (w7.drew.alloc (.cells #[.int .i64 x, .int .i64 y] 66)).heap.size) (w7.drew.alloc (.cells #[.int .i64 x, .int .i64 y] 66)) w8 → (blk va = blk pa ∨ blk va = [(w7.drew.alloc (.cells #[.int .i64 x, .int .i64 y] 66)).heap.size]) → w8.cell? ⟨r, 9, none⟩ = some (.slice pa pk.length pc) ∧ w8.frozen? ⟨r, 9, none⟩ = false ∧ (RdW w0 (w8.setCell ⟨r, 9, none⟩ (.slice va (pk.length + 1) vc)) r q ba bc n f { M with pk := pk ++ [(x, y)] } va vc R2.at_ R2.k ∧ ∀ b ∈ blk ba, b ∉ blk va)) := fun va vc w8 ho hk hB hbl => by
            have hr8 := (hk r (Array.getElem?_eq_some_iff.mp hA.rb).1 hA.n4).trans hA.rb
            refine ⟨(cell_of_row w8 r 9 _ _ _ hr8).trans rfl, frozen_of_row w8 r 9 _ _ hr8, hA.append (by rw [List.map_append]; exact ho) hk hB hbl hbaH.out, fun b hb hbv => ?_⟩
            rcases hbl with e | e <;> rw [e] at hbv
            · exact hbaH.out b hb hbv
            · have := hA.bz b hb
              simp only [List.mem_singleton] at hbv
              omega
          clear hv2 h7 hp7 h7d hA hbaH cE2 cP hVH hPkH hPks e2 hxyH hh5 hb5 hz5
          generalize wr.heap.size = Pk at *
          refine wp_region_noPanic ?_
          refine wp_region_held_drew (S := fun _ => True) (by kernel_rfl) trivial (fun _ => ?_)
          refine reg_move (i := 0) rfl (by kernel_rfl) (by kernel_rfl) (by kernel_rfl) (fun _ _ _ _ h => h) rfl (.pointer (some ⟨r, 0, none⟩)) (fun _ => rfl) trivial ?_
          simp only [Act.put, List.getElem_toArray, List.getElem_cons_succ, List.getElem_cons_zero, List.setIfInBounds_toArray, List.set_cons_zero, List.set_cons_succ]
          refine reg_move (i := 1) rfl (by kernel_rfl) (by kernel_rfl) (by kernel_rfl) (fun _ _ _ _ h => h) rfl (.pointer (some ⟨r, 0, none⟩)) (fun _ => rfl) trivial ?_
          simp only [Act.put, List.getElem_toArray, List.getElem_cons_succ, List.getElem_cons_zero, List.setIfInBounds_toArray, List.set_cons_zero, List.set_cons_succ]
          refine reg_move (i := 2) rfl (by kernel_rfl) (by kernel_rfl) (by kernel_rfl) (fun _ _ _ _ h => h) rfl (.pointer (some ⟨r, 0, none⟩)) (fun _ => by kernel_rfl) trivial ?_
          simp only [Act.put, List.getElem_toArray, List.getElem_cons_succ, List.getElem_cons_zero, List.setIfInBounds_toArray, List.set_cons_zero, List.set_cons_succ]
          refine reg_move (i := 3) rfl (by kernel_rfl) (by kernel_rfl) (by kernel_rfl) (fun _ _ _ _ h => h) rfl (.pointer (some ⟨r, 1, none⟩)) (fun _ => by kernel_rfl) trivial ?_
          simp only [Act.put, List.getElem_toArray, List.getElem_cons_succ, List.getElem_cons_zero, List.setIfInBounds_toArray, List.set_cons_zero, List.set_cons_succ]
          refine reg_move (i := 4) rfl (by kernel_rfl) (by kernel_rfl) (by kernel_rfl) (fun _ _ _ _ h => h) rfl (.pointer (some ⟨r, 9, none⟩)) (fun _ => by kernel_rfl) trivial ?_
          simp only [Act.put, List.getElem_toArray, List.getElem_cons_succ, List.getElem_cons_zero, List.setIfInBounds_toArray, List.set_cons_zero, List.set_cons_succ]
          refine reg_two (i := 5) (j := 6) (by kernel_rfl) rfl rfl rfl rfl ?_ ?_
          · refine wpList_load1 rfl 27 _ rfl ⟨r, 9, none⟩ rfl _ Try.underlying27 rfl (.slice pa pk.length pc) hcA.out (wpList_nil (And.intro trivial fun _ => ?_))
            simp only [Act.put, List.getElem_toArray, List.getElem_cons_succ, List.getElem_cons_zero, List.setIfInBounds_toArray, List.set_cons_zero, List.set_cons_succ]
            refine reg_one (i := 6) (by kernel_rfl) rfl rfl ?_
            refine wpList_load_row rfl 66 _ rfl Pk rfl _ _ _ _ hpB.out Try.underlying66 rfl (by show _ = some 2; kernel_rfl) (wpList_nil (And.intro trivial fun _ => ?_))
            simp only [Act.put, List.getElem_toArray, List.getElem_cons_succ, List.getElem_cons_zero, List.setIfInBounds_toArray, List.set_cons_zero, List.set_cons_succ]
            refine reg_one (i := 7) (by kernel_rfl) rfl rfl ?_
            refine wpList_buildSlice rfl 27 66 1 _ rfl #[.int .i64 x, .int .i64 y] iP _ Try.underlying27 hiP hzP (by rw [hsP]; omega) (by rw [hsP]; omega) (by simp only [hsP]; kernel_rfl) (wpList_nil (And.intro trivial fun _ => ?_))
            simp only [Act.put, List.getElem_toArray, List.getElem_cons_succ, List.getElem_cons_zero, List.setIfInBounds_toArray, List.set_cons_zero, List.set_cons_succ]
            refine reg_one (i := 8) (by kernel_rfl) rfl rfl ?_
            refine wpList_app rfl (.tmp 28) (.tmp 30) 27 rfl w0.heap.size 66 iP _ 2 16 Try.underlying27 hiP hzP hsP hbP rfl (by decide) pa pc (pk.map pkC) (by rw [List.length_map]; rfl) hAo.out (some ⟨w7.heap.size, 0, none⟩) 1 [pkC (x, y)] rfl hAr.out (pk_len [(x, y)]) (pk_one [(x, y)]) (by rw [List.length_map]; unfold maxLen; simp only [List.length_singleton]; have := hpl.out; omega) (by rw [List.length_map]; simp only [List.length_singleton]; have := hpl.out; omega) (by rw [World.size_alloc]; exact hAs.out) ?_
            intro va vc w8 ho8 hk8 hB8 hbl8
            refine wpList_nil (And.intro trivial fun _ => ?_)
            obtain ⟨g1, g2, g3⟩ := hgo.out va vc w8 ho8 hk8 hB8 hbl8
            have hln : (pk.map pkC ++ [pkC (x, y)]).length = pk.length + 1 := by simp
            rw [hln]
            simp only [Act.put, List.getElem_toArray, List.getElem_cons_succ, List.getElem_cons_zero, List.setIfInBounds_toArray, List.set_cons_zero, List.set_cons_succ]
            refine reg_move (i := 9) rfl (by kernel_rfl) (by kernel_rfl) (by kernel_rfl) (fun _ _ _ _ h => h) rfl (.pointer (some ⟨r, 0, none⟩)) (fun _ => by kernel_rfl) trivial ?_
            simp only [Act.put, List.getElem_toArray, List.getElem_cons_succ, List.getElem_cons_zero, List.setIfInBounds_toArray, List.set_cons_zero, List.set_cons_succ]
            refine reg_move (i := 10) rfl (by kernel_rfl) (by kernel_rfl) (by kernel_rfl) (fun _ _ _ _ h => h) rfl (.pointer (some ⟨r, 1, none⟩)) (fun _ => by kernel_rfl) trivial ?_
            simp only [Act.put, List.getElem_toArray, List.getElem_cons_succ, List.getElem_cons_zero, List.setIfInBounds_toArray, List.set_cons_zero, List.set_cons_succ]
            refine reg_move (i := 11) rfl (by kernel_rfl) (by kernel_rfl) (by kernel_rfl) (fun _ _ _ _ h => h) rfl (.pointer (some ⟨r, 9, none⟩)) (fun _ => by kernel_rfl) trivial ?_
            simp only [Act.put, List.getElem_toArray, List.getElem_cons_succ, List.getElem_cons_zero, List.setIfInBounds_toArray, List.set_cons_zero, List.set_cons_succ]
            refine reg_one (i := 12) (by kernel_rfl) rfl rfl ?_
            refine wpList_puts rfl 27 _ _ rfl ⟨r, 9, none⟩ rfl va (pk.length + 1) vc rfl (by kernel_rfl) _ g1 g2 fun W' hW' => wpList_nil (And.intro trivial fun _ => ?_)
            rw [← hW'] at g3
            simp only [Act.put, List.getElem_toArray, List.getElem_cons_succ, List.getElem_cons_zero, List.setIfInBounds_toArray, List.set_cons_zero, List.set_cons_succ]
            refine wpAnyH_done (by kernel_rfl) (NoPanic.normal ?_) _
            have hs8 := hnx.out va vc W' g3
            clear ho8 hk8 hB8 hbl8 hW' g1 g2 g3 hgo hAo hAr hAs hpB hcA hcB hnx hpl
            go_wp2_with fail
            go_roundw
            case rel => exact ⟨j + 1, R2.at_, R2.k, pk ++ [(x, y)], va, vc, by omega, by go_num, hs8⟩
            case measure => simp [intOf]; omega
          · refine wpList_load_row rfl 66 _ rfl Pk rfl _ _ _ _ hpB.out Try.underlying66 rfl (by show _ = some 2; kernel_rfl) (wpList_nil (And.intro trivial fun _ => ?_))
            simp only [Act.put, List.getElem_toArray, List.getElem_cons_succ, List.getElem_cons_zero, List.setIfInBounds_toArray, List.set_cons_zero, List.set_cons_succ]
            refine reg_two (i := 5) (j := 7) (by kernel_rfl) rfl rfl rfl rfl ?_ ?_
            · refine wpList_load1 rfl 27 _ rfl ⟨r, 9, none⟩ rfl _ Try.underlying27 rfl (.slice pa pk.length pc) hcA.out (wpList_nil (And.intro trivial fun _ => ?_))
              simp only [Act.put, List.getElem_toArray, List.getElem_cons_succ, List.getElem_cons_zero, List.setIfInBounds_toArray, List.set_cons_zero, List.set_cons_succ]
              refine reg_one (i := 7) (by kernel_rfl) rfl rfl ?_
              refine wpList_buildSlice rfl 27 66 1 _ rfl #[.int .i64 x, .int .i64 y] iP _ Try.underlying27 hiP hzP (by rw [hsP]; omega) (by rw [hsP]; omega) (by simp only [hsP]; kernel_rfl) (wpList_nil (And.intro trivial fun _ => ?_))
              simp only [Act.put, List.getElem_toArray, List.getElem_cons_succ, List.getElem_cons_zero, List.setIfInBounds_toArray, List.set_cons_zero, List.set_cons_succ]
              refine reg_one (i := 8) (by kernel_rfl) rfl rfl ?_
              refine wpList_app rfl (.tmp 28) (.tmp 30) 27 rfl w0.heap.size 66 iP _ 2 16 Try.underlying27 hiP hzP hsP hbP rfl (by decide) pa pc (pk.map pkC) (by rw [List.length_map]; rfl) hAo.out (some ⟨w7.heap.size, 0, none⟩) 1 [pkC (x, y)] rfl hAr.out (pk_len [(x, y)]) (pk_one [(x, y)]) (by rw [List.length_map]; unfold maxLen; simp only [List.length_singleton]; have := hpl.out; omega) (by rw [List.length_map]; simp only [List.length_singleton]; have := hpl.out; omega) (by rw [World.size_alloc]; exact hAs.out) ?_
              intro va vc w8 ho8 hk8 hB8 hbl8
              refine wpList_nil (And.intro trivial fun _ => ?_)
              obtain ⟨g1, g2, g3⟩ := hgo.out va vc w8 ho8 hk8 hB8 hbl8
              have hln : (pk.map pkC ++ [pkC (x, y)]).length = pk.length + 1 := by simp
              rw [hln]
              simp only [Act.put, List.getElem_toArray, List.getElem_cons_succ, List.getElem_cons_zero, List.setIfInBounds_toArray, List.set_cons_zero, List.set_cons_succ]
              refine reg_move (i := 9) rfl (by kernel_rfl) (by kernel_rfl) (by kernel_rfl) (fun _ _ _ _ h => h) rfl (.pointer (some ⟨r, 0, none⟩)) (fun _ => by kernel_rfl) trivial ?_
              simp only [Act.put, List.getElem_toArray, List.getElem_cons_succ, List.getElem_cons_zero, List.setIfInBounds_toArray, List.set_cons_zero, List.set_cons_succ]
              refine reg_move (i := 10) rfl (by kernel_rfl) (by kernel_rfl) (by kernel_rfl) (fun _ _ _ _ h => h) rfl (.pointer (some ⟨r, 1, none⟩)) (fun _ => by kernel_rfl) trivial ?_
              simp only [Act.put, List.getElem_toArray, List.getElem_cons_succ, List.getElem_cons_zero, List.setIfInBounds_toArray, List.set_cons_zero, List.set_cons_succ]
              refine reg_move (i := 11) rfl (by kernel_rfl) (by kernel_rfl) (by kernel_rfl) (fun _ _ _ _ h => h) rfl (.pointer (some ⟨r, 9, none⟩)) (fun _ => by kernel_rfl) trivial ?_
              simp only [Act.put, List.getElem_toArray, List.getElem_cons_succ, List.getElem_cons_zero, List.setIfInBounds_toArray, List.set_cons_zero, List.set_cons_succ]
              refine reg_one (i := 12) (by kernel_rfl) rfl rfl ?_
              refine wpList_puts rfl 27 _ _ rfl ⟨r, 9, none⟩ rfl va (pk.length + 1) vc rfl (by kernel_rfl) _ g1 g2 fun W' hW' => wpList_nil (And.intro trivial fun _ => ?_)
              rw [← hW'] at g3
              simp only [Act.put, List.getElem_toArray, List.getElem_cons_succ, List.getElem_cons_zero, List.setIfInBounds_toArray, List.set_cons_zero, List.set_cons_succ]
              refine wpAnyH_done (by kernel_rfl) (NoPanic.normal ?_) _
              have hs8 := hnx.out va vc W' g3
              clear ho8 hk8 hB8 hbl8 hW' g1 g2 g3 hgo hAo hAr hAs hpB hcA hcB hnx hpl
              go_wp2_with fail
              go_roundw
              case rel => exact ⟨j + 1, R2.at_, R2.k, pk ++ [(x, y)], va, vc, by omega, by go_num, hs8⟩
              case measure => simp [intOf]; omega
            · refine wpList_buildSlice rfl 27 66 1 _ rfl #[.int .i64 x, .int .i64 y] iP _ Try.underlying27 hiP hzP (by rw [hsP]; omega) (by rw [hsP]; omega) (by simp only [hsP]; kernel_rfl) (wpList_nil (And.intro trivial fun _ => ?_))
              simp only [Act.put, List.getElem_toArray, List.getElem_cons_succ, List.getElem_cons_zero, List.setIfInBounds_toArray, List.set_cons_zero, List.set_cons_succ]
              refine reg_one (i := 5) (by kernel_rfl) rfl rfl ?_
              refine wpList_load1 rfl 27 _ rfl ⟨r, 9, none⟩ rfl _ Try.underlying27 rfl (.slice pa pk.length pc) hcB.out (wpList_nil (And.intro trivial fun _ => ?_))
              simp only [Act.put, List.getElem_toArray, List.getElem_cons_succ, List.getElem_cons_zero, List.setIfInBounds_toArray, List.set_cons_zero, List.set_cons_succ]
              refine reg_one (i := 8) (by kernel_rfl) rfl rfl ?_
              refine wpList_app rfl (.tmp 28) (.tmp 30) 27 rfl w0.heap.size 66 iP _ 2 16 Try.underlying27 hiP hzP hsP hbP rfl (by decide) pa pc (pk.map pkC) (by rw [List.length_map]; rfl) hAo.out (some ⟨w7.heap.size, 0, none⟩) 1 [pkC (x, y)] rfl hAr.out (pk_len [(x, y)]) (pk_one [(x, y)]) (by rw [List.length_map]; unfold maxLen; simp only [List.length_singleton]; have := hpl.out; omega) (by rw [List.length_map]; simp only [List.length_singleton]; have := hpl.out; omega) (by rw [World.size_alloc]; exact hAs.out) ?_
              intro va vc w8 ho8 hk8 hB8 hbl8
              refine wpList_nil (And.intro trivial fun _ => ?_)
              obtain ⟨g1, g2, g3⟩ := hgo.out va vc w8 ho8 hk8 hB8 hbl8
              have hln : (pk.map pkC ++ [pkC (x, y)]).length = pk.length + 1 := by simp
              rw [hln]
              simp only [Act.put, List.getElem_toArray, List.getElem_cons_succ, List.getElem_cons_zero, List.setIfInBounds_toArray, List.set_cons_zero, List.set_cons_succ]
              refine reg_move (i := 9) rfl (by kernel_rfl) (by kernel_rfl) (by kernel_rfl) (fun _ _ _ _ h => h) rfl (.pointer (some ⟨r, 0, none⟩)) (fun _ => by kernel_rfl) trivial ?_
              simp only [Act.put, List.getElem_toArray, List.getElem_cons_succ, List.getElem_cons_zero, List.setIfInBounds_toArray, List.set_cons_zero, List.set_cons_succ]
              refine reg_move (i := 10) rfl (by kernel_rfl) (by kernel_rfl) (by kernel_rfl) (fun _ _ _ _ h => h) rfl (.pointer (some ⟨r, 1, none⟩)) (fun _ => by kernel_rfl) trivial ?_
              simp only [Act.put, List.getElem_toArray, List.getElem_cons_succ, List.getElem_cons_zero, List.setIfInBounds_toArray, List.set_cons_zero, List.set_cons_succ]
              refine reg_move (i := 11) rfl (by kernel_rfl) (by kernel_rfl) (by kernel_rfl) (fun _ _ _ _ h => h) rfl (.pointer (some ⟨r, 9, none⟩)) (fun _ => by kernel_rfl) trivial ?_
              simp only [Act.put, List.getElem_toArray, List.getElem_cons_succ, List.getElem_cons_zero, List.setIfInBounds_toArray, List.set_cons_zero, List.set_cons_succ]
              refine reg_one (i := 12) (by kernel_rfl) rfl rfl ?_
              refine wpList_puts rfl 27 _ _ rfl ⟨r, 9, none⟩ rfl va (pk.length + 1) vc rfl (by kernel_rfl) _ g1 g2 fun W' hW' => wpList_nil (And.intro trivial fun _ => ?_)
              rw [← hW'] at g3
              simp only [Act.put, List.getElem_toArray, List.getElem_cons_succ, List.getElem_cons_zero, List.setIfInBounds_toArray, List.set_cons_zero, List.set_cons_succ]
              refine wpAnyH_done (by kernel_rfl) (NoPanic.normal ?_) _
              have hs8 := hnx.out va vc W' g3
              clear ho8 hk8 hB8 hbl8 hW' g1 g2 g3 hgo hAo hAr hAs hpB hcA hcB hnx hpl
              go_wp2_with fail
              go_roundw
              case rel => exact ⟨j + 1, R2.at_, R2.k, pk ++ [(x, y)], va, vc, by omega, by go_num, hs8⟩
              case measure => simp [intOf]; omega
        · rw [if_neg he2] at q3 q4 q5
          have hfin : Hid (R.e = R2.e ∧ R.at_ = R2.at_ ∧ R.k = R2.k) := ⟨q3, q4, q5⟩
          have hRb : (R2.e != 0) = true := by simpa using he2
          have hVH : Hid (V = wr.alloc (.cells #[.int .i64 0, .int .i64 0] 66)) := hV
          clear hs h0 hba q3 q4 q5 q6 hrep hR2 hV hPB zV hbV hrl hql
          subst hPk
          go_wp2_with (first
            | (go_at_call 42; rw [← hVH.out]; (with_reducible refine cP.mono ?_); rintro e w5 ⟨rfl, hh5, hb5, hz5⟩)
            | (go_at_call 49; (with_reducible refine (cE2 _ hh5 hb5).mono ?_); rintro e w7 ⟨rfl, vs, hv, hv2⟩; (have hvH : Hid (RdW w0 w7 r q ba bc n f { M with pk := pk } pa pc R2.at_ R2.k) := hv.1); clear hv hv2))
          go_ret
          exact ⟨by rw [hfin.out.1]; rfl, pk, pa, pc, by rw [hfin.out.2.1, hfin.out.2.2]; exact hvH.out, fun h => (he2 (hfin.out.1.symm.trans h)).elim⟩
      · have hjc : j = c := by omega
        have hfin : Hid (R.e = 0 ∧ RdW w0 wr r q ba bc n f { M with pk := pk } pa pc R.at_ R.k ∧ pk.flatMap (fun p => [p.1, p.2]) = R.vs) := by
          obtain ⟨q0, q1, q2, q3, q4, q5, q6⟩ := hs.out
          have e : repB (c - j) = [] := by rw [hjc, Nat.sub_self]; rfl
          rw [e] at q3 q4 q5 q6
          have h0 : R.e = 0 := q3
          exact ⟨h0, by rw [q4, q5]; exact q0, by rw [q6 h0]; exact (List.append_nil _).symm⟩
        have hcj : (c : Int) ≤ (j : Int) := by omega
        clear hs hjc
        go_wp2_with fail
        go_ret
        exact ⟨by rw [hfin.out.1]; rfl, pk, pa, pc, hfin.out.2.1, fun _ => hfin.out.2.2⟩
  · have hRe : Hid (R = R1) := by have := hRRH.out; rw [if_neg he1] at this; exact this
    have hRb : (R1.e != 0) = true := by simpa using he1
    clear hRRH hv1
    go_enter Try.func28, Try.ntmps28
    go_wp2_with (first
      | (go_at_call 41; rw [← hW1H.out]; (with_reducible refine cC.mono ?_); rintro e w2 ⟨rfl, hb2⟩)
      | (go_at_call 49; (with_reducible refine (cE _ hb2).mono ?_); rintro e w3 ⟨rfl, vs, hv, hv2⟩; (have hvH : Hid (RdW w0 w3 r q ba bc n f M none 0 R1.at_ R1.k) := hv.1); clear hv hv2))
    go_ret
    refine ⟨by rw [hRe.out]; rfl, [], none, 0, ?_, fun h => (he1 (by rw [← hRe.out]; exact h)).elim⟩
    have e : { M with pk := [] } = M := by cases M; simp only at hMH; rw [hMH.out]
    rw [e, hRe.out]
    exact hvH.out
end
end Go.Proofs.Ytikkgfmhnmoalaa.pg
/- A witness is read from bytes. -/
namespace Go.Proofs.Ytikkgfmhnmoalaa.pg
open Go.ChangeShapes Go.WideShapes Go.ChangeAt Go.RowKit
set_option linter.unusedVariables false
set_option linter.unusedSimpArgs false
set_option maxRecDepth 100000
/-- The sum of the program that a witness's bytes name. -/
def sumW (f : Nat → Nat) : Nat := octet.big (fun i => f (4 + i)) 4
abbrev partF (f : Nat → Nat) : Nat → Nat := fun i => f (8 + i)
set_option maxHeartbeats 2000000 in
theorem readerOf_any (b off n c : Nat) (f : Nat → Nat) (w : World) (hr : octet.Row w (some ⟨b, off, none⟩) n f) (hn : 12 ≤ n) (hn2 : n ≤ 65536) (hnc : n ≤ c) (hc : (c : Int) ≤ 9223372036854775807) : Calls Try.prog 26 #[.slice (some ⟨b, off, none⟩) n c] w fun e w' => ∃ r q ba bc, e = .returned (.pointer (some ⟨r, 0, none⟩)) ∧ RdW w' w' r q ba bc (n - 12) (partF f) (fillW (sumW f) []) none 0 0 0 ∧ w.heap.size ≤ r ∧ w.heap.size ≤ q ∧ Below w.heap.size w w' := by
  obtain ⟨m, hm⟩ : ∃ m : Nat, n = m + 12 := ⟨n - 12, by omega⟩
  have hm2 : n - 12 = m := by omega
  rw [hm2]
  have cN := octet.newreader_some ⟨b, off + 8, none⟩ m (c - 8) (partF f) w (row_part hr 8 m (by omega)) (by omega)
  have hg : octet.gotFix f n 4 = ((sumW f : Int), 8, 0) := by
    unfold octet.gotFix sumW
    rw [if_pos (by omega), if_neg (by omega)]
    rfl
  have cG : ∀ wx, Below w.heap.size w wx → Calls Try.prog 48 #[.slice (some ⟨b, off, none⟩) n c, .int .i64 4] wx _ := fun wx hb => (octet.getfix_any _ n c 4 f wx (hr.later hb) _ _ _ hg (by decide) (by decide)).1
  have q1 : (n : Int) - 4 = (m : Int) + 8 := by omega
  have q2 : (8 : Int) ≤ (m : Int) + 8 := by omega
  have q3 : (m : Int) + 8 ≤ (c : Int) := by omega
  have cut : ∀ wx, (Instr.sliceAt 32 (.slice (some ⟨b, off, none⟩) n c) (some (.int .i64 8)) (some (.int .i64 ((m : Int) + 8))) none).run Try.prog wx = .ok (.slice (some ⟨b, off + 8, none⟩) m (c - 8)) wx := fun wx => by
    have u := Try.underlying32
    have z := Try.sizeOf5
    have q5 : ¬ (c : Int) - 8 = 0 := by omega
    have q6 : ¬ c = 8 := by omega
    have q7 : ¬ c - 8 = 0 := by omega
    simp [Instr.sliceAt, run_underlying u, asIntOf, go_sem, z, q2, q3, q5, q6, q7, Addr.add]
    omega
  have hms : (m : Int) ≤ 65536 := by omega
  clear hr hg hm hm2 hn hn2
  go_enter Try.func26, Try.ntmps26
  go_wp2_with (first
    | (go_at_call 47; (with_reducible refine cN.mono ?_); rintro e w1 ⟨q, ba, bc, rfl, hd1, hr1, hb1, hq1, ho1⟩)
    | (go_at_call 48; (with_reducible refine (cG _ (bthen hb1 (boxed _ _))).mono ?_); rintro e w2 ⟨rfl, hw2⟩; rw [hw2]; clear hw2 w2))
  go_ret
  refine ⟨w1.heap.size, q, ba, bc, rfl, ?_⟩
  have hql := hd1.lt
  have hw1 := hb1.size
  have hbb := boxed w1 (objRd q (fillW (sumW f) []) none 0 0)
  refine ⟨⟨heap_alloc_new _ _, (hbb.block q hql).trans hd1, hr1.later hbb, Nat.zero_le _, own_nil_q _ _ _ _, by omega, ?_, ?_, by simp [blk], by simp [blk], Below.refl _ _, fun _ _ _ _ => rfl, ?_⟩, hw1, hq1, bthen hb1 hbb⟩
  · intro e
    rcases ho1 with ⟨_, e2⟩ | ⟨g, e2, _, _, g3, _⟩ <;> rw [e2] at e <;> simp [blk] at e
    omega
  · intro e
    rcases ho1 with ⟨_, e2⟩ | ⟨g, e2, _, _, _, g4, _⟩ <;> rw [e2] at e <;> simp [blk] at e
    exact g4 e.symm
  · intro x e
    rw [World.size_alloc]
    rcases ho1 with ⟨_, e2⟩ | ⟨g, e2, _, _, g3, _⟩ <;> rw [e2] at e <;> simp [blk] at e
    omega
/-- What is wrong with a witness's bytes, and where. -/
def rdE (f : Nat → Nat) (n : Nat) : Int × Int :=
  if (unfP f n).1 ≠ 0 then unfP f n
  else if (rdL (partF f) (n - 12) headB 0 0).e ≠ 0 then ((rdL (partF f) (n - 12) headB 0 0).e, 8 + ((rdL (partF f) (n - 12) headB 0 0).at_ : Int))
  else if (rdP (partF f) (n - 12) (rdL (partF f) (n - 12) headB 0 0).at_ (rdL (partF f) (n - 12) headB 0 0).k).e ≠ 0 then ((rdP (partF f) (n - 12) (rdL (partF f) (n - 12) headB 0 0).at_ (rdL (partF f) (n - 12) headB 0 0).k).e, 8 + ((rdP (partF f) (n - 12) (rdL (partF f) (n - 12) headB 0 0).at_ (rdL (partF f) (n - 12) headB 0 0).k).at_ : Int))
  else if (rdP (partF f) (n - 12) (rdL (partF f) (n - 12) headB 0 0).at_ (rdL (partF f) (n - 12) headB 0 0).k).k < n - 12 then (13, 8 + ((rdP (partF f) (n - 12) (rdL (partF f) (n - 12) headB 0 0).at_ (rdL (partF f) (n - 12) headB 0 0).k).k : Int))
  else (0, 0)
/-- The witness that was read, its picks aside. -/
def rdM (f : Nat → Nat) (n : Nat) : Wi := fillW (sumW f) (rdL (partF f) (n - 12) headB 0 0).vs
abbrev zeroWi : Wi := ⟨0, 0, 0, 0, 0, 0, 0, 0, [], 0, 0, 0⟩
theorem results_w {fn : Func} {p q s : Tmp} (h : fn.results = #[.cell p 31, .tmp q, .tmp s]) (tmps : Array Value) (w : World) (B : Nat) (cs : Array Value) (v u : Value) (hp : tmps.getD p undef = .pointer (some ⟨B, 0, none⟩)) (hq : tmps.getD q undef = v) (hu : tmps.getD s undef = u) (hs : cs.size = 12) (hB : w.heap[B]? = some (.cells cs 31)) :
    (results fn tmps).run Try.prog w = .ok (.tuple #[.agg cs, v, u]) w := by
  have hp' : tmps[p]?.getD undef = .pointer (some ⟨B, 0, none⟩) := by simpa using hp
  have hq' : tmps[q]?.getD undef = v := by simpa using hq
  have hu' : tmps[s]?.getD undef = u := by simpa using hu
  simp [results, h, hp', hq', hu', asAddr, run_loadVar_row w B _ 31 _ _ _ hB Try.underlying31 rfl (by rw [hs]; kernel_rfl)]
theorem oneW (M : Wi) (pa : Option Addr) (pc : Nat) : (M.cells pa pc).toArray.all (·.oneCell') = true := by simp [Wi.cells, Value.oneCell']
abbrev objZ : Obj := .cells #[.int .u32 0, .int .i64 0, .int .i64 0, .int .i64 0, .int .i64 0, .int .i64 0, .int .i64 0, .int .i64 0, .slice none 0 0, .int .i64 0, .int .i64 0, .int .i64 0] 31
theorem infoW12 : (Try.prog.info? 31).map (·.size) = some 12 := by kernel_rfl
set_option maxHeartbeats 4000000 in
theorem read_unfit (a : Option Addr) (n c : Nat) (f : Nat → Nat) (w : World) (hr : octet.Row w a n f) (hnc : n ≤ c) (hc : (c : Int) ≤ 9223372036854775807) (hu : (unfP f n).1 ≠ 0) : Calls Try.prog 11 #[.slice a n c] w fun e w' => e = .returned (.tuple #[.agg (zeroWi.cells none 0).toArray, .int .i64 (unfP f n).1, .int .i64 (unfP f n).2]) ∧ Below w.heap.size w w' := by
  have hb := boxed w objZ
  have hz : Hid ((w.alloc objZ).heap[w.heap.size]? = some objZ) := heap_alloc_new _ _
  have cU : Calls Try.prog 25 #[.slice a n c] (w.alloc objZ) _ := unfit_any a n c f _ (hr.later hb) hnc hc
  generalize unfP f n = u at *
  have hub : (u.1 != 0) = true := by simpa using hu
  clear hr
  go_enter Try.func11, Try.ntmps11
  go_wp2_with (first
    | (go_at_call 25; (with_reducible refine cU.mono ?_); rintro e w1 ⟨rfl, hb1⟩; (have hz1 : Hid (w1.heap[w.heap.size]? = some objZ) := (hb1.block _ (by rw [World.size_alloc]; omega)).trans hz.out))
    | (refine wpList_store_row rfl 31 _ _ rfl w.heap.size _ rfl rfl _ _ hz1.out infoW12 rfl (oneW zeroWi none 0) ?_))
  refine bodyPost_ret (results_w Try.results11 _ _ w.heap.size (zeroWi.cells none 0).toArray (.int .i64 u.1) (.int .i64 u.2) rfl rfl rfl rfl (setRow_heap _ _ _ _ _ _ hz1.out)) rfl ⟨rfl, ?_⟩
  exact below_setRow (bthen hb hb1) (Nat.le_refl _) _
end Go.Proofs.Ytikkgfmhnmoalaa.pg
