/- The chapter's second example, and the statements' own little program. -/
import Derived.Test.YtafefnkgdnmjbaaGreatDoorM32
import Derived.Test.YtafefnkgdnmjbaaGreatDoorM31
import Derived.Test.YtafefnkgdnmjbaaGreatDoorM25
import Derived.Test.YtafefnkgdnmjbaaGreatDoorM13
import Derived.Test.YtafefnkgdnmjbaaGreatDoorM2
import Derived.Test.YtafefnkgdnmjbaaGreatDoorM4
import Derived.Ground.SlsfProg
namespace Go.Proofs.YtafefnkgdnmjbaaGreatDoor.pg
open Go.ChangeShapes Go.WideShapes Go.ChangeAt Go.RowKit Go.Shelf
set_option linter.unusedVariables false
set_option linter.unusedSimpArgs false
set_option maxRecDepth 100000
attribute [local go_sem ↓] Go.wp_at_zero Go.wp_at_succ
theorem rows_ofR {w : World} {B : Nat} {cs : List Value} {t : TypeId} (h : w.heap[B]? = some (.cells cs.toArray t (0, 0))) {off k cap : Nat} (L : List (List Value)) (hk : ∀ row ∈ L, row.length = k) (hc : L.length ≤ cap) (hm : cap ≤ 9223372036854775807) (a c : List Value) (e : cs = a ++ (L.flatten ++ c)) (ho : a.length = off) : Rows w k (some ⟨B, off, none⟩) cap L := by
  refine ⟨hc, hm, by simp, .inr ⟨B, off, rfl, (Array.getElem?_eq_some_iff.mp h).1, fun i row hi => ⟨hk row (List.mem_of_getElem? hi), fun j u hj => cell_of h ?_⟩⟩⟩
  have hjk : j < k := by rw [← hk row (List.mem_of_getElem? hi)]; exact (List.getElem?_eq_some_iff.mp hj).1
  have := flatten_at L hk i row hi j hjk
  rw [hj] at this
  have hlt := (List.getElem?_eq_some_iff.mp this).1
  rw [List.getElem?_toArray, e, List.getElem?_append_right (by omega), ho, Nat.add_sub_cancel_left, List.getElem?_append_left hlt]
  exact this
theorem rows_flatR {W : World} {B : Nat} {L : List Ev} {t : TypeId} (h : W.heap[B]? = some (.cells (L.map Ev.cells).flatten.toArray t (0, 0))) (hl : L.length ≤ 256) : Rows W 26 (some ⟨B, 0, none⟩) L.length (L.map Ev.cells) := by
  have hk : ∀ row ∈ L.map Ev.cells, row.length = 26 := fun row hm => by rw [List.mem_map] at hm; obtain ⟨y, _, rfl⟩ := hm; rfl
  refine ⟨by simp, by omega, by simp, .inr ⟨B, 0, rfl, (Array.getElem?_eq_some_iff.mp h).1, fun i row hi => ⟨hk row (List.mem_of_getElem? hi), fun j u hj => ?_⟩⟩⟩
  rw [Nat.zero_add, cell_of_row W B _ _ _ _ h]
  have hj26 : j < 26 := by have := (List.getElem?_eq_some_iff.mp hj).1; have := hk row (List.mem_of_getElem? hi); omega
  have := flatten_at (k := 26) (L.map Ev.cells) hk i row hi j hj26
  rw [hj] at this
  simpa using this
theorem stEvR_right (g v : Int) (h0 : 0 ≤ g) (h1 : g < 6) (h2 : 0 ≤ v) (h3 : v < manyP 1) : rightP (stEv g v) := by
  have ht : tN (stEv g v).n = 2 := by show tN 2 = 2; decide
  refine ⟨⟨h0, h1, by show (1 : Int) ≤ 2; omega, by show (2 : Int) ≤ 6; omega⟩, fun i hi => ?_, ?_, ?_⟩
  · rw [ht] at hi
    match i, hi with
    | 0, _ =>
      intro a ha
      have : a = ⟨1, v, true⟩ := by simpa [stEv, Ev.list] using ha.symm
      subst this
      exact ⟨⟨h2, h3⟩, fun q => by omega⟩
    | 1, _ =>
      intro a ha
      have : a = ⟨5, g, true⟩ := by simpa [stEv, Ev.list] using ha.symm
      subst this
      have hm5 : g < manyP 5 := by rw [show manyP 5 = 6 by decide]; exact h1
      refine ⟨⟨h0, hm5⟩, fun _ b hb => ?_⟩
      have : b = ⟨1, v, true⟩ := by simpa [stEv, Ev.list] using hb.symm
      subst this
      simp [bef]
  · rw [ht]
    intro a ha
    simp [stEv, Ev.list] at ha
    exact ha
  · unfold Ev.of
    rw [ht]
    simp [stEv, Ev.list]
set_option maxHeartbeats 1000000 in
theorem storedR_any (g : Int) (w : World) : Calls Tryz.prog 41 #[.int .i64 g] w fun e w' => e = .returned (.agg (stEv g 0).cells.toArray) ∧ Below w.heap.size w w' := by
  have huE : Hid (Tryz.prog.underlying 69 = _) := Tryz.underlying69
  obtain ⟨Z, hz, hZs, _⟩ := zero_big (P := Tryz.prog) (t := 69) (n := 26) (by kernel_rfl)
  have hb := boxed2 w (.cells Z 69) (.cells Z 69)
  have hZ00 : ((w.alloc (.cells Z 69)).alloc (.cells Z 69)).heap[w.heap.size]? = some (.cells Z 69) := (Below.heap_alloc _ _ _ (by simp [World.size_alloc])).trans (heap_alloc_new w _)
  have hB00 : ((w.alloc (.cells Z 69)).alloc (.cells Z 69)).heap[w.heap.size + 1]? = some (.cells Z 69) := by
    have := heap_alloc_new (w.alloc (.cells Z 69)) (.cells Z 69)
    rwa [World.size_alloc] at this
  have hS : Z.size = (stEv0 g).cells.toArray.size := hZs
  have hSz : Z.size = (stEv g 0).cells.toArray.size := hZs
  go_enter Tryz.func41, Tryz.ntmps41
  obtain ⟨W0, hW0⟩ : ∃ W0, (w.alloc (.cells Z 69)).alloc (.cells Z 69) = W0 := ⟨_, rfl⟩
  rw [hW0] at hb hZ00 hB00
  have hB0 := setRow_heap W0 (w.heap.size + 1) _ (stEv0 g).cells.toArray _ _ hB00
  have hZ0 := (setRow_other W0 (w.heap.size + 1) w.heap.size (stEv0 g).cells.toArray (by omega)).trans hZ00
  have hb0 := below_setRow hb (B := w.heap.size + 1) (by omega) (stEv0 g).cells.toArray
  obtain ⟨W1, hW1⟩ : ∃ W1, W0.setRow (w.heap.size + 1) (stEv0 g).cells.toArray = W1 := ⟨_, rfl⟩
  rw [hW1] at hB0 hZ0 hb0
  obtain ⟨t1, B1, o1, b1⟩ := put3 (o := 7) hB0 (by show 9 < 26; omega) (.int .i64 1) (.int .i64 0) (.bool true)
  have B1' : (W1.setCells (w.heap.size + 1) 7 [.int .i64 1, .int .i64 0, .bool true]).heap[w.heap.size + 1]? = some (.cells (stEv1 g 0).cells.toArray 69) := B1
  have Z1 := (o1 w.heap.size (by omega)).trans hZ0
  have bb1 := hb0.trans (b1 w.heap.size (by omega))
  obtain ⟨W2, hW2⟩ : ∃ W2, W1.setCells (w.heap.size + 1) 7 [.int .i64 1, .int .i64 0, .bool true] = W2 := ⟨_, rfl⟩
  rw [hW2] at B1' Z1 bb1
  obtain ⟨t2, B2, o2, b2⟩ := put3 (o := 10) B1' (by show 12 < 26; omega) (.int .i64 5) (.int .i64 g) (.bool true)
  have B2' : (W2.setCells (w.heap.size + 1) 10 [.int .i64 5, .int .i64 g, .bool true]).heap[w.heap.size + 1]? = some (.cells (stEv g 0).cells.toArray 69) := B2
  have Z2 := (o2 w.heap.size (by omega)).trans Z1
  have bb2 := bb1.trans (b2 w.heap.size (by omega))
  obtain ⟨W3, hW3⟩ : ∃ W3, W2.setCells (w.heap.size + 1) 10 [.int .i64 5, .int .i64 g, .bool true] = W3 := ⟨_, rfl⟩
  rw [hW3] at B2' Z2 bb2
  have hall : Hid (W1.there (w.heap.size + 1) 7 3 ∧ W2.there (w.heap.size + 1) 10 3 ∧ W3.heap[w.heap.size + 1]? = some (.cells (stEv g 0).cells.toArray 69) ∧ W3.heap[w.heap.size]? = some (.cells Z 69) ∧ Below w.heap.size w W3) := ⟨t1, t2, B2', Z2, bb2⟩
  have hW0H : Hid ((w.alloc (.cells Z 69)).alloc (.cells Z 69) = W0) := hW0
  have hB0H : Hid (W0.heap[w.heap.size + 1]? = some (.cells Z 69)) := hB00
  have hW1H : Hid (W0.setRow (w.heap.size + 1) (stEv0 g).cells.toArray = W1) := hW1
  have hW2H : Hid (W1.setCells (w.heap.size + 1) 7 [.int .i64 1, .int .i64 0, .bool true] = W2) := hW2
  have hW3H : Hid (W2.setCells (w.heap.size + 1) 10 [.int .i64 5, .int .i64 g, .bool true] = W3) := hW3
  have hzH : Hid (∀ w, (zeroValue 69).run Tryz.prog w = .ok (.agg Z) w) := hz
  have hSH : Hid (Z.size = (stEv0 g).cells.toArray.size ∧ Z.size = (stEv g 0).cells.toArray.size) := ⟨hS, hSz⟩
  clear hW0 hW1 hW2 hW3 t1 t2 B1 B1' B2 B2' Z1 Z2 bb1 bb2 o1 o2 b1 b2 hb hb0 hZ0 hB0 hZ00 hB00 hz hS hSz hZs
  go_wp2_with (first
    | (refine wpList_alloc_big rfl 69 rfl hzH.out ?_; (try rw [World.size_alloc]); (try rw [hW0H.out]))
    | (refine wpList_store_row rfl 69 _ _ rfl (w.heap.size + 1) (stEv0 g).cells.toArray rfl rfl _ _ hB0H.out (infoE_ev (stEv0 g)) hSH.out.1 (ev_one (stEv0 g)) ?_; rw [hW1H.out])
    | (refine wpList_store_mid rfl 66 _ _ rfl (w.heap.size + 1) 7 #[.int .i64 1, .int .i64 0, .bool true] rfl rfl hall.out.1 (by kernel_rfl) (by simp [Value.oneCell']) ?_; rw [show W1.setCells (w.heap.size + 1) 7 _ = W2 from hW2H.out])
    | (refine wpList_store_mid rfl 66 _ _ rfl (w.heap.size + 1) 10 #[.int .i64 5, .int .i64 g, .bool true] rfl rfl hall.out.2.1 (by kernel_rfl) (by simp [Value.oneCell']) ?_; rw [show W2.setCells (w.heap.size + 1) 10 _ = W3 from hW3H.out])
    | (refine wpList_load_row rfl 69 _ rfl (w.heap.size + 1) rfl _ _ _ _ hall.out.2.2.1 huE.out rfl (infoE_ev _) ?_)
    | (refine wpList_store_row rfl 69 _ _ rfl w.heap.size (stEv g 0).cells.toArray rfl rfl _ _ hall.out.2.2.2.1 (infoE_ev (stEv g 0)) hSH.out.2 (ev_one (stEv g 0)) ?_))
  refine bodyPost_ret (results_cell_row Tryz.results41 _ _ w.heap.size 69 _ (0, 0) _ rfl (setRow_heap W3 w.heap.size _ _ _ _ hall.out.2.2.2.1) huE.out rfl (infoE_ev (stEv g 0))) rfl ⟨rfl, below_setRow hall.out.2.2.2.2 (Nat.le_refl _) _⟩
def exR : List Ev := [stEv 1 0, stEv 2 0, stEv 3 0]
theorem right_exR : ∀ x ∈ exR, rightP x := by
  intro x hx
  simp [exR] at hx
  rcases hx with rfl | rfl | rfl
  · exact stEvR_right 1 0 (by omega) (by omega) (by omega) (by decide)
  · exact stEvR_right 2 0 (by omega) (by omega) (by omega) (by decide)
  · exact stEvR_right 3 0 (by omega) (by omega) (by omega) (by decide)
theorem rel_exR : (rel (evf exR) 3).2 = [(0, 1), (1, 2)] := by decide
theorem edL_exR {B : Nat → Nat → Bool} (hB : Tells (dpf exR) B) : edL B exR = [(0, 1), (1, 2)] := by
  refine (edges_same right_exR hB (D := [(0, 1), (1, 2)]) ?_ ?_).symm
  · rw [show exR.length = 3 from rfl, rel_exR]
  · simp [lex]
/-- The program: one plain variable, one function that ends. -/
def leP : Pr := ⟨[⟨false, 0⟩], 0, [], [⟨0, 0, [⟨45, 0, 0, 0, 0⟩], []⟩]⟩
theorem chk_leP : chk insP leP = (0, 0, 0) := by decide
def leF (B : Nat) : MFn := ⟨0, 0, some ⟨B, 0, none⟩, 1, [⟨45, 0, 0, 0, 0⟩], none, 0, []⟩
def leM (B : Nat) : MPr := ⟨some ⟨B, 0, none⟩, 1, [⟨false, 0⟩], 0, none, 0, [], some ⟨B + 2, 0, none⟩, 1, [leF (B + 1)]⟩
theorem leM_pr (B : Nat) : (leM B).pr = leP := rfl
theorem rows_nilR (w : World) (k : Nat) : Rows w k none 0 [] := ⟨by simp, by simp, by simp, .inl rfl⟩
theorem i0R : I64 0 := ⟨by decide, by decide⟩
theorem leM_lies {w : World} {B : Nat} (h1 : w.heap[B]? = some (.cells #[.bool false, .int .i64 0] 159)) (h2 : w.heap[B + 1]? = some (.cells #[.int .i64 45, .int .i64 0, .int .i64 0, .int .i64 0, .int .i64 0] 161))
    (h3 : w.heap[B + 2]? = some (.cells #[.int .i64 0, .int .i64 0, .slice (some ⟨B + 1, 0, none⟩) 1 1, .slice none 0 0] 165)) : (leM B).lies w := by
  refine ⟨rows_ofR (cs := [.bool false, .int .i64 0]) h1 [[.bool false, .int .i64 0]] (by simp) (by simp [leM]) (by simp [leM]) [] [] rfl rfl, rows_nilR w 1, rows_ofR (cs := [.int .i64 0, .int .i64 0, .slice (some ⟨B + 1, 0, none⟩) 1 1, .slice none 0 0]) h3 [[.int .i64 0, .int .i64 0, .slice (some ⟨B + 1, 0, none⟩) 1 1, .slice none 0 0]] (by simp) (by simp [leM]) (by simp [leM]) [] [] rfl rfl, by simp [leM, i0R], i0R, by simp [leM], ?_⟩
  intro f hf
  simp only [leM, List.mem_singleton] at hf
  subst hf
  refine ⟨rows_ofR (cs := [.int .i64 45, .int .i64 0, .int .i64 0, .int .i64 0, .int .i64 0]) h2 [[.int .i64 45, .int .i64 0, .int .i64 0, .int .i64 0, .int .i64 0]] (by simp) (by simp [leF]) (by simp [leF]) [] [] rfl rfl, rows_nilR w 2, ?_, by simp [leF], i0R, i0R⟩
  intro x hx
  simp only [leF, List.mem_cons, List.not_mem_nil, or_false] at hx
  subst hx
  unfold Ins.wf I64
  decide
abbrev objPz : Obj := .cells #[.slice none 0 0, .int .i64 0, .slice none 0 0, .slice none 0 0] 36
set_option maxHeartbeats 1000000 in
theorem least_any (w : World) : Calls Tryz.prog 42 #[] w fun e w' => e = .returned (leM (w.heap.size + 1)).val ∧ (leM (w.heap.size + 1)).lies w' ∧ Below w.heap.size w w' := by
  go_enter Tryz.func42, Tryz.ntmps42
  go_wp2
  obtain ⟨p1, p2, p3, p4, p5, _⟩ := alloc4 w (.cells #[.slice (some ⟨w.heap.size + 1, 0, none⟩) 1 1, .int .i64 0, .slice none 0 0, .slice (some ⟨w.heap.size + 1 + 1 + 1, 0, none⟩) 1 1] 36) (.cells #[.bool false, .int .i64 0] 159) (.cells #[.int .i64 45, .int .i64 0, .int .i64 0, .int .i64 0, .int .i64 0] 161) (.cells #[.int .i64 0, .int .i64 0, .slice (some ⟨w.heap.size + 1 + 1, 0, none⟩) 1 1, .slice none 0 0] 165)
  exact bodyPost_ret (results_cell_row Tryz.results42 _ _ w.heap.size 36 _ (0, 0) _ rfl p1 Tryz.underlying36 rfl (by kernel_rfl)) rfl ⟨rfl, leM_lies p2 p3 p4, p5⟩
theorem plV_leM (B : Nat) : plV (leM B).vars = fun n => decide (n < 1) := by
  funext n
  match n with
  | 0 => rfl
  | n + 1 => unfold plV plK; simp [leM]
theorem clP_ex {i j : Nat} (hi : i < 3) (hj : j < 3) : clP (fun n => decide (n < 1)) (evf exR i) (evf exR j) = true := by
  exact match i, hi, j, hj with
  | 0, _, 0, _ => by decide
  | 0, _, 1, _ => by decide
  | 0, _, 2, _ => by decide
  | 1, _, 0, _ => by decide
  | 1, _, 1, _ => by decide
  | 1, _, 2, _ => by decide
  | 2, _, 0, _ => by decide
  | 2, _, 1, _ => by decide
  | 2, _, 2, _ => by decide
theorem data_exR {B : Nat → Nat → Bool} (hB : Tells (dpf exR) B) (C : Nat) : rcL B exR (daF (leM C).vars exR) = [(0, 1), (1, 2)] := by
  unfold rcL
  rw [edL_exR hB]
  have h1 : rcF exR (daF (leM C).vars exR) 0 1 = true := by
    unfold rcF daF
    rw [plV_leM, clP_ex (by omega) (by omega)]
    decide
  have h2 : rcF exR (daF (leM C).vars exR) 1 2 = true := by
    unfold rcF daF
    rw [plV_leM, clP_ex (by omega) (by omega)]
    decide
  simp [List.filter, h1, h2]
theorem pairs_exR {B : Nat → Nat → Bool} (hB : Tells (dpf exR) B) : rcL B exR (fun _ _ => true) = [(0, 1), (1, 2)] := by
  unfold rcL
  rw [edL_exR hB]
  decide
theorem cfl_exR (C : Nat) : (cfL (plV (leM C).vars) exR).length = 3 := by
  rw [plV_leM]
  decide
end Go.Proofs.YtafefnkgdnmjbaaGreatDoor.pg
/- The document's own Pairs; lists of pairs compared. -/
namespace Go.Proofs.YtafefnkgdnmjbaaGreatDoor.pg
open Go.ChangeShapes Go.WideShapes Go.ChangeAt Go.RowKit Go.Shelf
set_option linter.unusedVariables false
set_option linter.unusedSimpArgs false
set_option maxRecDepth 100000
attribute [local go_sem ↓] Go.wp_at_zero Go.wp_at_succ
theorem run_inH (a b : Int) (w : World) : (Op.equalIn 10000 71 (.agg #[.int .i64 a, .int .i64 b]) (.agg #[.int .i64 a, .int .i64 b])).run Tryz.prog w = .ok true w := by
  obtain ⟨i, hi⟩ := infoI_some
  have hc1 : Tryz.prog.cellsOf 3 = 1 := by kernel_rfl
  have u1 := Tryz.underlying3
  have a1 := Tryz.isAgg3
  have z1 := Tryz.sizeOf3
  rw [show (10000 : Nat) = 9999 + 1 from rfl, run_equalIn_array w 9999 _ _ Tryz.underlying71 hi, hc1]
  simp only [List.range, List.range.loop, Op.eqItems]
  go_simp
theorem neH (p : Nat × Nat) (o q : Operand) (wx : World) : ((do
    eqGuard .neq 71 o q (.agg (edg p).toArray) (.agg (edg p).toArray)
    binOp .neq 71 (.agg (edg p).toArray) (.agg (edg p).toArray)) : Sem Value).run Tryz.prog wx = .ok (.bool false) wx := by
  have hm : Tryz.prog.eqGuardType Tryz.prog.depth 71 = false := by kernel_rfl
  simp only [Sem.run_bind, run_eqGuard_agg (P := Tryz.prog) wx .neq 71 o q _ _ hm, Result.andThen_ok]
  have : (binOp .neq 71 (.agg #[.int .i64 (p.1 : Int), .int .i64 (p.2 : Int)]) (.agg #[.int .i64 (p.1 : Int), .int .i64 (p.2 : Int)])).run Tryz.prog wx = .ok (.bool false) wx := by
    rw [run_neq_struct, run_inH]; rfl
  exact this
/-- A pair of a list, at its place. -/
theorem pr_at {w : World} {a : Option Addr} {cap : Nat} {L : List (Nat × Nat)} (h : Rows w 2 a cap (L.map edg)) {i : Nat} {p : Nat × Nat} (hi : L[i]? = some p) : ∃ b o, (∀ wx, (Instr.indexAt 23 (.slice a L.length cap) (.int .i64 (i : Int))).run Tryz.prog wx = .ok (.pointer (some ⟨b, o, none⟩)) wx) ∧ b < w.heap.size ∧ w.rangeAt b o (edg p) := by
  obtain ⟨b, o, h1, h2, h3⟩ := h.ix 23 71 Tryz.underlying23 (by kernel_rfl) (fun wx => Tryz.sizeOf71 wx) i (row := edg p) (by simp [hi])
  rw [List.length_map] at h1
  exact ⟨b, o, h1, h2, h3⟩
theorem ix2m (B o k : Nat) (hk : k < 2) : ∀ wx, (Instr.indexAt 71 (.pointer (some ⟨B, o, none⟩)) (.int .i64 (k : Int))).run Tryz.prog wx = .ok (.pointer (some ⟨B, o + k, none⟩)) wx := by
  match k, hk with
  | 0, _ => exact fun _ => by kernel_rfl
  | 1, _ => exact fun _ => by kernel_rfl
theorem info2 : (Tryz.prog.info? 71).map (·.size) = some 2 := by kernel_rfl
set_option maxHeartbeats 2000000 in
theorem samePairs_any (L : List (Nat × Nat)) (hL : L.length ≤ 65536) (a b : Option Addr) (ac bc : Nat) (w : World) (ha : Rows w 2 a ac (L.map edg)) (hb : Rows w 2 b bc (L.map edg)) :
    Calls Tryz.prog 12 #[.slice a L.length ac, .slice b L.length bc] w fun e w' => e = .returned (.bool true) ∧ Below w.heap.size w w' := by
  have haH : Hid (Rows w 2 a ac (L.map edg)) := ha
  have hbH : Hid (Rows w 2 b bc (L.map edg)) := hb
  have hLI : (L.length : Int) ≤ 65536 := by omega
  clear ha hb
  go_enter Tryz.func12, Tryz.ntmps12
  go_wp2
  go_loopw [5] (fun u wr => ∃ i : Nat, i ≤ L.length ∧ u = .int .i64 (i : Int) ∧ Hid (Below w.heap.size w wr)) (fun u _ => L.length - (intOf u).toNat)
  case atStart => exact ⟨0, Nat.zero_le _, rfl, Below.refl _ _⟩
  case round =>
    obtain ⟨i, hi, rfl, hs⟩ := hrel
    by_cases hlt : i < L.length
    · have hiI : (i : Int) < L.length := by omega
      obtain ⟨p, hp⟩ : ∃ p, L[i]? = some p := ⟨_, List.getElem?_eq_getElem hlt⟩
      obtain ⟨c, q, xa, hc, ra⟩ := pr_at (haH.out.later hs.out) hp
      obtain ⟨d, t, xb, hd, rb⟩ := pr_at (hbH.out.later hs.out) hp
      have hF : Hid (∀ w', Below wr.heap.size wr w' → w'.rangeAt c q (edg p) ∧ w'.rangeAt d t (edg p)) := fun w' h => ⟨range_block ra (h.block c hc), range_block rb (h.block d hd)⟩
      have hS : Hid (Below wr.heap.size wr wr.drew) := bey_drew wr
      have hs2 : Hid (Below w.heap.size w wr.drew) := bthen hs.out (bey_drew wr)
      have hev := fun o q wx => neH p o q wx
      clear ra rb hc hd hs hp
      go_wp2_with fail
      refine wp_region_noPanic ?_
      refine wp_region_held_drew (S := fun w' => Below wr.heap.size wr w') (by kernel_rfl) hS.out (fun _ => ?_)
      refine reg_move (i := 0) rfl (by kernel_rfl) (by kernel_rfl) (by kernel_rfl) (fun _ _ _ _ h => h) rfl (.slice a L.length ac) (fun _ => rfl) hS.out ?_
      simp only [Act.put, List.getElem_toArray, List.getElem_cons_succ, List.getElem_cons_zero, List.setIfInBounds_toArray, List.set_cons_zero, List.set_cons_succ]
      refine reg_move (i := 1) rfl (by kernel_rfl) (by kernel_rfl) (by kernel_rfl) (fun _ _ _ _ h => h) rfl (.int .i64 (i : Int)) (fun _ => rfl) hS.out ?_
      simp only [Act.put, List.getElem_toArray, List.getElem_cons_succ, List.getElem_cons_zero, List.setIfInBounds_toArray, List.set_cons_zero, List.set_cons_succ]
      refine reg_move (i := 2) rfl (by kernel_rfl) (by kernel_rfl) (by kernel_rfl) (fun _ _ _ _ h => h) rfl (.pointer (some ⟨c, q, none⟩)) (fun wx => by unfold execOp; exact run_value_of (xa wx)) hS.out ?_
      simp only [Act.put, List.getElem_toArray, List.getElem_cons_succ, List.getElem_cons_zero, List.setIfInBounds_toArray, List.set_cons_zero, List.set_cons_succ]
      refine reg_load (i := 3) rfl (by kernel_rfl) (by kernel_rfl) (by kernel_rfl) (fun _ _ _ _ h => h) rfl 71 _ rfl c q rfl (edg p) _ (fun w' h' => (hF.out w' h').1) Tryz.underlying71 rfl info2 hS.out ?_
      simp only [Act.put, List.getElem_toArray, List.getElem_cons_succ, List.getElem_cons_zero, List.setIfInBounds_toArray, List.set_cons_zero, List.set_cons_succ]
      refine reg_move (i := 4) rfl (by kernel_rfl) (by kernel_rfl) (by kernel_rfl) (fun _ _ _ _ h => h) rfl (.slice b L.length bc) (fun _ => rfl) hS.out ?_
      simp only [Act.put, List.getElem_toArray, List.getElem_cons_succ, List.getElem_cons_zero, List.setIfInBounds_toArray, List.set_cons_zero, List.set_cons_succ]
      refine reg_move (i := 5) rfl (by kernel_rfl) (by kernel_rfl) (by kernel_rfl) (fun _ _ _ _ h => h) rfl (.int .i64 (i : Int)) (fun _ => rfl) hS.out ?_
      simp only [Act.put, List.getElem_toArray, List.getElem_cons_succ, List.getElem_cons_zero, List.setIfInBounds_toArray, List.set_cons_zero, List.set_cons_succ]
      refine reg_move (i := 6) rfl (by kernel_rfl) (by kernel_rfl) (by kernel_rfl) (fun _ _ _ _ h => h) rfl (.pointer (some ⟨d, t, none⟩)) (fun wx => by unfold execOp; exact run_value_of (xb wx)) hS.out ?_
      simp only [Act.put, List.getElem_toArray, List.getElem_cons_succ, List.getElem_cons_zero, List.setIfInBounds_toArray, List.set_cons_zero, List.set_cons_succ]
      refine reg_load (i := 7) rfl (by kernel_rfl) (by kernel_rfl) (by kernel_rfl) (fun _ _ _ _ h => h) rfl 71 _ rfl d t rfl (edg p) _ (fun w' h' => (hF.out w' h').2) Tryz.underlying71 rfl info2 hS.out ?_
      simp only [Act.put, List.getElem_toArray, List.getElem_cons_succ, List.getElem_cons_zero, List.setIfInBounds_toArray, List.set_cons_zero, List.set_cons_succ]
      refine reg_move (i := 8) rfl (by kernel_rfl) (by kernel_rfl) (by kernel_rfl) (fun _ _ _ _ h => h) rfl (.bool false) (fun wx => by unfold execOp; exact run_value_of (hev _ _ wx)) hS.out ?_
      simp only [Act.put, List.getElem_toArray, List.getElem_cons_succ, List.getElem_cons_zero, List.setIfInBounds_toArray, List.set_cons_zero, List.set_cons_succ]
      refine wpAnyH_done (by kernel_rfl) (NoPanic.normal ?_) _
      clear hS hF hev xa xb
      generalize wr.drew = W1 at *
      go_wp2
      go_roundw
      case rel => exact ⟨i + 1, by omega, by go_num, hs2⟩
      case measure => simp [intOf]; omega
    · have hie : i = L.length := by omega
      subst hie
      go_wp2
      go_ret
      exact ⟨rfl, hs.out⟩
/-- Those of the first k edges that lead from one goroutine to another. -/
def rpK (B : Nat → Nat → Bool) (l : List Ev) (k : Nat) : List (Nat × Nat) := ((edL B l).take k).filter fun p => rcF l (fun _ _ => true) p.1 p.2
theorem rpK_more {B : Nat → Nat → Bool} {l : List Ev} {k : Nat} {p : Nat × Nat} (h : (edL B l)[k]? = some p) : rpK B l (k + 1) = rpK B l k ++ (if (evf l p.1).go = (evf l p.2).go then [] else [p]) := by
  unfold rpK
  rw [List.take_add_one, h, List.filter_append]
  congr 1
  by_cases e : (evf l p.1).go = (evf l p.2).go
  · simp [List.filter, rcF, e]
  · have : ((evf l p.1).go == (evf l p.2).go) = false := by simpa using e
    simp [List.filter, rcF, this, e]
theorem rpK_len (B : Nat → Nat → Bool) (l : List Ev) (k : Nat) : (rpK B l k).length ≤ k := Nat.le_trans (List.length_filter_le _ _) (by rw [List.length_take]; omega)
set_option maxHeartbeats 4000000 in
theorem rpairs_any (l : List Ev) (la : Option Addr) (lc : Nat) (w : World) (hl : Rows w 26 la lc (l.map Ev.cells)) (hlen : l.length ≤ 256) (B : Nat → Nat → Bool) (hB : Tells (dpf l) B) :
    Calls Tryz.prog 13 #[.slice la l.length lc] w fun e w' => ∃ va vc, e = .returned (.slice va (rcL B l fun _ _ => true).length vc) ∧ Rows w' 2 va vc ((rcL B l fun _ _ => true).map edg) ∧ Below w.heap.size w w' := by
  have cE : Calls Tryz.prog 43 #[.slice la l.length lc] w fun e w' => ∃ va vc, e = .returned (.slice va (edL B l).length vc) ∧ Rows w' 2 va vc ((edL B l).map edg) ∧ Below w.heap.size w w' := redges_any l la lc w hl hlen B hB
  have hin : Hid (∀ p ∈ edL B l, p.1 < p.2 ∧ p.2 < l.length) := fun p hp => edL_in hp
  have hEl : (edL B l).length ≤ 65536 := edL_len hlen
  have hEI : ((edL B l).length : Int) ≤ 65536 := by omega
  have hlH : Hid (Rows w 26 la lc (l.map Ev.cells)) := hl
  have hall : Hid (rcL B l (fun _ _ => true) = rpK B l (edL B l).length) := by show _ = _; unfold rpK rcL; rw [List.take_length]
  obtain ⟨iP, hiP, hzP, hsP, hbP⟩ := info_q infoPr
  have iPH : Hid (Tryz.prog.info? 71 = some iP ∧ iP.zero = some (.agg #[.int .i64 0, .int .i64 0]) ∧ iP.size = 2 ∧ iP.bytes = 16) := ⟨hiP, hzP, hsP, hbP⟩
  clear hl hlen hB hiP hzP hsP hbP
  generalize hDD : edL B l = D at *
  have hDH : Hid (edL B l = D) := hDD
  clear hDD
  go_enter Tryz.func13, Tryz.ntmps13
  go_wp2_with (go_at_call 43; (with_reducible refine cE.mono ?_); rintro e w1 ⟨da, dc, rfl, hr1, hb1⟩; (have hB1 : Hid (Below w.heap.size w w1 ∧ Rows w1 2 da dc (D.map edg)) := ⟨hb1, hr1⟩); clear hr1 hb1 cE)
  have s0 : Hid (PsS w1 w1 (rpK B l 0) none 0) := ⟨Below.refl _ _, own_nilR _ _ _ _⟩
  go_loopw [3, 5] (fun o u wr => ∃ (k : Nat) (va : Option Addr) (vc : Nat), k ≤ D.length ∧ u = .int .i64 (k : Int) ∧ o = .slice va (rpK B l k).length vc ∧ Hid (PsS w1 wr (rpK B l k) va vc)) (fun _ u _ => D.length - (intOf u).toNat)
  case atStart => exact ⟨0, none, 0, Nat.zero_le _, rfl, rfl, s0⟩
  case round =>
    clear s0
    obtain ⟨k, va, vc, hk, rfl, rfl, hs⟩ := hrel
    by_cases hlt : k < D.length
    · have hkI : (k : Int) < D.length := by omega
      obtain ⟨p, hp⟩ : ∃ p, D[k]? = some p := ⟨_, List.getElem?_eq_getElem hlt⟩
      obtain ⟨q1, q2⟩ := hin.out p (List.mem_of_getElem? hp)
      have hm := rpK_more (B := B) (l := l) (k := k) (p := p) (by rw [hDH.out]; exact hp)
      have hLk := rpK_len B l k
      obtain ⟨pi, pj⟩ := p
      have hpi : pi < l.length := by simp only at q1 q2; omega
      have hpj : pj < l.length := q2
      dsimp only at hm
      obtain ⟨c, o, xp, hc, rp⟩ := pr_at (hB1.out.2.later hs.out.be) hp
      obtain ⟨d1, o1, x1, hd1, r1⟩ := ev_at l la lc ((hlH.out.later hB1.out.1).later hs.out.be) (evf_at hpi)
      obtain ⟨d2, o2, x2, hd2, r2⟩ := ev_at l la lc ((hlH.out.later hB1.out.1).later hs.out.be) (evf_at hpj)
      have y0 : ∀ wx, (Instr.indexAt 71 (.pointer (some ⟨c, o, none⟩)) (.int .i64 0)).run Tryz.prog wx = .ok (.pointer (some ⟨c, o, none⟩)) wx := ix2m c o 0 (by omega)
      have y1 : ∀ wx, (Instr.indexAt 71 (.pointer (some ⟨c, o, none⟩)) (.int .i64 1)).run Tryz.prog wx = .ok (.pointer (some ⟨c, o + 1, none⟩)) wx := ix2m c o 1 (by omega)
      have hF : Hid (∀ w', Below wr.heap.size wr w' → w'.cell? ⟨c, o, none⟩ = some (.int .i64 (pi : Int)) ∧ w'.cell? ⟨c, o + 1, none⟩ = some (.int .i64 (pj : Int)) ∧ w'.cell? ⟨d1, o1, none⟩ = some (.int .i64 (evf l pi).go) ∧ w'.cell? ⟨d2, o2, none⟩ = some (.int .i64 (evf l pj).go)) := fun w' h => by
        have a1 := range_block rp (h.block c hc)
        exact ⟨a1 0 _ rfl, a1 1 _ rfl, range_block r1 (h.block d1 hd1) 0 _ rfl, range_block r2 (h.block d2 hd2) 0 _ rfl⟩
      have hS : Hid (Below wr.heap.size wr wr.drew) := bey_drew wr
      have hs2 : Hid (PsS w1 wr.drew (rpK B l k) va vc) := hs.out.later (bey_drew wr)
      have hrp : Hid (wr.drew.rangeAt c o (edg (pi, pj))) := range_block rp ((bey_drew wr).block c hc)
      have hLH : Hid ((rpK B l k).length + 1 ≤ 65536) := by show _ ≤ _; omega
      obtain ⟨gi, hgi⟩ : ∃ gi, (evf l pi).go = gi := ⟨_, rfl⟩
      obtain ⟨gj, hgj⟩ : ∃ gj, (evf l pj).go = gj := ⟨_, rfl⟩
      rw [hgi, hgj] at hF hm
      clear hp rp r1 r2 hc hd1 hd2 hs q1 q2 hgi hgj hLk
      go_wp2_with fail
      refine wp_region_noPanic ?_
      refine wp_region_held_drew (S := fun w' => Below wr.heap.size wr w') (by kernel_rfl) hS.out (fun _ => ?_)
      refine reg_move (i := 0) rfl (by kernel_rfl) (by kernel_rfl) (by kernel_rfl) (fun _ _ _ _ h => h) rfl (.slice la l.length lc) (fun _ => rfl) hS.out ?_
      simp only [Act.put, List.getElem_toArray, List.getElem_cons_succ, List.getElem_cons_zero, List.setIfInBounds_toArray, List.set_cons_zero, List.set_cons_succ]
      refine reg_move (i := 1) rfl (by kernel_rfl) (by kernel_rfl) (by kernel_rfl) (fun _ _ _ _ h => h) rfl (.slice da D.length dc) (fun _ => rfl) hS.out ?_
      simp only [Act.put, List.getElem_toArray, List.getElem_cons_succ, List.getElem_cons_zero, List.setIfInBounds_toArray, List.set_cons_zero, List.set_cons_succ]
      refine reg_move (i := 2) rfl (by kernel_rfl) (by kernel_rfl) (by kernel_rfl) (fun _ _ _ _ h => h) rfl (.int .i64 (k : Int)) (fun _ => rfl) hS.out ?_
      simp only [Act.put, List.getElem_toArray, List.getElem_cons_succ, List.getElem_cons_zero, List.setIfInBounds_toArray, List.set_cons_zero, List.set_cons_succ]
      refine reg_move (i := 3) rfl (by kernel_rfl) (by kernel_rfl) (by kernel_rfl) (fun _ _ _ _ h => h) rfl (.pointer (some ⟨c, o, none⟩)) (fun wx => by unfold execOp; exact run_value_of (xp wx)) hS.out ?_
      simp only [Act.put, List.getElem_toArray, List.getElem_cons_succ, List.getElem_cons_zero, List.setIfInBounds_toArray, List.set_cons_zero, List.set_cons_succ]
      refine reg_move (i := 4) rfl (by kernel_rfl) (by kernel_rfl) (by kernel_rfl) (fun _ _ _ _ h => h) rfl (.pointer (some ⟨c, o, none⟩)) (fun wx => by unfold execOp; exact run_value_of (y0 wx)) hS.out ?_
      simp only [Act.put, List.getElem_toArray, List.getElem_cons_succ, List.getElem_cons_zero, List.setIfInBounds_toArray, List.set_cons_zero, List.set_cons_succ]
      refine reg_load1 (i := 5) rfl (by kernel_rfl) (by kernel_rfl) (by kernel_rfl) (fun _ _ _ _ h => h) rfl 3 _ rfl ⟨c, o, none⟩ rfl _ Tryz.underlying3 rfl (.int .i64 (pi : Int)) (fun w' h' => (hF.out w' h').1) hS.out ?_
      simp only [Act.put, List.getElem_toArray, List.getElem_cons_succ, List.getElem_cons_zero, List.setIfInBounds_toArray, List.set_cons_zero, List.set_cons_succ]
      refine reg_move (i := 6) rfl (by kernel_rfl) (by kernel_rfl) (by kernel_rfl) (fun _ _ _ _ h => h) rfl (.pointer (some ⟨d1, o1, none⟩)) (fun wx => by unfold execOp; exact run_value_of (x1 wx)) hS.out ?_
      simp only [Act.put, List.getElem_toArray, List.getElem_cons_succ, List.getElem_cons_zero, List.setIfInBounds_toArray, List.set_cons_zero, List.set_cons_succ]
      refine reg_move (i := 7) rfl (by kernel_rfl) (by kernel_rfl) (by kernel_rfl) (fun _ _ _ _ h => h) rfl (.pointer (some ⟨d1, o1, none⟩)) (fun _ => by kernel_rfl) hS.out ?_
      simp only [Act.put, List.getElem_toArray, List.getElem_cons_succ, List.getElem_cons_zero, List.setIfInBounds_toArray, List.set_cons_zero, List.set_cons_succ]
      refine reg_load1 (i := 8) rfl (by kernel_rfl) (by kernel_rfl) (by kernel_rfl) (fun _ _ _ _ h => h) rfl 3 _ rfl ⟨d1, o1, none⟩ rfl _ Tryz.underlying3 rfl (.int .i64 gi) (fun w' h' => (hF.out w' h').2.2.1) hS.out ?_
      simp only [Act.put, List.getElem_toArray, List.getElem_cons_succ, List.getElem_cons_zero, List.setIfInBounds_toArray, List.set_cons_zero, List.set_cons_succ]
      refine reg_move (i := 9) rfl (by kernel_rfl) (by kernel_rfl) (by kernel_rfl) (fun _ _ _ _ h => h) rfl (.slice la l.length lc) (fun _ => rfl) hS.out ?_
      simp only [Act.put, List.getElem_toArray, List.getElem_cons_succ, List.getElem_cons_zero, List.setIfInBounds_toArray, List.set_cons_zero, List.set_cons_succ]
      refine reg_move (i := 10) rfl (by kernel_rfl) (by kernel_rfl) (by kernel_rfl) (fun _ _ _ _ h => h) rfl (.slice da D.length dc) (fun _ => rfl) hS.out ?_
      simp only [Act.put, List.getElem_toArray, List.getElem_cons_succ, List.getElem_cons_zero, List.setIfInBounds_toArray, List.set_cons_zero, List.set_cons_succ]
      refine reg_move (i := 11) rfl (by kernel_rfl) (by kernel_rfl) (by kernel_rfl) (fun _ _ _ _ h => h) rfl (.int .i64 (k : Int)) (fun _ => rfl) hS.out ?_
      simp only [Act.put, List.getElem_toArray, List.getElem_cons_succ, List.getElem_cons_zero, List.setIfInBounds_toArray, List.set_cons_zero, List.set_cons_succ]
      refine reg_move (i := 12) rfl (by kernel_rfl) (by kernel_rfl) (by kernel_rfl) (fun _ _ _ _ h => h) rfl (.pointer (some ⟨c, o, none⟩)) (fun wx => by unfold execOp; exact run_value_of (xp wx)) hS.out ?_
      simp only [Act.put, List.getElem_toArray, List.getElem_cons_succ, List.getElem_cons_zero, List.setIfInBounds_toArray, List.set_cons_zero, List.set_cons_succ]
      refine reg_move (i := 13) rfl (by kernel_rfl) (by kernel_rfl) (by kernel_rfl) (fun _ _ _ _ h => h) rfl (.pointer (some ⟨c, o + 1, none⟩)) (fun wx => by unfold execOp; exact run_value_of (y1 wx)) hS.out ?_
      simp only [Act.put, List.getElem_toArray, List.getElem_cons_succ, List.getElem_cons_zero, List.setIfInBounds_toArray, List.set_cons_zero, List.set_cons_succ]
      refine reg_load1 (i := 14) rfl (by kernel_rfl) (by kernel_rfl) (by kernel_rfl) (fun _ _ _ _ h => h) rfl 3 _ rfl ⟨c, o + 1, none⟩ rfl _ Tryz.underlying3 rfl (.int .i64 (pj : Int)) (fun w' h' => (hF.out w' h').2.1) hS.out ?_
      simp only [Act.put, List.getElem_toArray, List.getElem_cons_succ, List.getElem_cons_zero, List.setIfInBounds_toArray, List.set_cons_zero, List.set_cons_succ]
      refine reg_move (i := 15) rfl (by kernel_rfl) (by kernel_rfl) (by kernel_rfl) (fun _ _ _ _ h => h) rfl (.pointer (some ⟨d2, o2, none⟩)) (fun wx => by unfold execOp; exact run_value_of (x2 wx)) hS.out ?_
      simp only [Act.put, List.getElem_toArray, List.getElem_cons_succ, List.getElem_cons_zero, List.setIfInBounds_toArray, List.set_cons_zero, List.set_cons_succ]
      refine reg_move (i := 16) rfl (by kernel_rfl) (by kernel_rfl) (by kernel_rfl) (fun _ _ _ _ h => h) rfl (.pointer (some ⟨d2, o2, none⟩)) (fun _ => by kernel_rfl) hS.out ?_
      simp only [Act.put, List.getElem_toArray, List.getElem_cons_succ, List.getElem_cons_zero, List.setIfInBounds_toArray, List.set_cons_zero, List.set_cons_succ]
      refine reg_load1 (i := 17) rfl (by kernel_rfl) (by kernel_rfl) (by kernel_rfl) (fun _ _ _ _ h => h) rfl 3 _ rfl ⟨d2, o2, none⟩ rfl _ Tryz.underlying3 rfl (.int .i64 gj) (fun w' h' => (hF.out w' h').2.2.2) hS.out ?_
      simp only [Act.put, List.getElem_toArray, List.getElem_cons_succ, List.getElem_cons_zero, List.setIfInBounds_toArray, List.set_cons_zero, List.set_cons_succ]
      by_cases hg : gi = gj
      · have hst : Hid (rpK B l (k + 1) = rpK B l k) := by show _ = _; rw [hm, if_pos hg, List.append_nil]
        refine reg_move (i := 18) rfl (by kernel_rfl) (by kernel_rfl) (by kernel_rfl) (fun _ _ _ _ h => h) rfl (.bool false) (fun wx => by simp [execOp, go_sem, Act.eval]; exact hg) hS.out ?_
        simp only [Act.put, List.getElem_toArray, List.getElem_cons_succ, List.getElem_cons_zero, List.setIfInBounds_toArray, List.set_cons_zero, List.set_cons_succ]
        refine wpAnyH_done (by kernel_rfl) (NoPanic.normal ?_) _
        have hs3 : Hid (PsS w1 wr.drew (rpK B l (k + 1)) va vc) := by rw [hst.out]; exact hs2
        have hle : Hid ((rpK B l (k + 1)).length = (rpK B l k).length) := by show _ = _; rw [hst.out]
        clear hS hF hs2 hst hm hg xp x1 x2 y0 y1 hrp
        generalize wr.drew = W2 at *
        go_wp2
        go_roundw
        case rel => exact ⟨k + 1, va, vc, by omega, by go_num, by rw [hle.out], hs3⟩
        case measure => simp [intOf]; omega
      · have hst : Hid (rpK B l (k + 1) = rpK B l k ++ [(pi, pj)]) := by show _ = _; rw [hm, if_neg hg]
        refine reg_move (i := 18) rfl (by kernel_rfl) (by kernel_rfl) (by kernel_rfl) (fun _ _ _ _ h => h) rfl (.bool true) (fun wx => by simp [execOp, go_sem, Act.eval]; exact hg) hS.out ?_
        simp only [Act.put, List.getElem_toArray, List.getElem_cons_succ, List.getElem_cons_zero, List.setIfInBounds_toArray, List.set_cons_zero, List.set_cons_succ]
        refine wpAnyH_done (by kernel_rfl) (NoPanic.normal ?_) _
        clear hS hF hm hg x1 x2 y0 y1
        obtain ⟨L, hL⟩ : ∃ L, rpK B l k = L := ⟨_, rfl⟩
        rw [hL] at hs2 hLH hst ⊢
        generalize wr.drew = W2 at *
        go_wp2_with (first
          | (refine wpList_load_mid rfl 71 _ rfl c o rfl [.int .i64 (pi : Int), .int .i64 (pj : Int)] _ hrp.out Tryz.underlying71 rfl info2 ?_)
          | (at_builtin; (refine wpList_app1 (wr := W2) rfl (.tmp 33) (.tmp 38) 23 rfl w1.heap.size 71 iP _ 2 16 Tryz.underlying23 iPH.out.1 iPH.out.2.1 iPH.out.2.2.1 iPH.out.2.2.2 rfl (by decide) va vc (L.map edg) (by rw [List.length_map]; rfl) hs2.out.ow (edg (pi, pj)) rfl rfl (one2e _) (by rw [List.length_map]; unfold maxLen; have := hLH.out; omega) (by rw [List.length_map]; have := hLH.out; omega) hs2.out.be.size ?_); intro va' vc' w8 hg; rw [List.length_map]; (have hs3 : Hid (PsS w1 w8 (rpK B l (k + 1)) va' vc') := by (rw [hst.out]; exact hs2.out.grown hg)); (have hle : Hid (L.length + 1 = (rpK B l (k + 1)).length) := by (show _ = _; rw [hst.out, List.length_append]; rfl)); clear hg))
        go_roundw
        case rel => exact ⟨k + 1, va', vc', by omega, by go_num, by rw [← hle.out], hs3⟩
        case measure => simp [intOf]; omega
    · have hkl : k = D.length := by omega
      subst hkl
      have hfin : Hid (Rows wr 2 va vc ((rcL B l fun _ _ => true).map edg) ∧ Below w.heap.size w wr) := by
        rw [hall.out]
        exact ⟨own_rows hs.out.ow fun row hm => by rw [List.mem_map] at hm; obtain ⟨y, _, rfl⟩ := hm; rfl, bthen hB1.out.1 hs.out.be⟩
      clear hs
      go_wp2
      go_ret
      exact ⟨va, vc, by rw [hall.out]; rfl, hfin.out⟩
end Go.Proofs.YtafefnkgdnmjbaaGreatDoor.pg
/- How what is found is put in order: package verdict's Compare. -/
namespace Go.Proofs.YtafefnkgdnmjbaaGreatDoor.pg
open Go.ChangeShapes Go.WideShapes Go.ChangeAt Go.RowKit
set_option linter.unusedVariables false
set_option linter.unusedSimpArgs false
set_option maxRecDepth 100000
attribute [local go_sem ↓] Go.wp_at_zero Go.wp_at_succ
/-- Something found. -/
structure Fd where
  k : Int
  af : Int
  ap : Int
  bf : Int
  bp : Int
  n : Int
  y : Int
  deriving DecidableEq
def Fd.cells (x : Fd) : List Value := [.int .i64 x.k, .int .i64 x.af, .int .i64 x.ap, .int .i64 x.bf, .int .i64 x.bp, .int .i64 x.n, .int .i64 x.y]
abbrev Fd.val (x : Fd) : Value := .agg #[.int .i64 x.k, .int .i64 x.af, .int .i64 x.ap, .int .i64 x.bf, .int .i64 x.bp, .int .i64 x.n, .int .i64 x.y]
abbrev objFd (x : Fd) : Obj := .cells #[.int .i64 x.k, .int .i64 x.af, .int .i64 x.ap, .int .i64 x.bf, .int .i64 x.bp, .int .i64 x.n, .int .i64 x.y] 84
abbrev spV (f p : Int) : Value := .agg #[.int .i64 f, .int .i64 p]
abbrev objSp (f p : Int) : Obj := .cells #[.int .i64 f, .int .i64 p] 82
theorem cell_ofV {w : World} {B k : Nat} {cs : Array Value} {t : TypeId} {fr : Nat × Nat} {v : Value} (h : w.heap[B]? = some (.cells cs t fr)) (hv : cs[k]? = some v) : w.cell? ⟨B, k, none⟩ = some v := by rw [cell_of_row w B k _ _ _ h]; exact hv
theorem range_ofV {w : World} {B o : Nat} {cs : Array Value} {t : TypeId} {fr : Nat × Nat} {l : List Value} (h : w.heap[B]? = some (.cells cs t fr)) (hl : ∀ j v, l[j]? = some v → cs[o + j]? = some v) : w.rangeAt B o l := fun j v hv => cell_ofV h (hl j v hv)
/-- Nothing but new memory and drawn orders. -/
def Gw (w w' : World) : Prop := ∃ q os, w' = Go.Sort.grow (w.drewN q) os
theorem Gw.refl (w : World) : Gw w w := ⟨0, #[], by unfold Go.Sort.grow; rw [Array.append_empty]; rfl⟩
theorem Gw.al (w : World) (o : Obj) : Gw w (w.alloc o) := ⟨0, #[o], by rw [Go.Sort.alloc_eq_grow]; rfl⟩
theorem Gw.dr (w : World) : Gw w w.drew := ⟨1, #[], by unfold Go.Sort.grow; rw [Array.append_empty]; rfl⟩
theorem Gw.trans {a b c : World} (h : Gw a b) (k : Gw b c) : Gw a c := by
  obtain ⟨q, os, rfl⟩ := h
  obtain ⟨q', os', rfl⟩ := k
  exact ⟨q + q', os ++ os', by simp [Go.Sort.grow, World.drewN, Array.append_assoc, Nat.add_assoc]⟩
theorem Gw.below {a b : World} (h : Gw a b) : Below a.heap.size a b := by
  obtain ⟨q, os, rfl⟩ := h
  refine ⟨rfl, rfl, rfl, by simp [Go.Sort.grow, World.drewN], fun k hk => ?_⟩
  simp only [Go.Sort.grow, World.drewN]
  exact Array.getElem?_append_left hk
theorem Gw.blk {a b : World} (h : Gw a b) {B : Nat} {o : Obj} (hB : a.heap[B]? = some o) : b.heap[B]? = some o := (h.below.block B (Array.getElem?_eq_some_iff.mp hB).1).trans hB
def cmpV (a b : Int) : Int := if a < b then -1 else if b < a then 1 else 0
theorem nanV (a : Int) (w : World) : Calls Tryz.prog 100 #[.int .i64 a] w fun e w' => e = .returned (.bool false) ∧ w' = w := by
  go_enter Tryz.func100, Tryz.ntmps100
  go_wp2
  go_ret
  exact ⟨ret_b (by simp), rfl⟩
theorem cmpV_any (a b : Int) (w : World) : Calls Tryz.prog 52 #[.int .i64 a, .int .i64 b] w fun e w' => e = .returned (.int .i64 (cmpV a b)) ∧ w' = w := by
  have c := fun x wx => nanV x wx
  by_cases h1 : a < b
  · have hH : Hid (cmpV a b = -1) := by show _ = _; simp [cmpV, h1]
    go_enter Tryz.func52, Tryz.ntmps52
    go_wp2_with (go_at_call 100; refine (c _ _).mono ?_; rintro e w' ⟨rfl, rfl⟩)
    go_ret
    exact ⟨by rw [hH.out]; rfl, rfl⟩
  · by_cases h2 : b < a
    · have hH : Hid (cmpV a b = 1) := by show _ = _; simp [cmpV, h1, h2]
      go_enter Tryz.func52, Tryz.ntmps52
      go_wp2_with (go_at_call 100; refine (c _ _).mono ?_; rintro e w' ⟨rfl, rfl⟩)
      go_ret
      exact ⟨by rw [hH.out]; rfl, rfl⟩
    · have hH : Hid (cmpV a b = 0) := by show _ = _; simp [cmpV, h1, h2]
      go_enter Tryz.func52, Tryz.ntmps52
      go_wp2_with (go_at_call 100; refine (c _ _).mono ?_; rintro e w' ⟨rfl, rfl⟩)
      go_ret
      exact ⟨by rw [hH.out]; rfl, rfl⟩
def orV (c d : Int) : Int := if c = 0 then d else c
set_option maxHeartbeats 1000000 in
theorem or2_any (c0 c1 : Int) (g : Nat) (w : World) (h0 : w.cell? ⟨g, 0, none⟩ = some (.int .i64 c0)) (h1 : w.cell? ⟨g, 1, none⟩ = some (.int .i64 c1)) (R : Int) (hR : Hid (R = (orV c0 c1))) : Calls Tryz.prog 51 #[.slice (some ⟨g, 0, none⟩) 2 2] w fun e w' => e = .returned (.int .i64 R) ∧ w' = w := by
  go_enter Tryz.func51, Tryz.ntmps51
  go_wp2
  go_loopw [8] (fun u wr => (u = .int .i64 0 ∨ u = .int .i64 1 ∧ c0 = 0 ∨ u = .int .i64 2 ∧ c0 = 0 ∧ c1 = 0) ∧ wr = w) (fun u _ => 2 - (intOf u).toNat)
  case atStart => exact ⟨.inl rfl, rfl⟩
  case round =>
    obtain ⟨hr, rfl⟩ := hrel
    rcases hr with rfl | ⟨rfl, rfl⟩ | ⟨rfl, rfl, rfl⟩
    · by_cases hc : c0 = 0
      · subst hc
        go_wp2
        go_roundw
        case rel => exact ⟨.inr (.inl ⟨rfl, by simp⟩), by first | rfl | trivial⟩
        case measure => simp [intOf]
      · have hb : (c0 == 0) = false := by simpa using hc
        have hH : Hid (R = c0) := by show _ = _; rw [hR.out]; simp [orV, hc]
        clear hc hR
        go_wp2
        go_ret
        exact ⟨by rw [hH.out]; rfl, rfl⟩
    · by_cases hc : c1 = 0
      · subst hc
        go_wp2
        go_roundw
        case rel => exact ⟨.inr (.inr ⟨rfl, by simp⟩), by first | rfl | trivial⟩
        case measure => simp [intOf]
      · have hb : (c1 == 0) = false := by simpa using hc
        have hH : Hid (R = c1) := by show _ = _; rw [hR.out]; simp [orV, hc]
        clear hc hR
        go_wp2
        go_ret
        exact ⟨by rw [hH.out]; rfl, rfl⟩
    · have hH : Hid (R = 0) := by show _ = _; rw [hR.out]; simp [orV]
      clear hR
      go_wp2
      go_ret
      exact ⟨by rw [hH.out]; rfl, rfl⟩
set_option maxHeartbeats 1000000 in
theorem or5_any (c0 c1 c2 c3 c4 : Int) (g : Nat) (w : World) (h0 : w.cell? ⟨g, 0, none⟩ = some (.int .i64 c0)) (h1 : w.cell? ⟨g, 1, none⟩ = some (.int .i64 c1)) (h2 : w.cell? ⟨g, 2, none⟩ = some (.int .i64 c2)) (h3 : w.cell? ⟨g, 3, none⟩ = some (.int .i64 c3)) (h4 : w.cell? ⟨g, 4, none⟩ = some (.int .i64 c4)) (R : Int) (hR : Hid (R = (orV c0 (orV c1 (orV c2 (orV c3 c4)))))) : Calls Tryz.prog 51 #[.slice (some ⟨g, 0, none⟩) 5 5] w fun e w' => e = .returned (.int .i64 R) ∧ w' = w := by
  go_enter Tryz.func51, Tryz.ntmps51
  go_wp2
  go_loopw [8] (fun u wr => (u = .int .i64 0 ∨ u = .int .i64 1 ∧ c0 = 0 ∨ u = .int .i64 2 ∧ c0 = 0 ∧ c1 = 0 ∨ u = .int .i64 3 ∧ c0 = 0 ∧ c1 = 0 ∧ c2 = 0 ∨ u = .int .i64 4 ∧ c0 = 0 ∧ c1 = 0 ∧ c2 = 0 ∧ c3 = 0 ∨ u = .int .i64 5 ∧ c0 = 0 ∧ c1 = 0 ∧ c2 = 0 ∧ c3 = 0 ∧ c4 = 0) ∧ wr = w) (fun u _ => 5 - (intOf u).toNat)
  case atStart => exact ⟨.inl rfl, rfl⟩
  case round =>
    obtain ⟨hr, rfl⟩ := hrel
    rcases hr with rfl | ⟨rfl, rfl⟩ | ⟨rfl, rfl, rfl⟩ | ⟨rfl, rfl, rfl, rfl⟩ | ⟨rfl, rfl, rfl, rfl, rfl⟩ | ⟨rfl, rfl, rfl, rfl, rfl, rfl⟩
    · by_cases hc : c0 = 0
      · subst hc
        go_wp2
        go_roundw
        case rel => exact ⟨.inr (.inl ⟨rfl, by simp⟩), by first | rfl | trivial⟩
        case measure => simp [intOf]
      · have hb : (c0 == 0) = false := by simpa using hc
        have hH : Hid (R = c0) := by show _ = _; rw [hR.out]; simp [orV, hc]
        clear hc hR
        go_wp2
        go_ret
        exact ⟨by rw [hH.out]; rfl, rfl⟩
    · by_cases hc : c1 = 0
      · subst hc
        go_wp2
        go_roundw
        case rel => exact ⟨.inr (.inr (.inl ⟨rfl, by simp⟩)), by first | rfl | trivial⟩
        case measure => simp [intOf]
      · have hb : (c1 == 0) = false := by simpa using hc
        have hH : Hid (R = c1) := by show _ = _; rw [hR.out]; simp [orV, hc]
        clear hc hR
        go_wp2
        go_ret
        exact ⟨by rw [hH.out]; rfl, rfl⟩
    · by_cases hc : c2 = 0
      · subst hc
        go_wp2
        go_roundw
        case rel => exact ⟨.inr (.inr (.inr (.inl ⟨rfl, by simp⟩))), by first | rfl | trivial⟩
        case measure => simp [intOf]
      · have hb : (c2 == 0) = false := by simpa using hc
        have hH : Hid (R = c2) := by show _ = _; rw [hR.out]; simp [orV, hc]
        clear hc hR
        go_wp2
        go_ret
        exact ⟨by rw [hH.out]; rfl, rfl⟩
    · by_cases hc : c3 = 0
      · subst hc
        go_wp2
        go_roundw
        case rel => exact ⟨.inr (.inr (.inr (.inr (.inl ⟨rfl, by simp⟩)))), by first | rfl | trivial⟩
        case measure => simp [intOf]
      · have hb : (c3 == 0) = false := by simpa using hc
        have hH : Hid (R = c3) := by show _ = _; rw [hR.out]; simp [orV, hc]
        clear hc hR
        go_wp2
        go_ret
        exact ⟨by rw [hH.out]; rfl, rfl⟩
    · by_cases hc : c4 = 0
      · subst hc
        go_wp2
        go_roundw
        case rel => exact ⟨.inr (.inr (.inr (.inr (.inr ⟨rfl, by simp⟩)))), by first | rfl | trivial⟩
        case measure => simp [intOf]
      · have hb : (c4 == 0) = false := by simpa using hc
        have hH : Hid (R = c4) := by show _ = _; rw [hR.out]; simp [orV, hc]
        clear hc hR
        go_wp2
        go_ret
        exact ⟨by rw [hH.out]; rfl, rfl⟩
    · have hH : Hid (R = 0) := by show _ = _; rw [hR.out]; simp [orV]
      clear hR
      go_wp2
      go_ret
      exact ⟨by rw [hH.out]; rfl, rfl⟩
theorem infoN_V : (Tryz.prog.info? 3).map (fun i => (i.zero, i.size, i.bytes)) = some (some (.int .i64 0), 1, 8) := by kernel_rfl
theorem infoSp : (Tryz.prog.info? 82).map (·.size) = some 2 := by kernel_rfl
theorem infoFd : (Tryz.prog.info? 84).map (·.size) = some 7 := by kernel_rfl
/-- The order of what is found. -/
def cmpF (a b : Fd) : Int := orV (cmpV a.k b.k) (orV (cmpV a.n b.n) (orV (orV (cmpV a.af b.af) (cmpV a.ap b.ap)) (orV (orV (cmpV a.bf b.bf) (cmpV a.bp b.bp)) (cmpV a.y b.y))))
end Go.Proofs.YtafefnkgdnmjbaaGreatDoor.pg
