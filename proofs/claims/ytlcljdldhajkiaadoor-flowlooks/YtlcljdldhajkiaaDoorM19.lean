/- What a list of accesses holds; the next places, new. -/
import Derived.Test.YtlcljdldhajkiaaDoorM15
import Derived.Test.YtlcljdldhajkiaaDoorM18
import Derived.BigQuiet
namespace Go.Proofs.YtlcljdldhajkiaaDoor.pg
open Go.ChangeShapes Go.WideShapes Go.ChangeAt Go.RowKit Go.Shelf
set_option linter.unusedVariables false
set_option linter.unusedSimpArgs false
set_option maxRecDepth 100000
theorem rows_keepF {w w' : World} {k : Nat} {a : Option Addr} {cap : Nat} {L : List (List Value)} (h : Rows w k a cap L) (hs : w.heap.size ≤ w'.heap.size) (hk : ∀ b ∈ blk a, w'.heap[b]? = w.heap[b]?) : Rows w' k a cap L := by
  obtain ⟨h1, h2, h3, h4⟩ := h
  refine ⟨h1, h2, h3, h4.imp_right fun ⟨b, off, ha, hlt, hc⟩ => ⟨b, off, ha, by omega, fun i row hi => ⟨(hc i row hi).1, fun j u hj => ?_⟩⟩⟩
  subst ha
  exact cell_keepQ ((hc i row hi).2 j u hj) (hk b (by simp [blk]))
theorem accQ_ix {w : World} {a : Option Addr} {cap : Nat} {L : List AcQ} (h : Rows w 3 a cap (L.map AcQ.cells)) (i : Nat) (x : AcQ) (hi : L[i]? = some x) :
    ∃ b o, (∀ wx, (Instr.indexAt 27 (.slice a L.length cap) (.int .i64 (i : Int))).run Tryd.prog wx = .ok (.pointer (some ⟨b, o, none⟩)) wx) ∧ b < w.heap.size ∧ w.rangeAt b o x.cells := by
  obtain ⟨b, o, hr, hlt, hc⟩ := h.ix 27 53 Tryd.underlying27 (by kernel_rfl) (fun wx => Tryd.sizeOf53 wx) i (row := x.cells) (by simp [hi])
  rw [List.length_map] at hr
  exact ⟨b, o, hr, hlt, fun j v hj => hc j v hj⟩
/-- Does one access hold another? -/
def fitsQ (b a : AcQ) : Prop := b.kind = a.kind ∧ b.num = a.num ∧ (b.wr = true ∨ a.wr = false)
set_option maxHeartbeats 4000000 in
theorem holds_any (l : List AcQ) (a : Option Addr) (ca : Nat) (x : AcQ) (w : World) (ha : Rows w 3 a ca (l.map AcQ.cells)) (hx : hldA l x) :
    Calls Tryd.prog 24 #[.slice a l.length ca, .agg #[.int .i64 x.kind, .int .i64 x.num, .bool x.wr]] w fun e w' => e = .returned (.bool true) ∧ Below w.heap.size w w' := by
  have hlI : (l.length : Int) ≤ 9223372036854775807 := rows_len ha
  have haH : Hid (Rows w 3 a ca (l.map AcQ.cells)) := ha
  have hxH : Hid (hldA l x) := hx
  obtain ⟨ak, an, aw⟩ := x
  have hb0 : Hid (Below w.heap.size w (w.alloc (.cells #[.int .i64 ak, .int .i64 an, .bool aw] 53)) ∧ (w.alloc (.cells #[.int .i64 ak, .int .i64 an, .bool aw] 53)).heap[w.heap.size]? = some (.cells #[.int .i64 ak, .int .i64 an, .bool aw] 53)) := ⟨boxed _ _, heap_alloc_new _ _⟩
  clear ha hx
  go_enter Tryd.func24, Tryd.ntmps24
  go_wp2_with fail
  generalize w.alloc (.cells #[.int .i64 ak, .int .i64 an, .bool aw] 53) = W at *
  go_loopw [5] (fun u wr => ∃ k : Nat, k ≤ l.length ∧ u = .int .i64 (k : Int) ∧ Hid (Below W.heap.size W wr ∧ ∀ i y, i < k → l[i]? = some y → ¬ fitsQ y ⟨ak, an, aw⟩)) (fun u _ => l.length - (intOf u).toNat)
  case atStart => exact ⟨0, Nat.zero_le _, rfl, Below.refl _ _, fun i y hi => by omega⟩
  case round =>
    obtain ⟨k, hk, rfl, hs⟩ := hrel
    have hBw : Hid (Below w.heap.size w wr ∧ wr.heap[w.heap.size]? = some (.cells #[.int .i64 ak, .int .i64 an, .bool aw] 53)) := ⟨bthen hb0.out.1 hs.out.1, blk_onQ hb0.out.2 hs.out.1⟩
    by_cases hlt : k < l.length
    · obtain ⟨y, hy, hym⟩ := get_lt l k hlt
      obtain ⟨b1, o1, x1, l1, c1⟩ := accQ_ix (haH.out.later hBw.out.1) k y hy
      obtain ⟨yk, yn, yw⟩ := y
      have q0 : wr.cell? ⟨b1, o1, none⟩ = some (.int .i64 yk) := c1 0 _ rfl
      have q1 : wr.cell? ⟨b1, o1 + 1, none⟩ = some (.int .i64 yn) := c1 1 _ rfl
      have q2 : wr.cell? ⟨b1, o1 + 2, none⟩ = some (.bool yw) := c1 2 _ rfl
      have p0 : wr.cell? ⟨w.heap.size, 0, none⟩ = some (.int .i64 ak) := cell_lcQ hBw.out.2 rfl
      have p1 : wr.cell? ⟨w.heap.size, 1, none⟩ = some (.int .i64 an) := cell_lcQ hBw.out.2 rfl
      have p2 : wr.cell? ⟨w.heap.size, 2, none⟩ = some (.bool aw) := cell_lcQ hBw.out.2 rfl
      have hkI : (k : Int) < l.length := by omega
      have hnx : Hid (¬ fitsQ ⟨yk, yn, yw⟩ ⟨ak, an, aw⟩ → Below W.heap.size W wr ∧ ∀ i y, i < k + 1 → l[i]? = some y → ¬ fitsQ y ⟨ak, an, aw⟩) := fun hn => ⟨hs.out.1, fun i z hi hz => by
        by_cases c : i = k
        · subst c; rw [hy] at hz; cases hz; exact hn
        · exact hs.out.2 i z (by omega) hz⟩
      have hBd : Hid (Below w.heap.size w wr) := hBw.out.1
      clear hs hBw hy hym c1 l1
      by_cases e1 : ak = yk
      · subst e1
        have d1 : (ak == ak) = true := by simp
        by_cases e2 : an = yn
        · subst e2
          have d2 : (an == an) = true := by simp
          cases yw with
          | true =>
            go_wp2_with fail
            go_quiet (fail)
            go_wp2
            go_ret
            exact ⟨rfl, below_drewN hBd.out _⟩

          | false =>
            cases aw with
            | false =>
              go_wp2_with fail
              go_quiet (fail)
              go_wp2
              go_ret
              exact ⟨rfl, below_drewN hBd.out _⟩

            | true =>
              have hs2 : Hid (Below W.heap.size W wr ∧ ∀ i y, i < k + 1 → l[i]? = some y → ¬ fitsQ y ⟨ak, an, true⟩) := hnx.out (fun q => by rcases q.2.2 with h | h <;> cases h)
              clear hnx hBd
              go_wp2_with fail
              go_quiet (fail)
              go_wp2
              go_roundw
              case rel => exact ⟨k + 1, by omega, by go_num, below_drewN hs2.out.1 _, hs2.out.2⟩
              case measure => simp [intOf]; omega

        · have d2 : (yn == an) = false := beq_eq_false_iff_ne.mpr (Ne.symm e2)
          have hs2 : Hid (Below W.heap.size W wr ∧ ∀ i y, i < k + 1 → l[i]? = some y → ¬ fitsQ y ⟨ak, an, aw⟩) := hnx.out (fun q => e2 q.2.1.symm)
          clear hnx hBd
          go_wp2_with fail
          go_quiet (fail)
          go_wp2
          go_roundw
          case rel => exact ⟨k + 1, by omega, by go_num, below_drewN hs2.out.1 _, hs2.out.2⟩
          case measure => simp [intOf]; omega

      · have d1 : (yk == ak) = false := beq_eq_false_iff_ne.mpr (Ne.symm e1)
        have hs2 : Hid (Below W.heap.size W wr ∧ ∀ i y, i < k + 1 → l[i]? = some y → ¬ fitsQ y ⟨ak, an, aw⟩) := hnx.out (fun q => e1 q.1.symm)
        clear hnx hBd
        go_wp2_with fail
        go_quiet (fail)
        go_wp2
        go_roundw
        case rel => exact ⟨k + 1, by omega, by go_num, below_drewN hs2.out.1 _, hs2.out.2⟩
        case measure => simp [intOf]; omega

    · exfalso
      obtain ⟨b, hb, hf⟩ := hxH.out
      obtain ⟨i, hi⟩ := List.getElem?_of_mem hb
      exact hs.out.2 i b (by have := (List.getElem?_eq_some_iff.mp hi).1; omega) hi hf
set_option maxHeartbeats 2000000 in
theorem fnext_own (M : MPr) (f : Int) (pc : Nat) (w : World) (hM : M.lies w) (hF : prog.Forms w) (F : MFn) (hFi : M.fns[f.toNat]? = some F) (hfl : FlowF F.fn) (f0 : 0 ≤ f) (hpc : pc < F.code.length) (hfit : fitP M.pr f pc = 0) :
    Calls Tryd.prog 23 #[M.val, .int .i64 f, .int .i64 (pc : Int)] w fun e w' => ∃ va vc, e = .returned (.tuple #[.slice va (lst (bAll F.fn (onePl pc) F.code.length) 64).length vc, .int .i64 0]) ∧ Rows w' 1 va vc ((lst (bAll F.fn (onePl pc) F.code.length) 64).map chCells) ∧ Below w.heap.size w w' ∧ ∀ b ∈ blk va, w.heap.size ≤ b ∧ b < w'.heap.size := by
  have hb := boxed w (objP M)
  have bP := boxP_new w M
  have hFm := List.mem_of_getElem? hFi
  have hcall := fcheckPlace_any M f (pc : Int) _ (hM.later hb) (hF.later hb) 0 hfit.symm
  have hMH : Hid (M.lies w) := hM
  have bPH : Hid (BoxP (w.alloc (objP M)) w.heap.size M) := bP
  have hbH : Hid (Below w.heap.size w (w.alloc (objP M))) := hb
  have hl64 : pc < 64 := by have := hfl.l64; have h : F.fn.code.length = F.code.length := rfl; omega
  clear hM hF hfit hb
  go_enter Tryd.func23, Tryd.ntmps23
  go_wp2_with (go_at_call 25; (with_reducible refine hcall.mono ?_); rintro e w2 ⟨rfl, hb2⟩; clear bP)
  have hbW : Below w.heap.size w w2 := bthen hbH.out hb2
  have hPc := bPH.out.later hb2
  obtain ⟨fb, fo, hfix, hfb, fc0, fc1, fc2, fc3⟩ := fn_ix (hMH.out.later hbW).2.2.1 f.toNat F hFi
  rw [show ((f.toNat : Nat) : Int) = f by omega] at hfix
  have hlF : Hid (F.lies w) := hMH.out.2.2.2.2.2.2 F hFm
  clear hb2 hcall
  have hH : Below w2.heap.size w2 w2.drew := bey_drew w2
  have hrF : ∀ w', Below w2.heap.size w2 w' → w'.rangeAt fb fo [.int .i64 F.params, .int .i64 F.regs, .slice F.ca F.code.length F.ccap, .slice F.sa F.sels.length F.scap] := fun w' h' j v hj => by
    match j, hj with
    | 0, hj => cases hj; exact cell_later h' fc0
    | 1, hj => cases hj; exact cell_later h' fc1
    | 2, hj => cases hj; exact cell_later h' fc2
    | 3, hj => cases hj; exact cell_later h' fc3
  refine wp_region_held_drew (S := fun w' => Below w2.heap.size w2 w') (by kernel_rfl) hH (fun _ => ?_)
  refine reg_move (i := 0) rfl (by kernel_rfl) (by kernel_rfl) (by kernel_rfl) (fun _ _ _ _ h => h) rfl (.pointer (some ⟨w.heap.size, 3, none⟩)) (fun _ => by kernel_rfl) hH ?_
  simp only [Act.put, List.getElem_toArray, List.getElem_cons_succ, List.getElem_cons_zero, List.setIfInBounds_toArray, List.set_cons_zero, List.set_cons_succ]
  refine reg_load1 (i := 1) rfl (by kernel_rfl) (by kernel_rfl) (by kernel_rfl) (fun _ _ _ _ h => h) rfl 24 _ rfl ⟨w.heap.size, 3, none⟩ rfl _ Tryd.underlying24 rfl (.slice M.fa M.fns.length M.fcap) (fun w' h' => cell_later h' hPc.2.2.2) hH ?_
  simp only [Act.put, List.getElem_toArray, List.getElem_cons_succ, List.getElem_cons_zero, List.setIfInBounds_toArray, List.set_cons_zero, List.set_cons_succ]
  refine reg_move (i := 2) rfl (by kernel_rfl) (by kernel_rfl) (by kernel_rfl) (fun _ _ _ _ h => h) rfl (.int .i64 f) (fun _ => by kernel_rfl) hH ?_
  simp only [Act.put, List.getElem_toArray, List.getElem_cons_succ, List.getElem_cons_zero, List.setIfInBounds_toArray, List.set_cons_zero, List.set_cons_succ]
  refine reg_move (i := 3) rfl (by kernel_rfl) (by kernel_rfl) (by kernel_rfl) (fun _ _ _ _ h => h) rfl (.pointer (some ⟨fb, fo, none⟩)) (fun wx => by unfold execOp; exact run_valueF (hfix wx)) hH ?_
  simp only [Act.put, List.getElem_toArray, List.getElem_cons_succ, List.getElem_cons_zero, List.setIfInBounds_toArray, List.set_cons_zero, List.set_cons_succ]
  refine reg_load (i := 4) rfl (by kernel_rfl) (by kernel_rfl) (by kernel_rfl) (fun _ _ _ _ h => h) rfl 62 _ rfl fb fo rfl [.int .i64 F.params, .int .i64 F.regs, .slice F.ca F.code.length F.ccap, .slice F.sa F.sels.length F.scap] _ hrF Tryd.underlying62 rfl (by kernel_rfl) hH ?_
  simp only [Act.put, List.getElem_toArray, List.getElem_cons_succ, List.getElem_cons_zero, List.setIfInBounds_toArray, List.set_cons_zero, List.set_cons_succ]
  refine reg_move (i := 5) rfl (by kernel_rfl) (by kernel_rfl) (by kernel_rfl) (fun _ _ _ _ h => h) rfl (.int .i64 (pc : Int)) (fun _ => by kernel_rfl) hH ?_
  simp only [Act.put, List.getElem_toArray, List.getElem_cons_succ, List.getElem_cons_zero, List.setIfInBounds_toArray, List.set_cons_zero, List.set_cons_succ]
  refine reg_call1 (i := 6) (by kernel_rfl) rfl rfl 46 _ _ rfl (.int .i64 (pc : Int)) rfl (cf_fn Tryd.func46 (by kernel_rfl) (by kernel_rfl) _ _) _ (just_any pc hl64 _) ?_
  rintro e3 w3 ⟨rfl, hb3⟩
  have hH3 : Below w2.heap.size w2 w3 := bthen hH hb3
  refine ⟨_, rfl, hH3, fun _ => ?_⟩
  simp only [Act.put, List.getElem_toArray, List.getElem_cons_succ, List.getElem_cons_zero, List.setIfInBounds_toArray, List.set_cons_zero, List.set_cons_succ]
  refine reg_call2 (i := 7) (by kernel_rfl) rfl rfl 45 _ _ _ _ rfl F.val (.agg (boolRow 64 (onePl pc))) rfl rfl (cf_fn Tryd.func45 (by kernel_rfl) (by kernel_rfl) _ _) _ (behindAll_any F (onePl pc) w3 (hlF.out.later (bthen hbW hH3)) hfl) ?_
  rintro e4 w4 ⟨rfl, hb4⟩
  have hH4 : Below w2.heap.size w2 w4 := bthen hH3 hb4
  refine ⟨_, rfl, hH4, fun _ => ?_⟩
  simp only [Act.put, List.getElem_toArray, List.getElem_cons_succ, List.getElem_cons_zero, List.setIfInBounds_toArray, List.set_cons_zero, List.set_cons_succ]
  refine reg_call1 (i := 8) (by kernel_rfl) rfl rfl 36 _ _ rfl (.agg (boolRow 64 (bAll F.fn (onePl pc) F.code.length))) rfl (cf_fn Tryd.func36 (by kernel_rfl) (by kernel_rfl) _ _) _ (list_any _ _) ?_
  rintro e5 w5 ⟨va, vc, rfl, hls⟩
  have hH5 : Below w2.heap.size w2 w5 := bthen hH4 hls.be
  refine ⟨_, rfl, hH5, fun _ => ?_⟩
  simp only [Act.put, List.getElem_toArray, List.getElem_cons_succ, List.getElem_cons_zero, List.setIfInBounds_toArray, List.set_cons_zero, List.set_cons_succ]
  refine reg_move (i := 9) rfl (by kernel_rfl) (by kernel_rfl) (by kernel_rfl) (fun _ _ _ _ h => h) rfl (.slice va (lst (bAll F.fn (onePl pc) F.code.length) 64).length vc) (fun _ => rfl) hH5 ?_
  simp only [Act.put, List.getElem_toArray, List.getElem_cons_succ, List.getElem_cons_zero, List.setIfInBounds_toArray, List.set_cons_zero, List.set_cons_succ]
  refine reg_move (i := 10) rfl (by kernel_rfl) (by kernel_rfl) (by kernel_rfl) (fun _ _ _ _ h => h) rfl (.int .i64 0) (fun _ => by kernel_rfl) hH5 ?_
  simp only [Act.put, List.getElem_toArray, List.getElem_cons_succ, List.getElem_cons_zero, List.setIfInBounds_toArray, List.set_cons_zero, List.set_cons_succ]
  refine wpAnyH_done (by kernel_rfl) ?_ _
  have hrw : Hid (Rows w5 1 va vc ((lst (bAll F.fn (onePl pc) F.code.length) 64).map chCells)) := hls.rows
  have hbE : Hid (Below w.heap.size w w5) := bthen hbW hH5
  have hbk : Hid (∀ b ∈ blk va, w.heap.size ≤ b ∧ b < w5.heap.size) := fun b hb => by have h1 := blk_lt hls.ow b hb; have h2 := (bthen hbW hH4).size; omega
  clear hls hrF hfix hPc fc0 fc1 fc2 fc3
  generalize hLL : lst (bAll F.fn (onePl pc) F.code.length) 64 = LL at *
  go_wp2
  go_ret2
  exact ⟨va, vc, by rw [hLL]; rfl, by rw [hLL]; exact hrw.out, hbE.out, hbk.out⟩
end Go.Proofs.YtlcljdldhajkiaaDoor.pg
/- FlowHolds, walked. -/
namespace Go.Proofs.YtlcljdldhajkiaaDoor.pg
open Go.ChangeShapes Go.WideShapes Go.ChangeAt Go.RowKit Go.Shelf
set_option linter.unusedVariables false
set_option linter.unusedSimpArgs false
set_option maxRecDepth 100000
theorem ac_len (L : List AcQ) : ∀ row ∈ L.map AcQ.cells, row.length = 3 := fun r hr => by
  obtain ⟨x, _, rfl⟩ := List.mem_map.mp hr
  rfl
theorem ac_one (L : List AcQ) : ∀ row ∈ L.map AcQ.cells, ∀ u ∈ row, u.oneCell' = true := fun r hr u hu => by
  obtain ⟨x, _, rfl⟩ := List.mem_map.mp hr
  simp only [AcQ.cells, List.mem_cons, List.not_mem_nil, or_false] at hu
  rcases hu with rfl | rfl | rfl <;> rfl
structure HoS (w W : World) (M : MPr) (A : List AcQ) (aa : Option Addr) (ac : Nat) (X : List Int) (na : Option Addr) (nc : Nat) (L : List AcQ) (va : Option Addr) (vc n2 : Nat) : Prop where
  b : Below w.heap.size w W
  p : BoxP W w.heap.size M
  a : Rows W 3 aa ac (A.map AcQ.cells)
  al : ∀ b ∈ blk aa, b < n2
  n : Rows W 1 na nc (X.map chCells)
  nl : ∀ b ∈ blk na, b < W.heap.size ∧ b ∉ blk va
  o : OwnL W n2 53 3 va vc (L.map AcQ.cells)
  sz : n2 ≤ W.heap.size
  sp : w.heap.size < n2
  h : ∀ x ∈ L, hldA A x
theorem HoS.later {w W W' : World} {M : MPr} {A : List AcQ} {aa : Option Addr} {ac : Nat} {X : List Int} {na : Option Addr} {nc : Nat} {L : List AcQ} {va : Option Addr} {vc n2 : Nat} (h : HoS w W M A aa ac X na nc L va vc n2) (hb : Below W.heap.size W W') : HoS w W' M A aa ac X na nc L va vc n2 :=
  ⟨bthen h.b hb, h.p.later hb, h.a.later hb, h.al, h.n.later hb, fun b q => ⟨by have := (h.nl b q).1; have := hb.size; omega, (h.nl b q).2⟩, own_keep h.o (fun b q => hb.block b (blk_lt h.o b q).2), by have := h.sz; have := hb.size; omega, h.sp, h.h⟩
theorem HoS.grown {w W W' : World} {M : MPr} {A : List AcQ} {aa : Option Addr} {ac : Nat} {X : List Int} {na : Option Addr} {nc : Nat} {L Q : List AcQ} {va va' : Option Addr} {vc vc' n2 : Nat} (h : HoS w W M A aa ac X na nc L va vc n2) (g1 : OwnL W' n2 53 3 va' vc' (L.map AcQ.cells ++ Q.map AcQ.cells)) (g2 : ∀ b, b < W.heap.size → b ∉ blk va → W'.heap[b]? = W.heap[b]?) (g3 : Below (min n2 W.heap.size) W W') (g4 : blk va' = blk va ∨ blk va' = [W.heap.size]) (hq : ∀ x ∈ Q, hldA A x) : HoS w W' M A aa ac X na nc (L ++ Q) va' vc' n2 := by
  have hb : Below n2 W W' := g3.mono (by have := h.sz; omega)
  have hp : W'.heap[w.heap.size]? = W.heap[w.heap.size]? := hb.block _ h.sp
  refine ⟨h.b.trans (hb.mono (by have := h.sp; omega)), ⟨cell_keepQ h.p.1 hp, cell_keepQ h.p.2.1 hp, cell_keepQ h.p.2.2.1 hp, cell_keepQ h.p.2.2.2 hp⟩, rows_keepF h.a hb.size (fun b q => hb.block b (h.al b q)), h.al, rows_keepF h.n hb.size (fun b q => g2 b (h.nl b q).1 (h.nl b q).2), fun b q => ⟨by have := (h.nl b q).1; have := hb.size; omega, fun r => ?_⟩, by rw [List.map_append]; exact g1, by have := h.sz; have := hb.size; omega, h.sp, fun x hx => ?_⟩
  · rcases g4 with e | e
    · rw [e] at r; exact (h.nl b q).2 r
    · rw [e, List.mem_singleton] at r
      have := (h.nl b q).1
      omega
  · rcases List.mem_append.mp hx with hx | hx
    · exact h.h x hx
    · exact hq x hx
set_option maxHeartbeats 8000000 in
theorem flowHolds_any (M : MPr) (f pc : Int) (w : World) (hM : M.lies w) (hF : prog.Forms w) : Calls Tryd.prog 5 #[M.val, .int .i64 f, .int .i64 pc] w fun e w' => e = .returned (.bool true) ∧ Below w.heap.size w w' := by
  have hb := boxed w (objP M)
  have bP := boxP_new w M
  have bPH : Hid (BoxP (w.alloc (objP M)) w.heap.size M) := bP
  have hbH : Hid (Below w.heap.size w (w.alloc (objP M))) := hb
  have hMH : Hid (M.lies w) := hM
  have hPH : Hid (prog.Forms w) := hF
  have huA : Hid (Tryd.prog.underlying 53 = _) := Tryd.underlying53
  obtain ⟨e, he⟩ : ∃ e, Hid (e = fitP M.pr f pc) := ⟨_, rfl⟩
  by_cases e0 : e = 0
  rotate_left
  · have xR := may_err M f pc _ (hM.later hb) (hF.later hb) e he e0
    have cI : ∀ V, Below w.heap.size w V → Calls Tryd.prog 8 #[M.val, .int .i64 f, .int .i64 pc] V fun e' w' => e' = .returned (.int .i64 e) ∧ Below V.heap.size V w' := fun V hV => rfit_any M f pc V (hMH.out.later hV) e he
    have cS : ∀ V, Below w.heap.size w V → Calls Tryd.prog 9 #[] V fun e' w' => e' = .returned (.bool true) ∧ Below V.heap.size V w' := fun V hV => speaksF_any V (hPH.out.later hV)
    have d : (e != 0) = true := by simpa using e0
    clear hM hF hb e0 he
    go_enter Tryd.func5, Tryd.ntmps5
    go_wp2_with (first
      | (go_at_call 7; (refine xR.mono ?_); rintro e' w2 ⟨rfl, hb2⟩; clear bP; (have bP := bPH.out.later hb2); obtain ⟨p0, p1, p2, p3⟩ := bP; (have xI := cI w2 (bthen hbH.out hb2)))
      | (go_at_call 8; (refine xI.mono ?_); rintro e' w3 ⟨rfl, hb3⟩; (have hB3 : Hid (Below w.heap.size w w3) := bthen (bthen hbH.out hb2) hb3); (have xS := cS w3 hB3.out))
      | (go_at_call 9; (refine xS.mono ?_); rintro e' w4 ⟨rfl, hb4⟩))
    go_ret
    exact ⟨rfl, bthen hB3.out hb4⟩
  subst e0
  have hfit : fitP M.pr f pc = 0 := he.out.symm
  have hff : fitF M.pr f = 0 := by
    apply Classical.byContradiction
    intro q
    rw [fitP, if_neg q] at hfit
    exact q hfit
  obtain ⟨F, hFi, hFm, eF⟩ := fn_get hff
  obtain ⟨hok, f0, f1⟩ := fitF_ok hff
  have hpp : 0 ≤ pc ∧ pc < F.code.length := by
    rw [fitP, if_pos hff, eF] at hfit
    apply Classical.byContradiction
    intro q
    rw [if_neg (show ¬ (0 ≤ pc ∧ pc < (F.fn.code.length : Int)) from q)] at hfit
    cases hfit
  have hfl : Hid (FlowF F.fn) := flow_of hok F.fn (List.mem_map.mpr ⟨F, hFm, rfl⟩)
  obtain ⟨fn, rfl⟩ : ∃ k : Nat, f = (k : Int) := ⟨f.toNat, by omega⟩
  rw [Int.toNat_natCast] at hFi
  obtain ⟨pn, rfl⟩ : ∃ pn : Nat, pc = (pn : Int) := ⟨pc.toNat, by omega⟩
  have hft : Hid (∀ k : Nat, k < F.code.length → fitP M.pr (fn : Int) k = 0) := fun k hk => by rw [fitP, if_pos hff, eF, if_pos (show 0 ≤ (k : Int) ∧ (k : Int) < (F.fn.code.length : Int) from ⟨by omega, by have : F.fn.code.length = F.code.length := rfl; omega⟩)]
  have hpl : pn < F.code.length := by omega
  have hFiH : Hid (M.fns[fn]? = some F) := hFi
  have hokH : Hid ((chk insP M.pr).1 = 0) := hok
  have hFn : Hid (M.pr.fns[fn]? = some F.fn) := by (show (M.fns.map MFn.fn)[fn]? = _; rw [List.getElem?_map, hFi]; rfl)
  have cA : Hid (∀ V, Below w.heap.size w V → ∀ k : Nat, k < F.code.length → Calls Tryd.prog 7 #[M.val, .int .i64 (fn : Int), .int .i64 (k : Int)] V _) := fun V hV k hk => may_ok M fn k V (hMH.out.later hV) (hPH.out.later hV) F hFi hok hk (hft.out k hk)
  have cI : ∀ V, Below w.heap.size w V → Calls Tryd.prog 8 #[M.val, .int .i64 (fn : Int), .int .i64 (pn : Int)] V fun e' w' => e' = .returned (.int .i64 0) ∧ Below V.heap.size V w' := fun V hV => rfit_any M fn pn V (hMH.out.later hV) 0 he
  have cT : ∀ V, Below w.heap.size w V → Calls Tryd.prog 6 #[M.val, .int .i64 (fn : Int), .int .i64 (pn : Int)] V _ := fun V hV => touches_ok M fn pn V (hMH.out.later hV) (hPH.out.later hV) F hFi hok hpl (hft.out pn hpl)
  have cN : ∀ V, Below w.heap.size w V → Calls Tryd.prog 23 #[M.val, .int .i64 (fn : Int), .int .i64 (pn : Int)] V _ := fun V hV => fnext_own M fn pn V (hMH.out.later hV) (hPH.out.later hV) F (by rw [Int.toNat_natCast]; exact hFi) hfl.out f0 hpl (hft.out pn hpl)
  have cS : Hid (∀ V, Below w.heap.size w V → Calls Tryd.prog 9 #[] V fun e' w' => e' = .returned (.bool true) ∧ Below V.heap.size V w') := fun V hV => speaksF_any V (hPH.out.later hV)
  have xA := cA.out _ hb pn hpl
  have hl64 : F.code.length ≤ 64 := hfl.out.l64
  obtain ⟨iA, hiA', hzA', hsA', hbA'⟩ := info_q infoAq
  have hiA : Hid (Tryd.prog.info? 53 = some iA) := hiA'
  have hzA : Hid _ := hzA'
  have hsA : Hid _ := hsA'
  have hbA : Hid _ := hbA'
  have hplH : Hid (pn < F.code.length) := hpl
  clear hiA' hzA' hsA' hbA' hM hF hb he hfit hff hFi hFm eF hok f0 f1 hpp
  go_enter Tryd.func5, Tryd.ntmps5
  go_upto_region 2 with (go_at_call 7; (with_reducible refine xA.mono ?_); rintro e' w2 ⟨R, O, aa, ac, rfl, hR, hO, hoA, hb2⟩)
  obtain ⟨A, hA⟩ : ∃ A, Hid (lstO O 56 = A) := ⟨_, rfl⟩
  rw [hA.out] at hoA
  simp only [hA.out]
  have hRH : Hid (LeastP M.pr.fns fn pn R ∧ MayO M.pr.fns R O) := ⟨hR, hO⟩
  have h2 : Hid (Below w.heap.size w w2 ∧ BoxP w2 w.heap.size M ∧ Rows w2 3 aa ac (A.map AcQ.cells)) := ⟨bthen hbH.out hb2, bPH.out.later hb2, own_rows hoA (by intro r hr; obtain ⟨x, _, rfl⟩ := List.mem_map.mp hr; rfl)⟩
  have hszH : Hid (w.heap.size < w2.heap.size) := (bPH.out.later hb2).lt
  have hal : Hid (∀ b ∈ blk aa, b < w2.heap.size) := fun b hb => (blk_lt hoA b hb).2
  clear hb2 hoA hR hO xA bP
  have xI := cI w2 h2.out.1
  obtain ⟨p0, p1, p2, p3⟩ := h2.out.2.1
  go_upto_region 4 with (go_at_call 8; (refine xI.mono ?_); rintro e' w3 ⟨rfl, hb3⟩; clear p0 p1 p2 p3)
  have h3 : Hid (Below w.heap.size w w3 ∧ BoxP w3 w.heap.size M ∧ Rows w3 3 aa ac (A.map AcQ.cells) ∧ w2.heap.size ≤ w3.heap.size) := ⟨bthen h2.out.1 hb3, h2.out.2.1.later hb3, h2.out.2.2.later hb3, hb3.size⟩
  have xT := cT w3 h3.out.1
  obtain ⟨p0, p1, p2, p3⟩ := h3.out.2.1
  clear h2 hb3 xI cI
  go_upto_region 5 with (go_at_call 6; (with_reducible refine xT.mono ?_); rintro e' w4 ⟨va, vc, rfl, hoT, hb4⟩; clear p0 p1 p2 p3)
  obtain ⟨T, hT⟩ : ∃ T, Hid (lstO (mxL zO (tchI F.fn (insAt F.code pn))) 56 = T) := ⟨_, rfl⟩
  rw [hT.out] at hoT
  simp only [hT.out]
  have h4 : Hid (Below w.heap.size w w4 ∧ BoxP w4 w.heap.size M ∧ Rows w4 3 aa ac (A.map AcQ.cells) ∧ w2.heap.size ≤ w4.heap.size ∧ OwnL w4 w2.heap.size 53 3 va vc (T.map AcQ.cells)) := ⟨bthen h3.out.1 hb4, h3.out.2.1.later hb4, h3.out.2.2.1.later hb4, by have := hb4.size; have := h3.out.2.2.2; (show _ ≤ _); omega, own_mono_q hoT h3.out.2.2.2⟩
  have hTl : Hid (T.length ≤ 56) := by (rw [← hT.out]; exact lstO_len _ 56)
  have hTA : Hid (∀ x ∈ T, hldA A x) := fun x hx => by
    rw [← hT.out] at hx
    rw [← hA.out]
    have hm : ∀ j, mxL zO (tchI F.fn (insAt F.code pn)) j = 0 ∨ (j, mxL zO (tchI F.fn (insAt F.code pn)) j) ∈ tchI F.fn (insAt F.code pn) := mxL_one _ _
    refine hld_of (fun j => ?_) (fun j => ?_) hRH.out.2.range hx
    · rcases hm j with q | q
      · rw [q]; rcases hRH.out.2.range j with r | r | r <;> omega
      · exact hRH.out.2.up fn F.fn pn hFn.out hplH.out hRH.out.1.up _ q
    · rcases hm j with q | q
      · exact .inl q
      · exact .inr (tch_pos q)
  have xN := cN w4 h4.out.1
  obtain ⟨p0, p1, p2, p3⟩ := h4.out.2.1
  clear h3 hb4 hoT xT cT hT
  go_upto_region 6 with (go_at_call 23; (with_reducible refine xN.mono ?_); rintro e' w5 ⟨na, nc, rfl, hn, hb5, hbk⟩; clear p0 p1 p2 p3)
  obtain ⟨X, hX⟩ : ∃ X, Hid (lst (bAll F.fn (onePl pn) F.code.length) 64 = X) := ⟨_, rfl⟩
  rw [hX.out] at hn
  simp only [hX.out]
  have h5 : Hid (HoS w w5 M A aa ac X na nc T va vc w2.heap.size) := by
    have hw2 : w.heap.size < w2.heap.size := hszH.out
    refine ⟨bthen h4.out.1 hb5, h4.out.2.1.later hb5, h4.out.2.2.1.later hb5, hal.out, hn, fun b hb => ⟨(hbk b hb).2, fun q => ?_⟩, own_keep h4.out.2.2.2.2 (fun b q => hb5.block b (blk_lt h4.out.2.2.2.2 b q).2), by have := hb5.size; have := h4.out.2.2.2.1; omega, hw2, hTA.out⟩
    have := (blk_lt h4.out.2.2.2.2 b q).2
    have := (hbk b hb).1
    omega
  have hXl : (X.length : Int) ≤ 64 := by (rw [← hX.out]; have := lst_len (bAll F.fn (onePl pn) F.code.length) 64; omega)
  have hXin : Hid (∀ x ∈ X, ∃ k : Nat, x = (k : Int) ∧ k < F.code.length ∧ R fn k = true) := fun x hx => by
    have h1 := next_in (hX.out.symm ▸ hx)
    have h2 := hfl.out.n pn hplH.out x h1
    exact ⟨x.toNat, by omega, by have : F.fn.code.length = F.code.length := rfl; omega, hRH.out.1.cl.c fn F.fn hFn.out pn hplH.out hRH.out.1.up rfl x h1⟩
  clear h4 hb5 hn hbk xN cN hX hTA hal
  generalize w2.heap.size = n2 at *
  go_wp2_with fail
  go_loopw [9, 13] (fun o u wr => ∃ (i : Nat) (L : List AcQ) (va : Option Addr) (vc : Nat), i ≤ X.length ∧ u = .int .i64 (i : Int) ∧ o = .slice va L.length vc ∧ Hid (HoS w wr M A aa ac X na nc L va vc n2 ∧ L.length ≤ 56 * (i + 1))) (fun _ u _ => X.length - (intOf u).toNat)
  case atStart => exact ⟨0, T, va, vc, Nat.zero_le _, rfl, rfl, h5.out, by have := hTl.out; omega⟩
  case round =>
    obtain ⟨i, L, va, vc, hi, rfl, rfl, hs⟩ := hrel
    clear h5 hTl
    by_cases hlt : i < X.length
    · obtain ⟨x, hx, hxm⟩ := get_lt X i hlt
      obtain ⟨k, rfl, hkl, hRk⟩ := hXin.out x hxm
      have hiI : (i : Int) < X.length := by omega
      obtain ⟨lb, lo, hix, hlb, lcel⟩ := ch_ix hs.out.1.n i (k : Int) hx
      go_upto_region 11 with fail
      have hH : Below wr.heap.size wr wr.drew := bey_drew _
      have hPc := hs.out.1.p
      have hrP : ∀ w', Below wr.heap.size wr w' → w'.rangeAt w.heap.size 0 ([.slice M.va M.vars.length M.vcap, .int .i64 M.locks, .slice M.cha M.chans.length M.chcap, .slice M.fa M.fns.length M.fcap] : List Value) := fun w' h' j v hj => by
        match j, hj with
        | 0, hj => cases hj; exact cell_later h' hPc.1
        | 1, hj => cases hj; exact cell_later h' hPc.2.1
        | 2, hj => cases hj; exact cell_later h' hPc.2.2.1
        | 3, hj => cases hj; exact cell_later h' hPc.2.2.2
      refine wp_region_held_drew (S := fun w' => Below wr.heap.size wr w') (by kernel_rfl) hH (fun _ => ?_)
      refine reg_load (i := 0) rfl (by kernel_rfl) (by kernel_rfl) (by kernel_rfl) (fun _ _ _ _ h => h) rfl 26 _ rfl w.heap.size 0 rfl [.slice M.va M.vars.length M.vcap, .int .i64 M.locks, .slice M.cha M.chans.length M.chcap, .slice M.fa M.fns.length M.fcap] _ hrP Tryd.underlying26 rfl (by kernel_rfl) hH ?_
      simp only [Act.put, List.getElem_toArray, List.getElem_cons_succ, List.getElem_cons_zero, List.setIfInBounds_toArray, List.set_cons_zero, List.set_cons_succ]
      refine reg_move (i := 1) rfl (by kernel_rfl) (by kernel_rfl) (by kernel_rfl) (fun _ _ _ _ h => h) rfl (.int .i64 (fn : Int)) (fun _ => by kernel_rfl) hH ?_
      simp only [Act.put, List.getElem_toArray, List.getElem_cons_succ, List.getElem_cons_zero, List.setIfInBounds_toArray, List.set_cons_zero, List.set_cons_succ]
      refine reg_move (i := 2) rfl (by kernel_rfl) (by kernel_rfl) (by kernel_rfl) (fun _ _ _ _ h => h) rfl (.slice na X.length nc) (fun _ => by kernel_rfl) hH ?_
      simp only [Act.put, List.getElem_toArray, List.getElem_cons_succ, List.getElem_cons_zero, List.setIfInBounds_toArray, List.set_cons_zero, List.set_cons_succ]
      refine reg_move (i := 3) rfl (by kernel_rfl) (by kernel_rfl) (by kernel_rfl) (fun _ _ _ _ h => h) rfl (.int .i64 (i : Int)) (fun _ => by kernel_rfl) hH ?_
      simp only [Act.put, List.getElem_toArray, List.getElem_cons_succ, List.getElem_cons_zero, List.setIfInBounds_toArray, List.set_cons_zero, List.set_cons_succ]
      refine reg_move (i := 4) rfl (by kernel_rfl) (by kernel_rfl) (by kernel_rfl) (fun _ _ _ _ h => h) rfl (.pointer (some ⟨lb, lo, none⟩)) (fun wx => by unfold execOp; exact run_valueF (hix wx)) hH ?_
      simp only [Act.put, List.getElem_toArray, List.getElem_cons_succ, List.getElem_cons_zero, List.setIfInBounds_toArray, List.set_cons_zero, List.set_cons_succ]
      refine reg_load1 (i := 5) rfl (by kernel_rfl) (by kernel_rfl) (by kernel_rfl) (fun _ _ _ _ h => h) rfl 3 _ rfl ⟨lb, lo, none⟩ rfl _ Tryd.underlying3 rfl (.int .i64 (k : Int)) (fun w' h' => cell_later h' lcel) hH ?_
      simp only [Act.put, List.getElem_toArray, List.getElem_cons_succ, List.getElem_cons_zero, List.setIfInBounds_toArray, List.set_cons_zero, List.set_cons_succ]
      refine reg_call3F (i := 6) (by kernel_rfl) rfl rfl 7 _ _ _ _ _ _ rfl M.val (.int .i64 (fn : Int)) (.int .i64 (k : Int)) rfl rfl rfl (cf_fn Tryd.func7 (by kernel_rfl) (by kernel_rfl) _ _) _ (cA.out wr.drew (hs.out.1.later (bey_drew _)).b k hkl) ?_
      rintro e5 w5 ⟨R2, O2, ma, mc, rfl, hR2, hO2, hoM, hb5⟩
      obtain ⟨Q, hQ⟩ : ∃ Q, Hid (lstO O2 56 = Q) := ⟨_, rfl⟩
      rw [hQ.out] at hoM
      simp only [hQ.out]
      have hH5 : Below wr.heap.size wr w5 := bthen hH hb5
      refine ⟨_, rfl, hH5, fun _ => ?_⟩
      simp only [Act.put, List.getElem_toArray, List.getElem_cons_succ, List.getElem_cons_zero, List.setIfInBounds_toArray, List.set_cons_zero, List.set_cons_succ]
      refine reg_move (i := 7) rfl (by kernel_rfl) (by kernel_rfl) (by kernel_rfl) (fun _ _ _ _ h => h) rfl (.tuple #[.slice ma Q.length mc, .int .i64 0]) (fun _ => rfl) hH5 ?_
      simp only [Act.put, List.getElem_toArray, List.getElem_cons_succ, List.getElem_cons_zero, List.setIfInBounds_toArray, List.set_cons_zero, List.set_cons_succ]
      refine reg_move (i := 8) rfl (by kernel_rfl) (by kernel_rfl) (by kernel_rfl) (fun _ _ _ _ h => h) rfl (.slice ma Q.length mc) (fun _ => by kernel_rfl) hH5 ?_
      simp only [Act.put, List.getElem_toArray, List.getElem_cons_succ, List.getElem_cons_zero, List.setIfInBounds_toArray, List.set_cons_zero, List.set_cons_succ]
      refine reg_move (i := 9) rfl (by kernel_rfl) (by kernel_rfl) (by kernel_rfl) (fun _ _ _ _ h => h) rfl (.int .i64 0) (fun _ => by kernel_rfl) hH5 ?_
      simp only [Act.put, List.getElem_toArray, List.getElem_cons_succ, List.getElem_cons_zero, List.setIfInBounds_toArray, List.set_cons_zero, List.set_cons_succ]
      refine reg_move (i := 10) rfl (by kernel_rfl) (by kernel_rfl) (by kernel_rfl) (fun _ _ _ _ h => h) rfl (.slice ma Q.length mc) (fun _ => rfl) hH5 ?_
      simp only [Act.put, List.getElem_toArray, List.getElem_cons_succ, List.getElem_cons_zero, List.setIfInBounds_toArray, List.set_cons_zero, List.set_cons_succ]
      refine reg_move (i := 11) rfl (by kernel_rfl) (by kernel_rfl) (by kernel_rfl) (fun _ _ _ _ h => h) rfl (.int .i64 0) (fun _ => rfl) hH5 ?_
      simp only [Act.put, List.getElem_toArray, List.getElem_cons_succ, List.getElem_cons_zero, List.setIfInBounds_toArray, List.set_cons_zero, List.set_cons_succ]
      refine wpAnyH_done (by kernel_rfl) ?_ _
      have hs5 : Hid (HoS w w5 M A aa ac X na nc L va vc n2 ∧ L.length ≤ 56 * (i + 1)) := ⟨(hs.out.1.later (bey_drew _)).later hb5, hs.out.2⟩
      have hQr : Hid (Rows w5 3 ma mc (Q.map AcQ.cells)) := own_rows hoM (by intro r hr; obtain ⟨x, _, rfl⟩ := List.mem_map.mp hr; rfl)
      have hQl : Hid (Q.length ≤ 56) := by (rw [← hQ.out]; exact lstO_len _ 56)
      have hQA : Hid (∀ x ∈ Q, hldA A x) := fun x hx => by
        rw [← hQ.out] at hx
        rw [← hA.out]
        exact hld_of (fun j => hO2.mono hRH.out.2 (fun g k => hRH.out.1.sub hR2 hRk g k) j) hO2.range hRH.out.2.range hx
      clear hrP hH hH5 hb5 hoM hR2 hO2 hix lcel hx hxm hkl hRk hQ hs hPc hlb
      go_wp2_with (first
        | (at_builtin; (refine wpList_app rfl (.tmp 81) (.tmp 82) 27 rfl n2 53 iA _ 3 24 Tryd.underlying27 hiA.out hzA.out hsA.out hbA.out rfl (by decide) va vc (L.map AcQ.cells) (by rw [List.length_map]; rfl) hs5.out.1.o ma mc (Q.map AcQ.cells) (by rw [List.length_map]; rfl) hQr.out (ac_len Q) (ac_one Q) (by have := hQl.out; have := hs5.out.2; unfold maxLen; rw [List.length_map, List.length_map]; omega) (by have := hQl.out; have := hs5.out.2; rw [List.length_map, List.length_map]; omega) hs5.out.1.sz ?_); intro va' vc' w6 g1 g2 g3 g4; rw [show (L.map AcQ.cells ++ Q.map AcQ.cells).length = (L ++ Q).length by simp]; (have hs6 : Hid (HoS w w6 M A aa ac X na nc (L ++ Q) va' vc' n2 ∧ (L ++ Q).length ≤ 56 * (i + 1 + 1)) := ⟨hs5.out.1.grown g1 g2 g3 g4 hQA.out, by have := hQl.out; have := hs5.out.2; rw [List.length_append]; omega⟩); clear g1 g2 g3 g4 hs5))
      go_roundw
      case rel => exact ⟨i + 1, L ++ Q, va', vc', by omega, by go_num, by rw [List.length_append], hs6.out⟩
      case measure => simp [intOf]; omega
    · have hie : i = X.length := by omega
      have hiI : ¬ ((i : Int) < X.length) := by omega
      have hsL : Hid (HoS w wr M A aa ac X na nc L va vc n2) := hs.out.1
      have hLm : (L.length : Int) ≤ 56 * 65 := by (have := hs.out.2; omega)
      clear hs hie
      go_wp2_with fail
      go_loopw [16] (fun u wr => ∃ j : Nat, j ≤ L.length ∧ u = .int .i64 (j : Int) ∧ Hid (HoS w wr M A aa ac X na nc L va vc n2)) (fun u _ => L.length - (intOf u).toNat)
      case atStart => exact ⟨0, Nat.zero_le _, rfl, hsL.out⟩
      case round =>
        clear hsL
        obtain ⟨j, hj, rfl, hs⟩ := hrel
        by_cases hjl : j < L.length
        · obtain ⟨y, hy, hym⟩ := get_lt L j hjl
          obtain ⟨b1, o1, hix1, hbl1, c1⟩ := accQ_ix (own_rows hs.out.o (ac_len L)) j y hy
          have hjI : (j : Int) < L.length := by omega
          have xH := holds_any A aa ac y wr hs.out.a (hs.out.h y hym)
          have hrg : Hid (wr.rangeAt b1 o1 [.int .i64 y.kind, .int .i64 y.num, .bool y.wr]) := c1
          clear hy hym hbl1 c1
          go_wp2_with (first
            | ((with_reducible refine at_loadQ 53 _ rfl ?_); refine stopQ_out ?_; refine wpList_load_mid rfl 53 _ rfl b1 o1 rfl [.int .i64 y.kind, .int .i64 y.num, .bool y.wr] _ hrg.out huA.out rfl (by kernel_rfl) ?_)
            | (go_at_call 24; (with_reducible refine xH.mono ?_); clear xH; rintro e' w7 ⟨rfl, hb7⟩; (have hs8 : Hid (HoS w w7 M A aa ac X na nc L va vc n2) := hs.out.later hb7)))
          go_roundw
          case rel => exact ⟨j + 1, by omega, by go_num, hs8⟩
          case measure => simp [intOf]; omega
        · have hje : j = L.length := by omega
          have hjI : ¬ ((j : Int) < L.length) := by omega
          have xS := cS.out wr hs.out.b
          go_wp2_with (go_at_call 9; (refine xS.mono ?_); rintro e' w8 ⟨rfl, hb8⟩)
          go_ret
          exact ⟨rfl, bthen hs.out.b hb8⟩
end Go.Proofs.YtlcljdldhajkiaaDoor.pg
/- The functions that may be run, and what no run comes to: package flow's Funcs and Idle. -/
namespace Go.Proofs.YtlcljdldhajkiaaDoor.pg
open Go.ChangeShapes Go.WideShapes Go.ChangeAt Go.RowKit Go.Shelf
set_option linter.unusedVariables false
set_option linter.unusedSimpArgs false
set_option maxRecDepth 100000
attribute [local go_sem ↓] Go.wp_at_zero Go.wp_at_succ
theorem infoSpo : (Tryd.prog.info? 47).map (fun i => (i.zero, i.size, i.bytes)) = some (some (.agg #[.int .i64 0, .int .i64 0]), 2, 16) := by kernel_rfl
def spC (x : Nat × Nat) : List Value := [.int .i64 (x.1 : Int), .int .i64 (x.2 : Int)]
def idl (R : Nat → Nat → Bool) (g : Nat) : Nat → List (Nat × Nat)
  | 0 => []
  | n + 1 => idl R g n ++ (if R g n = true then [] else [(g, n)])
/-- What no run comes to, function by function. -/
def idA (R : Nat → Nat → Bool) (fns : List Fn) : Nat → List (Nat × Nat)
  | 0 => []
  | m + 1 => idA R fns m ++ idl R m (match fns[m]? with | some F => F.code.length | none => 0)
theorem idl_len (R : Nat → Nat → Bool) (g : Nat) : ∀ n, (idl R g n).length ≤ n
  | 0 => Nat.le_refl _
  | n + 1 => by
    have := idl_len R g n
    rw [idl, List.length_append]
    split <;> simp <;> omega
theorem idA_len {R : Nat → Nat → Bool} {fns : List Fn} (h : ∀ F ∈ fns, F.code.length ≤ 64) : ∀ m, (idA R fns m).length ≤ 64 * m
  | 0 => Nat.le_refl _
  | m + 1 => by
    have ih := idA_len (R := R) h m
    rw [idA, List.length_append]
    have h2 := idl_len R m (match fns[m]? with | some F => F.code.length | none => 0)
    have h3 : (match fns[m]? with | some F => F.code.length | none => 0) ≤ 64 := by
      split
      · rename_i F hF; exact h F (List.mem_of_getElem? hF)
      · omega
    omega
structure IdS (w W : World) (M : MPr) (R : Nat → Nat → Bool) (SB : Nat) (L : List (Nat × Nat)) (va : Option Addr) (vc : Nat) : Prop where
  b : Below w.heap.size w W
  p : BoxP W w.heap.size M
  s : W.heap[SB]? = some (objQ R)
  o : OwnL W (SB + 1) 47 2 va vc (L.map spC)
  l : w.heap.size < SB
theorem IdS.later {w W W' : World} {M : MPr} {R : Nat → Nat → Bool} {SB : Nat} {L : List (Nat × Nat)} {va : Option Addr} {vc : Nat} (h : IdS w W M R SB L va vc) (hb : Below W.heap.size W W') : IdS w W' M R SB L va vc := ⟨bthen h.b hb, h.p.later hb, blk_onQ h.s hb, own_keep h.o (fun b q => hb.block b (blk_lt h.o b q).2), h.l⟩
theorem IdS.grown {w W W' : World} {M : MPr} {R : Nat → Nat → Bool} {SB : Nat} {L : List (Nat × Nat)} {x : Nat × Nat} {va va' : Option Addr} {vc vc' : Nat} (h : IdS w W M R SB L va vc) (hg : Grown W (SB + 1) 47 2 va (L.map spC) (spC x) va' vc' W') : IdS w W' M R SB (L ++ [x]) va' vc' := by
  have hs := (Array.getElem?_eq_some_iff.mp h.s).1
  have hl := h.l
  have hb : Below (SB + 1) W W' := hg.be.mono (by omega)
  have hp := hb.block w.heap.size (by omega)
  exact ⟨h.b.trans (hb.mono (by omega)), ⟨cell_keepQ h.p.1 hp, cell_keepQ h.p.2.1 hp, cell_keepQ h.p.2.2.1 hp, cell_keepQ h.p.2.2.2 hp⟩, (hb.block SB (by omega)).trans h.s, by rw [List.map_append]; exact hg.ow, hl⟩
theorem sp_ext (R : Nat → Nat → Bool) (i : Nat) (hi : i < 8) : (rowS R).extract (i * 64) (i * 64 + 64) = boolRow 64 (R i) := by
  apply Array.ext_getElem?
  intro j
  by_cases hj : j < 64
  · rw [Array.getElem?_extract, if_pos (by rw [rowS_size]; omega), rowS_at hi hj, boolRow_at hj]
  · rw [Array.getElem?_eq_none (by rw [Array.size_extract, rowS_size]; omega), Array.getElem?_eq_none (by rw [boolRow_size]; omega)]
theorem ixVS (R : Nat → Nat → Bool) (k : Nat) (h : k < 8) : ∀ wx, (Instr.index 66 (.agg (rowS R)) (.int .i64 (k : Int))).run Tryd.prog wx = .ok (.agg (boolRow 64 (R k))) wx := by
  intro wx
  have u := Tryd.underlying66
  have z := Tryd.sizeOf65
  have q1 : (k : Int) < 8 := by omega
  have q2 : (0 : Int) ≤ (k : Int) := by omega
  have q3 : ¬ (k : Int) < 0 := by omega
  simp [Instr.index, run_underlying u, asIntOf, go_sem, z, q1, q2]
  rw [if_pos h, sp_ext R k h]
set_option maxHeartbeats 4000000 in
theorem ffuncs_ok (M : MPr) (w : World) (hM : M.lies w) (hPF : prog.Forms w) (hfit : fitF M.pr 0 = 0) :
    Calls Tryd.prog 15 #[M.val] w fun e w' => ∃ R va vc, e = .returned (.tuple #[.slice va (lst (fun g => R g 0) 8).length vc, .int .i64 0]) ∧ LeastP M.pr.fns 0 0 R ∧ LsS w (lst (fun g => R g 0) 8) va vc w' := by
  have hb := boxed w (objP M)
  have bP := boxP_new w M
  have bPH : Hid (BoxP (w.alloc (objP M)) w.heap.size M) := bP
  have hbH : Hid (Below w.heap.size w (w.alloc (objP M))) := hb
  have hMH : Hid (M.lies w) := hM
  obtain ⟨hok, _, hf1⟩ := fitF_ok hfit
  have h8 : M.fns.length ≤ 8 := by (have := (sizes_ok (sizes_of hok)).2.2.2.2; have e : M.pr.fns.length = M.fns.length := List.length_map _; omega)
  have hfl : Hid (∀ F ∈ M.fns, FlowF F.fn) := fun F h => flow_of hok F.fn (List.mem_map.mpr ⟨F, h, rfl⟩)
  have hch : Hid (∀ F ∈ M.fns, ∀ i ∈ F.code, TchR F.fn i) := fun F h i hi => tchR_of hok (List.mem_map.mpr ⟨F, h, rfl⟩) hi
  have xC : Calls Tryd.prog 34 #[M.val, .int .i64 0] _ _ := fcheckFunc_any M 0 _ (hM.later hb) (hPF.later hb) 0 hfit.symm
  have cS : ∀ V, Below w.heap.size w V → Calls Tryd.prog 28 #[M.val, .int .i64 0, .int .i64 0] V _ := fun V hV => spread_any M 0 0 V (hMH.out.later hV) h8 (fun F h => ⟨hfl.out F h, fun i hi => (hch.out F h i hi).p⟩) (by omega) (by omega)
  clear hM hPF hb hfit hok hf1
  obtain ⟨iN, hiN', hzN', hsN', hbN'⟩ := info_q infoN_u
  have hiN : Hid (Tryd.prog.info? 3 = some iN) := hiN'
  have hzN : Hid _ := hzN'
  have hsN : Hid _ := hsN'
  have hbN : Hid _ := hbN'
  clear hiN' hzN' hsN' hbN'
  go_enter Tryd.func15, Tryd.ntmps15
  go_upto_region 6 with (first
    | (go_at_call 34; (with_reducible refine xC.mono ?_); rintro e w2 ⟨rfl, hb2⟩; (have hb2H : Hid (Below w.heap.size w w2 ∧ BoxP w2 w.heap.size M) := ⟨bthen hbH.out hb2, bPH.out.later hb2⟩); clear bP hb2 xC; (have xS := cS w2 hb2H.out.1); (have bP := hb2H.out.2); obtain ⟨p0, p1, p2, p3⟩ := bP)
    | (go_at_call 28; (with_reducible refine xS.mono ?_); rintro e w3 ⟨R, rfl, hR, hb3⟩; (have hR3 : Hid (LeastP M.pr.fns 0 0 R ∧ Below w.heap.size w w3) := ⟨hR, bthen hb2H.out.1 hb3⟩); clear p0 p1 p2 p3 hb3 hR xS cS))
  clear hb2H
  have s0 : Hid (LsS w (lst (fun g => R g 0) 0) none 0 w3) := ⟨hR3.out.2, own_nil_q _ _ _ _⟩
  go_loopw [5, 15] (fun o u wr => ∃ (k : Nat) (va : Option Addr) (vc : Nat), k ≤ 8 ∧ u = .int .i64 k ∧ o = .slice va (lst (fun g => R g 0) k).length vc ∧ Hid (LsS w (lst (fun g => R g 0) k) va vc wr)) (fun _ u _ => 8 - (intOf u).toNat)
  case atStart => exact ⟨0, none, 0, by omega, rfl, rfl, s0⟩
  case round =>
    obtain ⟨k, va, vc, hk, rfl, rfl, hs⟩ := hrel
    clear s0
    by_cases hlt : k < 8
    · have hkI : (k : Int) < 8 := by omega
      have xV := ixVS R k hlt
      have x0 : ∀ wx, (Instr.indexAt 65 (.pointer (some ⟨wr.heap.size, 0, none⟩)) (.int .i64 0)).run Tryd.prog wx = .ok (.pointer (some ⟨wr.heap.size, 0, none⟩)) wx := ix_pl wr.heap.size 0 (by omega)
      have hX : Hid (LsS w (lst (fun g => R g 0) k) va vc (wr.alloc (.cells (boolRow 64 (R k)) 65)) ∧ (wr.alloc (.cells (boolRow 64 (R k)) 65)).heap[wr.heap.size]? = some (.cells (boolRow 64 (R k)) 65)) := ⟨hs.out.later (boxed _ _), heap_alloc_new _ _⟩
      have c0 : (wr.alloc (.cells (boolRow 64 (R k)) 65)).cell? ⟨wr.heap.size, 0, none⟩ = some (.bool (R k 0)) := cell_lcQ hX.out.2 (boolRow_at (by omega))
      have hll := lst_len (fun g => R g 0) k
      have hmore : Hid (lst (fun g => R g 0) (k + 1) = lst (fun g => R g 0) k ++ (if R k 0 = true then [(k : Int)] else [])) := rfl
      obtain ⟨b, hb⟩ : ∃ b, R k 0 = b := ⟨_, rfl⟩
      rw [hb] at c0
      clear hs
      go_upto_region 8 with (first
        | ((with_reducible refine at_allocQ 65 rfl ?_); refine stopQ_out ?_; refine wpList_alloc_big rfl 65 rfl zeroSt ?_)
        | ((with_reducible refine at_storeQ 65 _ _ rfl ?_); refine stopQ_out ?_; refine wpList_store_new rfl 65 _ _ rfl rfl _ (boolRow 64 (R k)) rfl (infoSt _) (by rw [boolRow_size, boolRow_size]) (boolRow_one _ _) ?_))
      change Code.wp _ _ _ _ (wr.alloc (.cells (boolRow 64 (R k)) 65))
      try simp only [Act.put, List.getElem_toArray, List.getElem_cons_succ, List.getElem_cons_zero, List.setIfInBounds_toArray, List.set_cons_zero, List.set_cons_succ]
      clear xV
      generalize wr.alloc (.cells (boolRow 64 (R k)) 65) = X at *
      generalize wr.heap.size = XB at *
      cases b with
      | true =>
        have hN : Hid (lst (fun g => R g 0) (k + 1) = lst (fun g => R g 0) k ++ [(k : Int)]) := by (show _ = _; rw [hmore.out, if_pos hb])
        clear hmore hb
        generalize lst (fun g => R g 0) k = L at *
        go_wp2_with (first
          | (at_builtin; (refine wpList_app1 rfl (.tmp 21) (.tmp 23) 23 rfl w.heap.size 3 iN _ 1 8 Tryd.underlying23 hiN.out hzN.out hsN.out hbN.out rfl (by decide) va vc (L.map chCells) (by rw [List.length_map]; rfl) hX.out.1.ow (chCells (k : Int)) rfl rfl (one1u _) (by rw [List.length_map]; unfold maxLen; omega) (by rw [List.length_map]; omega) hX.out.1.be.size ?_); intro va' vc' w2 hg; rw [List.length_map]; (have hg2 : Hid (LsS w (L ++ [(k : Int)]) va' vc' w2) := hX.out.1.grown hg); clear hg))
        go_roundw
        case rel => exact ⟨k + 1, va', vc', by omega, by go_num, by rw [hN.out, List.length_append]; rfl, by rw [hN.out]; exact hg2⟩
        case measure => simp [intOf]; omega
      | false =>
        have hN : Hid (lst (fun g => R g 0) (k + 1) = lst (fun g => R g 0) k) := by (show _ = _; rw [hmore.out, if_neg (by rw [hb]; exact Bool.false_ne_true), List.append_nil])
        clear hmore hb
        go_wp2
        go_roundw
        case rel => exact ⟨k + 1, va, vc, by omega, by go_num, by rw [hN.out], by rw [hN.out]; exact hX.out.1⟩
        case measure => simp [intOf]; omega
    · have hk2 : k = 8 := by omega
      subst hk2
      go_wp2
      go_ret2
      exact ⟨R, va, vc, rfl, hR3.out.1, hs.out⟩
set_option maxHeartbeats 1000000 in
theorem ffuncs_err (M : MPr) (w : World) (hM : M.lies w) (hF : prog.Forms w) (e : Int) (he : Hid (e = fitF M.pr 0)) (hne : e ≠ 0) :
    Calls Tryd.prog 15 #[M.val] w fun e' w' => e' = .returned (.tuple #[.slice none 0 0, .int .i64 e]) ∧ Below w.heap.size w w' := by
  have hb := boxed w (objP M)
  have bP := boxP_new w M
  have hcall : Calls Tryd.prog 34 #[M.val, .int .i64 0] _ _ := fcheckFunc_any M 0 _ (hM.later hb) (hF.later hb) e he
  have hbH : Hid (Below w.heap.size w (w.alloc (objP M))) := hb
  have d : (e != 0) = true := by simpa using hne
  clear hM hF he hb hne
  go_enter Tryd.func15, Tryd.ntmps15
  go_wp2_with (go_at_call 34; (with_reducible refine hcall.mono ?_); rintro e w2 ⟨rfl, hb2⟩)
  go_ret2
  exact ⟨rfl, bthen hbH.out hb2⟩
set_option maxHeartbeats 1000000 in
theorem fidle_err (M : MPr) (w : World) (hM : M.lies w) (hF : prog.Forms w) (e : Int) (he : Hid (e = fitF M.pr 0)) (hne : e ≠ 0) :
    Calls Tryd.prog 16 #[M.val] w fun e' w' => e' = .returned (.tuple #[.slice none 0 0, .int .i64 e]) ∧ Below w.heap.size w w' := by
  have hb := boxed w (objP M)
  have bP := boxP_new w M
  have hcall : Calls Tryd.prog 34 #[M.val, .int .i64 0] _ _ := fcheckFunc_any M 0 _ (hM.later hb) (hF.later hb) e he
  have hbH : Hid (Below w.heap.size w (w.alloc (objP M))) := hb
  have d : (e != 0) = true := by simpa using hne
  clear hM hF he hb hne
  go_enter Tryd.func16, Tryd.ntmps16
  go_wp2_with (go_at_call 34; (with_reducible refine hcall.mono ?_); rintro e w2 ⟨rfl, hb2⟩)
  go_ret2
  exact ⟨rfl, bthen hbH.out hb2⟩
set_option maxHeartbeats 8000000 in
theorem fidle_ok (M : MPr) (w : World) (hM : M.lies w) (hPF : prog.Forms w) (hfit : fitF M.pr 0 = 0) :
    Calls Tryd.prog 16 #[M.val] w fun e w' => ∃ R va vc, e = .returned (.tuple #[.slice va (idA R M.pr.fns M.pr.fns.length).length vc, .int .i64 0]) ∧ LeastP M.pr.fns 0 0 R ∧ OwnL w' w.heap.size 47 2 va vc ((idA R M.pr.fns M.pr.fns.length).map spC) ∧ Below w.heap.size w w' := by
  have hb := boxed w (objP M)
  have bP := boxP_new w M
  have bPH : Hid (BoxP (w.alloc (objP M)) w.heap.size M) := bP
  have hbH : Hid (Below w.heap.size w (w.alloc (objP M))) := hb
  have hMH : Hid (M.lies w) := hM
  obtain ⟨hok, _, hf1⟩ := fitF_ok hfit
  have h8 : M.fns.length ≤ 8 := by (have := (sizes_ok (sizes_of hok)).2.2.2.2; have e : M.pr.fns.length = M.fns.length := List.length_map _; omega)
  have hfl : Hid (∀ F ∈ M.fns, FlowF F.fn) := fun F h => flow_of hok F.fn (List.mem_map.mpr ⟨F, h, rfl⟩)
  have hch : Hid (∀ F ∈ M.fns, ∀ i ∈ F.code, TchR F.fn i) := fun F h i hi => tchR_of hok (List.mem_map.mpr ⟨F, h, rfl⟩) hi
  have xC : Calls Tryd.prog 34 #[M.val, .int .i64 0] _ _ := fcheckFunc_any M 0 _ (hM.later hb) (hPF.later hb) 0 hfit.symm
  have cS : ∀ V, Below w.heap.size w V → Calls Tryd.prog 28 #[M.val, .int .i64 0, .int .i64 0] V _ := fun V hV => spread_any M 0 0 V (hMH.out.later hV) h8 (fun F h => ⟨hfl.out F h, fun i hi => (hch.out F h i hi).p⟩) (by omega) (by omega)
  clear hM hPF hb hfit hok hf1
  obtain ⟨iS, hiS', hzS', hsS', hbS'⟩ := info_q infoSpo
  have hiS : Hid (Tryd.prog.info? 47 = some iS) := hiS'
  have hzS2 : Hid _ := hzS'
  have hsS : Hid _ := hsS'
  have hbS : Hid _ := hbS'
  have huF : Hid (Tryd.prog.underlying 62 = _) := Tryd.underlying62
  have hnE : Hid (M.pr.fns.length = M.fns.length) := List.length_map _
  clear hiS' hzS' hsS' hbS'
  go_enter Tryd.func16, Tryd.ntmps16
  go_upto_region 6 with (first
    | (go_at_call 34; (with_reducible refine xC.mono ?_); rintro e w2 ⟨rfl, hb2⟩; (have hb2H : Hid (Below w.heap.size w w2 ∧ BoxP w2 w.heap.size M) := ⟨bthen hbH.out hb2, bPH.out.later hb2⟩); clear bP hb2 xC; (have xS := cS w2 hb2H.out.1); (have bP := hb2H.out.2); obtain ⟨p0, p1, p2, p3⟩ := bP)
    | (go_at_call 28; (with_reducible refine xS.mono ?_); rintro e w3 ⟨R, rfl, hR, hb3⟩; (have hR3 : Hid (LeastP M.pr.fns 0 0 R ∧ Below w.heap.size w w3 ∧ BoxP w3 w.heap.size M) := ⟨hR, bthen hb2H.out.1 hb3, hb2H.out.2.later hb3⟩); clear p0 p1 p2 p3 hb3 hR xS cS)
    | ((with_reducible refine at_allocQ 66 rfl ?_); refine stopQ_out ?_; refine wpList_alloc_big rfl 66 rfl zeroSp ?_)
    | ((with_reducible refine at_storeQ 66 _ _ rfl ?_); refine stopQ_out ?_; refine wpList_store_new rfl 66 _ _ rfl rfl _ (rowS R) rfl (infoSp _) (by rw [rowS_size, rowS_size]) (rowS_one _) ?_))
  try simp only [Act.put, List.getElem_toArray, List.getElem_cons_succ, List.getElem_cons_zero, List.setIfInBounds_toArray, List.set_cons_zero, List.set_cons_succ]
  have hY : Hid (IdS w (w3.alloc (objQ R)) M R w3.heap.size (idA R M.pr.fns 0) none 0) := ⟨bthen hR3.out.2.1 (boxed _ _), hR3.out.2.2.later (boxed _ _), heap_alloc_new _ _, own_nil_q _ _ _ _, hR3.out.2.2.lt⟩
  have hRl : Hid (LeastP M.pr.fns 0 0 R) := hR3.out.1
  clear hb2H hR3
  generalize w3.alloc (objQ R) = Y at *
  generalize w3.heap.size = SB at *
  have c3 := hY.out.p.2.2.2
  go_wp2_with fail
  clear c3
  go_loopw [6, 20] (fun o u wr => ∃ (g : Nat) (va : Option Addr) (vc : Nat), g ≤ M.fns.length ∧ u = .int .i64 (g : Int) ∧ o = .slice va (idA R M.pr.fns g).length vc ∧ Hid (IdS w wr M R SB (idA R M.pr.fns g) va vc)) (fun _ u _ => M.fns.length - (intOf u).toNat)
  case atStart => exact ⟨0, none, 0, Nat.zero_le _, rfl, rfl, hY.out⟩
  case round =>
    obtain ⟨g, va, vc, hg, rfl, rfl, hO⟩ := hrel
    clear hY
    by_cases hlt : g < M.fns.length
    · have hgI : (g : Int) < M.fns.length := by omega
      have hg8 : g < 8 := by omega
      obtain ⟨F, hFi⟩ : ∃ F, M.fns[g]? = some F := ⟨_, List.getElem?_eq_getElem hlt⟩
      have hFm := List.mem_of_getElem? hFi
      have hFn : Hid (M.pr.fns[g]? = some F.fn) := by (show (M.fns.map MFn.fn)[g]? = _; rw [List.getElem?_map, hFi]; rfl)
      have hl64 : (F.code.length : Int) ≤ 64 := by (have := (hfl.out F hFm).l64; have h : F.fn.code.length = F.code.length := rfl; omega)
      obtain ⟨fb, fo, fx, fl, f0, f1, f2, f3⟩ := fn_ix (hMH.out.later hO.out.b).2.2.1 g F hFi
      have hrg : Hid (wr.rangeAt fb fo [.int .i64 F.params, .int .i64 F.regs, .slice F.ca F.code.length F.ccap, .slice F.sa F.sels.length F.scap]) := fun j v hj => by
        match j, hj with
        | 0, hj => cases hj; exact f0
        | 1, hj => cases hj; exact f1
        | 2, hj => cases hj; exact f2
        | 3, hj => cases hj; exact f3
      have hG : Hid (IdS w (wr.alloc (objFn F)) M R SB (idA R M.pr.fns g ++ idl R g 0) va vc) := (by (rw [idl, List.append_nil]; exact hO.out.later (boxed _ _)))
      have k2 : (wr.alloc (objFn F)).cell? ⟨wr.heap.size, 2, none⟩ = some (.slice F.ca F.code.length F.ccap) := cell_lcQ (heap_alloc_new _ _) rfl
      have hAl : Hid ((idA R M.pr.fns g).length ≤ 64 * g) := idA_len (fun F' h => by obtain ⟨F'', h2, rfl⟩ := List.mem_map.mp h; exact (hfl.out F'' h2).l64) g
      have hnx : Hid (idA R M.pr.fns (g + 1) = idA R M.pr.fns g ++ idl R g F.code.length) := by (show _ = _; rw [idA, hFn.out]; rfl)
      clear hO f0 f1 f2 f3 fl
      generalize idA R M.pr.fns g = A at *
      go_wp2_with (first
        | ((with_reducible refine at_loadQ 62 _ rfl ?_); refine stopQ_out ?_; refine wpList_load_mid rfl 62 _ rfl fb fo rfl [.int .i64 F.params, .int .i64 F.regs, .slice F.ca F.code.length F.ccap, .slice F.sa F.sels.length F.scap] _ hrg.out huF.out rfl (by kernel_rfl) ?_)
        | ((with_reducible refine at_storeQ 62 _ _ rfl ?_); refine stopQ_out ?_; refine wpList_store_new rfl 62 _ _ rfl rfl _ #[.int .i64 F.params, .int .i64 F.regs, .slice F.ca F.code.length F.ccap, .slice F.sa F.sels.length F.scap] rfl (by kernel_rfl) rfl (by simp [Value.oneCell']) ?_))
      clear hrg fx k2
      generalize wr.alloc (objFn F) = Y1 at *
      go_loopw [6, 28] (fun o u wr => ∃ (c : Nat) (va : Option Addr) (vc : Nat), c ≤ F.code.length ∧ u = .int .i64 (c : Int) ∧ o = .slice va (A ++ idl R g c).length vc ∧ Hid (IdS w wr M R SB (A ++ idl R g c) va vc)) (fun _ u _ => F.code.length - (intOf u).toNat)
      case atStart => exact ⟨0, va, vc, Nat.zero_le _, rfl, by rw [idl, List.append_nil], hG.out⟩
      case round =>
        obtain ⟨c, va, vc, hc, rfl, rfl, hJ⟩ := hrel
        clear hG
        by_cases hlt2 : c < F.code.length
        · have hcI : (c : Int) < F.code.length := by omega
          have hc64 : c < 64 := by omega
          have xG := ixS SB g hg8
          have xP := ixP SB (g * 64) c hc64
          have cT : wr.cell? ⟨SB, g * 64 + c, none⟩ = some (.bool (R g c)) := cell_lcQ hJ.out.s (rowS_at hg8 hc64)
          have hLl : Hid ((A ++ idl R g c).length ≤ 2000) := by (show _ ≤ _; rw [List.length_append]; have := idl_len R g c; have := hAl.out; omega)
          have hmo : Hid (A ++ idl R g (c + 1) = (A ++ idl R g c) ++ (if R g c = true then [] else [(g, c)])) := by (show _ = _; rw [idl, List.append_assoc])
          obtain ⟨b, hb⟩ : ∃ b, R g c = b := ⟨_, rfl⟩
          rw [hb] at cT
          generalize A ++ idl R g c = L at *
          cases b with
          | true =>
            have hN : Hid (A ++ idl R g (c + 1) = L) := by (show _ = _; rw [hmo.out, if_pos hb, List.append_nil])
            clear hmo hb
            go_wp2
            go_roundw
            case rel => exact ⟨c + 1, va, vc, by omega, by go_num, by rw [hN.out], by rw [hN.out]; exact hJ⟩
            case measure => simp [intOf]; omega
          | false =>
            have hN : Hid (A ++ idl R g (c + 1) = L ++ [(g, c)]) := by (show _ = _; rw [hmo.out, if_neg (by rw [hb]; exact Bool.false_ne_true)])
            clear hmo hb
            go_wp2_with (first
              | (at_builtin; (refine wpList_app1 rfl (.tmp 37) (.tmp 41) 39 rfl (SB + 1) 47 iS _ 2 16 Tryd.underlying39 hiS.out hzS2.out hsS.out hbS.out rfl (by decide) va vc (L.map spC) (by rw [List.length_map]; rfl) hJ.out.o (spC (g, c)) rfl rfl (by simp [spC, Value.oneCell']) (by rw [List.length_map]; have := hLl.out; unfold maxLen; omega) (by rw [List.length_map]; have := hLl.out; omega) (by have := (Array.getElem?_eq_some_iff.mp hJ.out.s).1; omega) ?_); intro va' vc' w2 hg2; rw [List.length_map]; (have hg3 : Hid (IdS w w2 M R SB (L ++ [(g, c)]) va' vc') := hJ.out.grown hg2); clear hg2))
            go_roundw
            case rel => exact ⟨c + 1, va', vc', by omega, by go_num, by rw [hN.out, List.length_append]; rfl, by rw [hN.out]; exact hg3⟩
            case measure => simp [intOf]; omega
        · have hce : c = F.code.length := by omega
          have hcI : ¬ (c : Int) < F.code.length := by omega
          have hE : Hid (A ++ idl R g c = idA R M.pr.fns (g + 1)) := (by (rw [hnx.out, hce]; exact rfl))
          rw [hE.out] at hJ
          simp only [hE.out]
          go_wp2
          go_roundw
          case rel => exact ⟨g + 1, va, vc, by omega, by go_num, rfl, hJ⟩
          case measure => simp [intOf]; omega
    · have hge : g = M.fns.length := by omega
      have hgI : ¬ (g : Int) < M.fns.length := by omega
      rw [hge] at hO
      rw [← hnE.out] at hO
      simp only [hge, ← hnE.out]
      go_wp2
      go_ret2
      exact ⟨R, va, vc, rfl, hRl.out, own_mono_q hO.out.o (by have := hO.out.l; omega), hO.out.b⟩
end Go.Proofs.YtlcljdldhajkiaaDoor.pg
