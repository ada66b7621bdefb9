/- What a list of accesses holds; the next places, new. -/
import Derived.Test.YtlcljdldhajkiaaDoorM15
import Derived.Test.YtlcljdldhajkiaaDoorM18
import Derived.BigQuiet
namespace Go.Proofs.YtlcljdldhajkiaaDoor.pg
open Go.ChangeShapes Go.WideShapes Go.ChangeAt Go.RowKit Go.Shelf
set_option linter.unusedVariables false
set_option linter.unusedSimpArgs false
set_option maxRecDepth 100000
theorem rows_keepF {w w' : World} {k : Nat} {a : Option Addr} {cap : Nat} {L : List (List Value)} (h : Rows w k a cap L) (hs : w.heap.size ≤ w'.heap.size) (hk : ∀ b ∈ blk a, w'.heap[b]? = w.heap[b]?) : Rows w' k a cap L := by
  obtain ⟨h1, h2, h3, h4⟩ := h
  refine ⟨h1, h2, h3, h4.imp_right fun ⟨b, off, ha, hlt, hc⟩ => ⟨b, off, ha, by omega, fun i row hi => ⟨(hc i row hi).1, fun j u hj => ?_⟩⟩⟩
  subst ha
  exact cell_keepQ ((hc i row hi).2 j u hj) (hk b (by simp [blk]))
theorem accQ_ix {w : World} {a : Option Addr} {cap : Nat} {L : List AcQ} (h : Rows w 3 a cap (L.map AcQ.cells)) (i : Nat) (x : AcQ) (hi : L[i]? = some x) :
    ∃ b o, (∀ wx, (Instr.indexAt 27 (.slice a L.length cap) (.int .i64 (i : Int))).run Tryd.prog wx = .ok (.pointer (some ⟨b, o, none⟩)) wx) ∧ b < w.heap.size ∧ w.rangeAt b o x.cells := by
  obtain ⟨b, o, hr, hlt, hc⟩ := h.ix 27 53 Tryd.underlying27 (by kernel_rfl) (fun wx => Tryd.sizeOf53 wx) i (row := x.cells) (by simp [hi])
  rw [List.length_map] at hr
  exact ⟨b, o, hr, hlt, fun j v hj => hc j v hj⟩
/-- Does one access hold another? -/
def fitsQ (b a : AcQ) : Prop := b.kind = a.kind ∧ b.num = a.num ∧ (b.wr = true ∨ a.wr = false)
set_option maxHeartbeats 4000000 in
theorem holds_any (l : List AcQ) (a : Option Addr) (ca : Nat) (x : AcQ) (w : World) (ha : Rows w 3 a ca (l.map AcQ.cells)) (hx : hldA l x) :
    Calls Tryd.prog 24 #[.slice a l.length ca, .agg #[.int .i64 x.kind, .int .i64 x.num, .bool x.wr]] w fun e w' => e = .returned (.bool true) ∧ Below w.heap.size w w' := by
  have hlI : (l.length : Int) ≤ 9223372036854775807 := rows_len ha
  have haH : Hid (Rows w 3 a ca (l.map AcQ.cells)) := ha
  have hxH : Hid (hldA l x) := hx
  obtain ⟨ak, an, aw⟩ := x
  have hb0 : Hid (Below w.heap.size w (w.alloc (.cells #[.int .i64 ak, .int .i64 an, .bool aw] 53)) ∧ (w.alloc (.cells #[.int .i64 ak, .int .i64 an, .bool aw] 53)).heap[w.heap.size]? = some (.cells #[.int .i64 ak, .int .i64 an, .bool aw] 53)) := ⟨boxed _ _, heap_alloc_new _ _⟩
  clear ha hx
  go_enter Tryd.func24, Tryd.ntmps24
  go_wp2_with fail
  generalize w.alloc (.cells #[.int .i64 ak, .int .i64 an, .bool aw] 53) = W at *
  go_loopw [5] (fun u wr => ∃ k : Nat, k ≤ l.length ∧ u = .int .i64 (k : Int) ∧ Hid (Below W.heap.size W wr ∧ ∀ i y, i < k → l[i]? = some y → ¬ fitsQ y ⟨ak, an, aw⟩)) (fun u _ => l.length - (intOf u).toNat)
  case atStart => exact ⟨0, Nat.zero_le _, rfl, Below.refl _ _, fun i y hi => by omega⟩
  case round =>
    obtain ⟨k, hk, rfl, hs⟩ := hrel
    have hBw : Hid (Below w.heap.size w wr ∧ wr.heap[w.heap.size]? = some (.cells #[.int .i64 ak, .int .i64 an, .bool aw] 53)) := ⟨bthen hb0.out.1 hs.out.1, blk_onQ hb0.out.2 hs.out.1⟩
    by_cases hlt : k < l.length
    · obtain ⟨y, hy, hym⟩ := get_lt l k hlt
      obtain ⟨b1, o1, x1, l1, c1⟩ := accQ_ix (haH.out.later hBw.out.1) k y hy
      obtain ⟨yk, yn, yw⟩ := y
      have q0 : wr.cell? ⟨b1, o1, none⟩ = some (.int .i64 yk) := c1 0 _ rfl
      have q1 : wr.cell? ⟨b1, o1 + 1, none⟩ = some (.int .i64 yn) := c1 1 _ rfl
      have q2 : wr.cell? ⟨b1, o1 + 2, none⟩ = some (.bool yw) := c1 2 _ rfl
      have p0 : wr.cell? ⟨w.heap.size, 0, none⟩ = some (.int .i64 ak) := cell_lcQ hBw.out.2 rfl
      have p1 : wr.cell? ⟨w.heap.size, 1, none⟩ = some (.int .i64 an) := cell_lcQ hBw.out.2 rfl
      have p2 : wr.cell? ⟨w.heap.size, 2, none⟩ = some (.bool aw) := cell_lcQ hBw.out.2 rfl
      have hkI : (k : Int) < l.length := by omega
      have hnx : Hid (¬ fitsQ ⟨yk, yn, yw⟩ ⟨ak, an, aw⟩ → Below W.heap.size W wr ∧ ∀ i y, i < k + 1 → l[i]? = some y → ¬ fitsQ y ⟨ak, an, aw⟩) := fun hn => ⟨hs.out.1, fun i z hi hz => by
        by_cases c : i = k
        · subst c; rw [hy] at hz; cases hz; exact hn
        · exact hs.out.2 i z (by omega) hz⟩
      have hBd : Hid (Below w.heap.size w wr) := hBw.out.1
      clear hs hBw hy hym c1 l1
      by_cases e1 : ak = yk
      · subst e1
        have d1 : (ak == ak) = true := by simp
        by_cases e2 : an = yn
        · subst e2
          have d2 : (an == an) = true := by simp
          cases yw with
          | true =>
            go_wp2_with fail
            go_quiet (fail)
            go_wp2
            go_ret
            exact ⟨rfl, below_drewN hBd.out _⟩

          | false =>
            cases aw with
            | false =>
              go_wp2_with fail
              go_quiet (fail)
              go_wp2
              go_ret
              exact ⟨rfl, below_drewN hBd.out _⟩

            | true =>
              have hs2 : Hid (Below W.heap.size W wr ∧ ∀ i y, i < k + 1 → l[i]? = some y → ¬ fitsQ y ⟨ak, an, true⟩) := hnx.out (fun q => by rcases q.2.2 with h | h <;> cases h)
              clear hnx hBd
              go_wp2_with fail
              go_quiet (fail)
              go_wp2
              go_roundw
              case rel => exact ⟨k + 1, by omega, by go_num, below_drewN hs2.out.1 _, hs2.out.2⟩
              case measure => simp [intOf]; omega

        · have d2 : (yn == an) = false := beq_eq_false_iff_ne.mpr (Ne.symm e2)
          have hs2 : Hid (Below W.heap.size W wr ∧ ∀ i y, i < k + 1 → l[i]? = some y → ¬ fitsQ y ⟨ak, an, aw⟩) := hnx.out (fun q => e2 q.2.1.symm)
          clear hnx hBd
          go_wp2_with fail
          go_quiet (fail)
          go_wp2
          go_roundw
          case rel => exact ⟨k + 1, by omega, by go_num, below_drewN hs2.out.1 _, hs2.out.2⟩
          case measure => simp [intOf]; omega

      · have d1 : (yk == ak) = false := beq_eq_false_iff_ne.mpr (Ne.symm e1)
        have hs2 : Hid (Below W.heap.size W wr ∧ ∀ i y, i < k + 1 → l[i]? = some y → ¬ fitsQ y ⟨ak, an, aw⟩) := hnx.out (fun q => e1 q.1.symm)
        clear hnx hBd
        go_wp2_with fail
        go_quiet (fail)
        go_wp2
        go_roundw
        case rel => exact ⟨k + 1, by omega, by go_num, below_drewN hs2.out.1 _, hs2.out.2⟩
        case measure => simp [intOf]; omega

    · exfalso
      obtain ⟨b, hb, hf⟩ := hxH.out
      obtain ⟨i, hi⟩ := List.getElem?_of_mem hb
      exact hs.out.2 i b (by have := (List.getElem?_eq_some_iff.mp hi).1; omega) hi hf
set_option maxHeartbeats 2000000 in
theorem fnext_own (M : MPr) (f : Int) (pc : Nat) (w : World) (hM : M.lies w) (hF : prog.Forms w) (F : MFn) (hFi : M.fns[f.toNat]? = some F) (hfl : FlowF F.fn) (f0 : 0 ≤ f) (hpc : pc < F.code.length) (hfit : fitP M.pr f pc = 0) :
    Calls Tryd.prog 23 #[M.val, .int .i64 f, .int .i64 (pc : Int)] w fun e w' => ∃ va vc, e = .returned (.tuple #[.slice va (lst (bAll F.fn (onePl pc) F.code.length) 64).length vc, .int .i64 0]) ∧ Rows w' 1 va vc ((lst (bAll F.fn (onePl pc) F.code.length) 64).map chCells) ∧ Below w.heap.size w w' ∧ ∀ b ∈ blk va, w.heap.size ≤ b ∧ b < w'.heap.size := by
  have hb := boxed w (objP M)
  have bP := boxP_new w M
  have hFm := List.mem_of_getElem? hFi
  have hcall := fcheckPlace_any M f (pc : Int) _ (hM.later hb) (hF.later hb) 0 hfit.symm
  have hMH : Hid (M.lies w) := hM
  have bPH : Hid (BoxP (w.alloc (objP M)) w.heap.size M) := bP
  have hbH : Hid (Below w.heap.size w (w.alloc (objP M))) := hb
  have hl64 : pc < 64 := by have := hfl.l64; have h : F.fn.code.length = F.code.length := rfl; omega
  clear hM hF hfit hb
  go_enter Tryd.func23, Tryd.ntmps23
  go_wp2_with (go_at_call 25; (with_reducible refine hcall.mono ?_); rintro e w2 ⟨rfl, hb2⟩; clear bP)
  have hbW : Below w.heap.size w w2 := bthen hbH.out hb2
  have hPc := bPH.out.later hb2
  obtain ⟨fb, fo, hfix, hfb, fc0, fc1, fc2, fc3⟩ := fn_ix (hMH.out.later hbW).2.2.1 f.toNat F hFi
  rw [show ((f.toNat : Nat) : Int) = f by omega] at hfix
  have hlF : Hid (F.lies w) := hMH.out.2.2.2.2.2.2 F hFm
  clear hb2 hcall
  have hH : Below w2.heap.size w2 w2.drew := bey_drew w2
  have hrF : ∀ w', Below w2.heap.size w2 w' → w'.rangeAt fb fo [.int .i64 F.params, .int .i64 F.regs, .slice F.ca F.code.length F.ccap, .slice F.sa F.sels.length F.scap] := fun w' h' j v hj => by
    match j, hj with
    | 0, hj => cases hj; exact cell_later h' fc0
    | 1, hj => cases hj; exact cell_later h' fc1
    | 2, hj => cases hj; exact cell_later h' fc2
    | 3, hj => cases hj; exact cell_later h' fc3
  refine wp_region_held_drew (S := fun w' => Below w2.heap.size w2 w') (by kernel_rfl) hH (fun _ => ?_)
  refine reg_move (i := 0) rfl (by kernel_rfl) (by kernel_rfl) (by kernel_rfl) (fun _ _ _ _ h => h) rfl (.pointer (some ⟨w.heap.size, 3, none⟩)) (fun _ => by kernel_rfl) hH ?_
  simp only [Act.put, List.getElem_toArray, List.getElem_cons_succ, List.getElem_cons_zero, List.setIfInBounds_toArray, List.set_cons_zero, List.set_cons_succ]
  refine reg_load1 (i := 1) rfl (by kernel_rfl) (by kernel_rfl) (by kernel_rfl) (fun _ _ _ _ h => h) rfl 24 _ rfl ⟨w.heap.size, 3, none⟩ rfl _ Tryd.underlying24 rfl (.slice M.fa M.fns.length M.fcap) (fun w' h' => cell_later h' hPc.2.2.2) hH ?_
  simp only [Act.put, List.getElem_toArray, List.getElem_cons_succ, List.getElem_cons_zero, List.setIfInBounds_toArray, List.set_cons_zero, List.set_cons_succ]
  refine reg_move (i := 2) rfl (by kernel_rfl) (by kernel_rfl) (by kernel_rfl) (fun _ _ _ _ h => h) rfl (.int .i64 f) (fun _ => by kernel_rfl) hH ?_
  simp only [Act.put, List.getElem_toArray, List.getElem_cons_succ, List.getElem_cons_zero, List.setIfInBounds_toArray, List.set_cons_zero, List.set_cons_succ]
  refine reg_move (i := 3) rfl (by kernel_rfl) (by kernel_rfl) (by kernel_rfl) (fun _ _ _ _ h => h) rfl (.pointer (some ⟨fb, fo, none⟩)) (fun wx => by unfold execOp; exact run_valueF (hfix wx)) hH ?_
  simp only [Act.put, List.getElem_toArray, List.getElem_cons_succ, List.getElem_cons_zero, List.setIfInBounds_toArray, List.set_cons_zero, List.set_cons_succ]
  refine reg_load (i := 4) rfl (by kernel_rfl) (by kernel_rfl) (by kernel_rfl) (fun _ _ _ _ h => h) rfl 62 _ rfl fb fo rfl [.int .i64 F.params, .int .i64 F.regs, .slice F.ca F.code.length F.ccap, .slice F.sa F.sels.length F.scap] _ hrF Tryd.underlying62 rfl (by kernel_rfl) hH ?_
  simp only [Act.put, List.getElem_toArray, List.getElem_cons_succ, List.getElem_cons_zero, List.setIfInBounds_toArray, List.set_cons_zero, List.set_cons_succ]
  refine reg_move (i := 5) rfl (by kernel_rfl) (by kernel_rfl) (by kernel_rfl) (fun _ _ _ _ h => h) rfl (.int .i64 (pc : Int)) (fun _ => by kernel_rfl) hH ?_
  simp only [Act.put, List.getElem_toArray, List.getElem_cons_succ, List.getElem_cons_zero, List.setIfInBounds_toArray, List.set_cons_zero, List.set_cons_succ]
  refine reg_call1 (i := 6) (by kernel_rfl) rfl rfl 46 _ _ rfl (.int .i64 (pc : Int)) rfl (cf_fn Tryd.func46 (by kernel_rfl) (by kernel_rfl) _ _) _ (just_any pc hl64 _) ?_
  rintro e3 w3 ⟨rfl, hb3⟩
  have hH3 : Below w2.heap.size w2 w3 := bthen hH hb3
  refine ⟨_, rfl, hH3, fun _ => ?_⟩
  simp only [Act.put, List.getElem_toArray, List.getElem_cons_succ, List.getElem_cons_zero, List.setIfInBounds_toArray, List.set_cons_zero, List.set_cons_succ]
  refine reg_call2 (i := 7) (by kernel_rfl) rfl rfl 45 _ _ _ _ rfl F.val (.agg (boolRow 64 (onePl pc))) rfl rfl (cf_fn Tryd.func45 (by kernel_rfl) (by kernel_rfl) _ _) _ (behindAll_any F (onePl pc) w3 (hlF.out.later (bthen hbW hH3)) hfl) ?_
  rintro e4 w4 ⟨rfl, hb4⟩
  have hH4 : Below w2.heap.size w2 w4 := bthen hH3 hb4
  refine ⟨_, rfl, hH4, fun _ => ?_⟩
  simp only [Act.put, List.getElem_toArray, List.getElem_cons_succ, List.getElem_cons_zero, List.setIfInBounds_toArray, List.set_cons_zero, List.set_cons_succ]
  refine reg_call1 (i := 8) (by kernel_rfl) rfl rfl 36 _ _ rfl (.agg (boolRow 64 (bAll F.fn (onePl pc) F.code.length))) rfl (cf_fn Tryd.func36 (by kernel_rfl) (by kernel_rfl) _ _) _ (list_any _ _) ?_
  rintro e5 w5 ⟨va, vc, rfl, hls⟩
  have hH5 : Below w2.heap.size w2 w5 := bthen hH4 hls.be
  refine ⟨_, rfl, hH5, fun _ => ?_⟩
  simp only [Act.put, List.getElem_toArray, List.getElem_cons_succ, List.getElem_cons_zero, List.setIfInBounds_toArray, List.set_cons_zero, List.set_cons_succ]
  refine reg_move (i := 9) rfl (by kernel_rfl) (by kernel_rfl) (by kernel_rfl) (fun _ _ _ _ h => h) rfl (.slice va (lst (bAll F.fn (onePl pc) F.code.length) 64).length vc) (fun _ => rfl) hH5 ?_
  simp only [Act.put, List.getElem_toArray, List.getElem_cons_succ, List.getElem_cons_zero, List.setIfInBounds_toArray, List.set_cons_zero, List.set_cons_succ]
  refine reg_move (i := 10) rfl (by kernel_rfl) (by kernel_rfl) (by kernel_rfl) (fun _ _ _ _ h => h) rfl (.int .i64 0) (fun _ => by kernel_rfl) hH5 ?_
  simp only [Act.put, List.getElem_toArray, List.getElem_cons_succ, List.getElem_cons_zero, List.setIfInBounds_toArray, List.set_cons_zero, List.set_cons_succ]
  refine wpAnyH_done (by kernel_rfl) ?_ _
  have hrw : Hid (Rows w5 1 va vc ((lst (bAll F.fn (onePl pc) F.code.length) 64).map chCells)) := hls.rows
  have hbE : Hid (Below w.heap.size w w5) := bthen hbW hH5
  have hbk : Hid (∀ b ∈ blk va, w.heap.size ≤ b ∧ b < w5.heap.size) := fun b hb => by have h1 := blk_lt hls.ow b hb; have h2 := (bthen hbW hH4).size; omega
  clear hls hrF hfix hPc fc0 fc1 fc2 fc3
  generalize hLL : lst (bAll F.fn (onePl pc) F.code.length) 64 = LL at *
  go_wp2
  go_ret2
  exact ⟨va, vc, by rw [hLL]; rfl, by rw [hLL]; exact hrw.out, hbE.out, hbk.out⟩
end Go.Proofs.YtlcljdldhajkiaaDoor.pg
/- FlowHolds, walked. -/
namespace Go.Proofs.YtlcljdldhajkiaaDoor.pg
open Go.ChangeShapes Go.WideShapes Go.ChangeAt Go.RowKit Go.Shelf
set_option linter.unusedVariables false
set_option linter.unusedSimpArgs false
set_option maxRecDepth 100000
theorem ac_len (L : List AcQ) : ∀ row ∈ L.map AcQ.cells, row.length = 3 := fun r hr => by
  obtain ⟨x, _, rfl⟩ := List.mem_map.mp hr
  rfl
theorem ac_one (L : List AcQ) : ∀ row ∈ L.map AcQ.cells, ∀ u ∈ row, u.oneCell' = true := fun r hr u hu => by
  obtain ⟨x, _, rfl⟩ := List.mem_map.mp hr
  simp only [AcQ.cells, List.mem_cons, List.not_mem_nil, or_false] at hu
  rcases hu with rfl | rfl | rfl <;> rfl
structure HoS (w W : World) (M : MPr) (A : List AcQ) (aa : Option Addr) (ac : Nat) (X : List Int) (na : Option Addr) (nc : Nat) (L : List AcQ) (va : Option Addr) (vc n2 : Nat) : Prop where
  b : Below w.heap.size w W
  p : BoxP W w.heap.size M
  a : Rows W 3 aa ac (A.map AcQ.cells)
  al : ∀ b ∈ blk aa, b < n2
  n : Rows W 1 na nc (X.map chCells)
  nl : ∀ b ∈ blk na, b < W.heap.size ∧ b ∉ blk va
  o : OwnL W n2 53 3 va vc (L.map AcQ.cells)
  sz : n2 ≤ W.heap.size
  sp : w.heap.size < n2
  h : ∀ x ∈ L, hldA A x
theorem HoS.later {w W W' : World} {M : MPr} {A : List AcQ} {aa : Option Addr} {ac : Nat} {X : List Int} {na : Option Addr} {nc : Nat} {L : List AcQ} {va : Option Addr} {vc n2 : Nat} (h : HoS w W M A aa ac X na nc L va vc n2) (hb : Below W.heap.size W W') : HoS w W' M A aa ac X na nc L va vc n2 :=
  ⟨bthen h.b hb, h.p.later hb, h.a.later hb, h.al, h.n.later hb, fun b q => ⟨by have := (h.nl b q).1; have := hb.size; omega, (h.nl b q).2⟩, own_keep h.o (fun b q => hb.block b (blk_lt h.o b q).2), by have := h.sz; have := hb.size; omega, h.sp, h.h⟩
theorem HoS.grown {w W W' : World} {M : MPr} {A : List AcQ} {aa : Option Addr} {ac : Nat} {X : List Int} {na : Option Addr} {nc : Nat} {L Q : List AcQ} {va va' : Option Addr} {vc vc' n2 : Nat} (h : HoS w W M A aa ac X na nc L va vc n2) (g1 : OwnL W' n2 53 3 va' vc' (L.map AcQ.cells ++ Q.map AcQ.cells)) (g2 : ∀ b, b < W.heap.size → b ∉ blk va → W'.heap[b]? = W.heap[b]?) (g3 : Below (min n2 W.heap.size) W W') (g4 : blk va' = blk va ∨ blk va' = [W.heap.size]) (hq : ∀ x ∈ Q, hldA A x) : HoS w W' M A aa ac X na nc (L ++ Q) va' vc' n2 := by
  have hb : Below n2 W W' := g3.mono (by have := h.sz; omega)
  have hp : W'.heap[w.heap.size]? = W.heap[w.heap.size]? := hb.block _ h.sp
  refine ⟨h.b.trans (hb.mono (by have := h.sp; omega)), ⟨cell_keepQ h.p.1 hp, cell_keepQ h.p.2.1 hp, cell_keepQ h.p.2.2.1 hp, cell_keepQ h.p.2.2.2 hp⟩, rows_keepF h.a hb.size (fun b q => hb.block b (h.al b q)), h.al, rows_keepF h.n hb.size (fun b q => g2 b (h.nl b q).1 (h.nl b q).2), fun b q => ⟨by have := (h.nl b q).1; have := hb.size; omega, fun r => ?_⟩, by rw [List.map_append]; exact g1, by have := h.sz; have := hb.size; omega, h.sp, fun x hx => ?_⟩
  · rcases g4 with e | e
    · rw [e] at r; exact (h.nl b q).2 r
    · rw [e, List.mem_singleton] at r
      have := (h.nl b q).1
      omega
  · rcases List.mem_append.mp hx with hx | hx
    · exact h.h x hx
    · exact hq x hx
set_option maxHeartbeats 8000000 in
theorem flowHolds_any (M : MPr) (f pc : Int) (w : World) (hM : M.lies w) (hF : prog.Forms w) : Calls Tryd.prog 5 #[M.val, .int .i64 f, .int .i64 pc] w fun e w' => e = .returned (.bool true) ∧ Below w.heap.size w w' := by
  have hb := boxed w (objP M)
  have bP := boxP_new w M
  have bPH : Hid (BoxP (w.alloc (objP M)) w.heap.size M) := bP
  have hbH : Hid (Below w.heap.size w (w.alloc (objP M))) := hb
  have hMH : Hid (M.lies w) := hM
  have hPH : Hid (prog.Forms w) := hF
  have huA : Hid (Tryd.prog.underlying 53 = _) := Tryd.underlying53
  obtain ⟨e, he⟩ : ∃ e, Hid (e = fitP M.pr f pc) := ⟨_, rfl⟩
  by_cases e0 : e = 0
  rotate_left
  · have xR := may_err M f pc _ (hM.later hb) (hF.later hb) e he e0
    have cI : ∀ V, Below w.heap.size w V → Calls Tryd.prog 8 #[M.val, .int .i64 f, .int .i64 pc] V fun e' w' => e' = .returned (.int .i64 e) ∧ Below V.heap.size V w' := fun V hV => rfit_any M f pc V (hMH.out.later hV) e he
    have cS : ∀ V, Below w.heap.size w V → Calls Tryd.prog 9 #[] V fun e' w' => e' = .returned (.bool true) ∧ Below V.heap.size V w' := fun V hV => speaksF_any V (hPH.out.later hV)
    have d : (e != 0) = true := by simpa using e0
    clear hM hF hb e0 he
    go_enter Tryd.func5, Tryd.ntmps5
    go_wp2_with (first
      | (go_at_call 7; (refine xR.mono ?_); rintro e' w2 ⟨rfl, hb2⟩; clear bP; (have bP := bPH.out.later hb2); obtain ⟨p0, p1, p2, p3⟩ := bP; (have xI := cI w2 (bthen hbH.out hb2)))
      | (go_at_call 8; (refine xI.mono ?_); rintro e' w3 ⟨rfl, hb3⟩; (have hB3 : Hid (Below w.heap.size w w3) := bthen (bthen hbH.out hb2) hb3); (have xS := cS w3 hB3.out))
      | (go_at_call 9; (refine xS.mono ?_); rintro e' w4 ⟨rfl, hb4⟩))
    go_ret
    exact ⟨rfl, bthen hB3.out hb4⟩
  subst e0
  have hfit : fitP M.pr f pc = 0 := he.out.symm
  have hff : fitF M.pr f = 0 := by
    apply Classical.byContradiction
    intro q
    rw [fitP, if_neg q] at hfit
    exact q hfit
  obtain ⟨F, hFi, hFm, eF⟩ := fn_get hff
  obtain ⟨hok, f0, f1⟩ := fitF_ok hff
  have hpp : 0 ≤ pc ∧ pc < F.code.length := by
    rw [fitP, if_pos hff, eF] at hfit
    apply Classical.byContradiction
    intro q
    rw [if_neg (show ¬ (0 ≤ pc ∧ pc < (F.fn.code.length : Int)) from q)] at hfit
    cases hfit
  have hfl : Hid (FlowF F.fn) := flow_of hok F.fn (List.mem_map.mpr ⟨F, hFm, rfl⟩)
  obtain ⟨fn, rfl⟩ : ∃ k : Nat, f = (k : Int) := ⟨f.toNat, by omega⟩
  rw [Int.toNat_natCast] at hFi
  obtain ⟨pn, rfl⟩ : ∃ pn : Nat, pc = (pn : Int) := ⟨pc.toNat, by omega⟩
  have hft : Hid (∀ k : Nat, k < F.code.length → fitP M.pr (fn : Int) k = 0) := fun k hk => by rw [fitP, if_pos hff, eF, if_pos (show 0 ≤ (k : Int) ∧ (k : Int) < (F.fn.code.length : Int) from ⟨by omega, by have : F.fn.code.length = F.code.length := rfl; omega⟩)]
  have hpl : pn < F.code.length := by omega
  have hFiH : Hid (M.fns[fn]? = some F) := hFi
  have hokH : Hid ((chk insP M.pr).1 = 0) := hok
  have hFn : Hid (M.pr.fns[fn]? = some F.fn) := by (show (M.fns.map MFn.fn)[fn]? = _; rw [List.getElem?_map, hFi]; rfl)
  have cA : Hid (∀ V, Below w.heap.size w V → ∀ k : Nat, k < F.code.length → Calls Tryd.prog 7 #[M.val, .int .i64 (fn : Int), .int .i64 (k : Int)] V _) := fun V hV k hk => may_ok M fn k V (hMH.out.later hV) (hPH.out.later hV) F hFi hok hk (hft.out k hk)
  have cI : ∀ V, Below w.heap.size w V → Calls Tryd.prog 8 #[M.val, .int .i64 (fn : Int), .int .i64 (pn : Int)] V fun e' w' => e' = .returned (.int .i64 0) ∧ Below V.heap.size V w' := fun V hV => rfit_any M fn pn V (hMH.out.later hV) 0 he
  have cT : ∀ V, Below w.heap.size w V → Calls Tryd.prog 6 #[M.val, .int .i64 (fn : Int), .int .i64 (pn : Int)] V _ := fun V hV => touches_ok M fn pn V (hMH.out.later hV) (hPH.out.later hV) F hFi hok hpl (hft.out pn hpl)
  have cN : ∀ V, Below w.heap.size w V → Calls Tryd.prog 23 #[M.val, .int .i64 (fn : Int), .int .i64 (pn : Int)] V _ := fun V hV => fnext_own M fn pn V (hMH.out.later hV) (hPH.out.later hV) F (by rw [Int.toNat_natCast]; exact hFi) hfl.out f0 hpl (hft.out pn hpl)
  have cS : Hid (∀ V, Below w.heap.size w V → Calls Tryd.prog 9 #[] V fun e' w' => e' = .returned (.bool true) ∧ Below V.heap.size V w') := fun V hV => speaksF_any V (hPH.out.later hV)
  have xA := cA.out _ hb pn hpl
  have hl64 : F.code.length ≤ 64 := hfl.out.l64
  obtain ⟨iA, hiA', hzA', hsA', hbA'⟩ := info_q infoAq
  have hiA : Hid (Tryd.prog.info? 53 = some iA) := hiA'
  have hzA : Hid _ := hzA'
  have hsA : Hid _ := hsA'
  have hbA : Hid _ := hbA'
  have hplH : Hid (pn < F.code.length) := hpl
  clear hiA' hzA' hsA' hbA' hM hF hb he hfit hff hFi hFm eF hok f0 f1 hpp
  go_enter Tryd.func5, Tryd.ntmps5
  go_upto_region 2 with (go_at_call 7; (with_reducible refine xA.mono ?_); rintro e' w2 ⟨R, O, aa, ac, rfl, hR, hO, hoA, hb2⟩)
  obtain ⟨A, hA⟩ : ∃ A, Hid (lstO O 56 = A) := ⟨_, rfl⟩
  rw [hA.out] at hoA
  simp only [hA.out]
  have hRH : Hid (LeastP M.pr.fns fn pn R ∧ MayO M.pr.fns R O) := ⟨hR, hO⟩
  have h2 : Hid (Below w.heap.size w w2 ∧ BoxP w2 w.heap.size M ∧ Rows w2 3 aa ac (A.map AcQ.cells)) := ⟨bthen hbH.out hb2, bPH.out.later hb2, own_rows hoA (by intro r hr; obtain ⟨x, _, rfl⟩ := List.mem_map.mp hr; rfl)⟩
  have hszH : Hid (w.heap.size < w2.heap.size) := (bPH.out.later hb2).lt
  have hal : Hid (∀ b ∈ blk aa, b < w2.heap.size) := fun b hb => (blk_lt hoA b hb).2
  clear hb2 hoA hR hO xA bP
  have xI := cI w2 h2.out.1
  obtain ⟨p0, p1, p2, p3⟩ := h2.out.2.1
  go_upto_region 4 with (go_at_call 8; (refine xI.mono ?_); rintro e' w3 ⟨rfl, hb3⟩; clear p0 p1 p2 p3)
  have h3 : Hid (Below w.heap.size w w3 ∧ BoxP w3 w.heap.size M ∧ Rows w3 3 aa ac (A.map AcQ.cells) ∧ w2.heap.size ≤ w3.heap.size) := ⟨bthen h2.out.1 hb3, h2.out.2.1.later hb3, h2.out.2.2.later hb3, hb3.size⟩
  have xT := cT w3 h3.out.1
  obtain ⟨p0, p1, p2, p3⟩ := h3.out.2.1
  clear h2 hb3 xI cI
  go_upto_region 5 with (go_at_call 6; (with_reducible refine xT.mono ?_); rintro e' w4 ⟨va, vc, rfl, hoT, hb4⟩; clear p0 p1 p2 p3)
  obtain ⟨T, hT⟩ : ∃ T, Hid (lstO (mxL zO (tchI F.fn (insAt F.code pn))) 56 = T) := ⟨_, rfl⟩
  rw [hT.out] at hoT
  simp only [hT.out]
  have h4 : Hid (Below w.heap.size w w4 ∧ BoxP w4 w.heap.size M ∧ Rows w4 3 aa ac (A.map AcQ.cells) ∧ w2.heap.size ≤ w4.heap.size ∧ OwnL w4 w2.heap.size 53 3 va vc (T.map AcQ.cells)) := ⟨bthen h3.out.1 hb4, h3.out.2.1.later hb4, h3.out.2.2.1.later hb4, by have := hb4.size; have := h3.out.2.2.2; (show _ ≤ _); omega, own_mono_q hoT h3.out.2.2.2⟩
  have hTl : Hid (T.length ≤ 56) := by (rw [← hT.out]; exact lstO_len _ 56)
  have hTA : Hid (∀ x ∈ T, hldA A x) := fun x hx => by
    rw [← hT.out] at hx
    rw [← hA.out]
    have hm : ∀ j, mxL zO (tchI F.fn (insAt F.code pn)) j = 0 ∨ (j, mxL zO (tchI F.fn (insAt F.code pn)) j) ∈ tchI F.fn (insAt F.code pn) := mxL_one _ _
    refine hld_of (fun j => ?_) (fun j => ?_) hRH.out.2.range hx
    · rcases hm j with q | q
      · rw [q]; rcases hRH.out.2.range j with r | r | r <;> omega
      · exact hRH.out.2.up fn F.fn pn hFn.out hplH.out hRH.out.1.up _ q
    · rcases hm j with q | q
      · exact .inl q
      · exact .inr (tch_pos q)
  have xN := cN w4 h4.out.1
  obtain ⟨p0, p1, p2, p3⟩ := h4.out.2.1
  clear h3 hb4 hoT xT cT hT
  go_upto_region 6 with (go_at_call 23; (with_reducible refine xN.mono ?_); rintro e' w5 ⟨na, nc, rfl, hn, hb5, hbk⟩; clear p0 p1 p2 p3)
  obtain ⟨X, hX⟩ : ∃ X, Hid (lst (bAll F.fn (onePl pn) F.code.length) 64 = X) := ⟨_, rfl⟩
  rw [hX.out] at hn
  simp only [hX.out]
  have h5 : Hid (HoS w w5 M A aa ac X na nc T va vc w2.heap.size) := by
    have hw2 : w.heap.size < w2.heap.size := hszH.out
    refine ⟨bthen h4.out.1 hb5, h4.out.2.1.later hb5, h4.out.2.2.1.later hb5, hal.out, hn, fun b hb => ⟨(hbk b hb).2, fun q => ?_⟩, own_keep h4.out.2.2.2.2 (fun b q => hb5.block b (blk_lt h4.out.2.2.2.2 b q).2), by have := hb5.size; have := h4.out.2.2.2.1; omega, hw2, hTA.out⟩
    have := (blk_lt h4.out.2.2.2.2 b q).2
    have := (hbk b hb).1
    omega
  have hXl : (X.length : Int) ≤ 64 := by (rw [← hX.out]; have := lst_len (bAll F.fn (onePl pn) F.code.length) 64; omega)
  have hXin : Hid (∀ x ∈ X, ∃ k : Nat, x = (k : Int) ∧ k < F.code.length ∧ R fn k = true) := fun x hx => by
    have h1 := next_in (hX.out.symm ▸ hx)
    have h2 := hfl.out.n pn hplH.out x h1
    exact ⟨x.toNat, by omega, by have : F.fn.code.length = F.code.length := rfl; omega, hRH.out.1.cl.c fn F.fn hFn.out pn hplH.out hRH.out.1.up rfl x h1⟩
  clear h4 hb5 hn hbk xN cN hX hTA hal
  generalize w2.heap.size = n2 at *
  go_wp2_with fail
  go_loopw [9, 13] (fun o u wr => ∃ (i : Nat) (L : List AcQ) (va : Option Addr) (vc : Nat), i ≤ X.length ∧ u = .int .i64 (i : Int) ∧ o = .slice va L.length vc ∧ Hid (HoS w wr M A aa ac X na nc L va vc n2 ∧ L.length ≤ 56 * (i + 1))) (fun _ u _ => X.length - (intOf u).toNat)
  case atStart => exact ⟨0, T, va, vc, Nat.zero_le _, rfl, rfl, h5.out, by have := hTl.out; omega⟩
  case round =>
    obtain ⟨i, L, va, vc, hi, rfl, rfl, hs⟩ := hrel
    clear h5 hTl
    by_cases hlt : i < X.length
    · obtain ⟨x, hx, hxm⟩ := get_lt X i hlt
      obtain ⟨k, rfl, hkl, hRk⟩ := hXin.out x hxm
      have hiI : (i : Int) < X.length := by omega
      obtain ⟨lb, lo, hix, hlb, lcel⟩ := ch_ix hs.out.1.n i (k : Int) hx
      go_upto_region 11 with fail
      have hH : Below wr.heap.size wr wr.drew := bey_drew _
      have hPc := hs.out.1.p
      have hrP : ∀ w', Below wr.heap.size wr w' → w'.rangeAt w.heap.size 0 ([.slice M.va M.vars.length M.vcap, .int .i64 M.locks, .slice M.cha M.chans.length M.chcap, .slice M.fa M.fns.length M.fcap] : List Value) := fun w' h' j v hj => by
        match j, hj with
        | 0, hj => cases hj; exact cell_later h' hPc.1
        | 1, hj => cases hj; exact cell_later h' hPc.2.1
        | 2, hj => cases hj; exact cell_later h' hPc.2.2.1
        | 3, hj => cases hj; exact cell_later h' hPc.2.2.2
      refine wp_region_held_drew (S := fun w' => Below wr.heap.size wr w') (by kernel_rfl) hH (fun _ => ?_)
      refine reg_load (i := 0) rfl (by kernel_rfl) (by kernel_rfl) (by kernel_rfl) (fun _ _ _ _ h => h) rfl 26 _ rfl w.heap.size 0 rfl [.slice M.va M.vars.length M.vcap, .int .i64 M.locks, .slice M.cha M.chans.length M.chcap, .slice M.fa M.fns.length M.fcap] _ hrP Tryd.underlying26 rfl (by kernel_rfl) hH ?_
      simp only [Act.put, List.getElem_toArray, List.getElem_cons_succ, List.getElem_cons_zero, List.setIfInBounds_toArray, List.set_cons_zero, List.set_cons_succ]
      refine reg_move (i := 1) rfl (by kernel_rfl) (by kernel_rfl) (by kernel_rfl) (fun _ _ _ _ h => h) rfl (.int .i64 (fn : Int)) (fun _ => by kernel_rfl) hH ?_
      simp only [Act.put, List.getElem_toArray, List.getElem_cons_succ, List.getElem_cons_zero, List.setIfInBounds_toArray, List.set_cons_zero, List.set_cons_succ]
      refine reg_move (i := 2) rfl (by kernel_rfl) (by kernel_rfl) (by kernel_rfl) (fun _ _ _ _ h => h) rfl (.slice na X.length nc) (fun _ => by kernel_rfl) hH ?_
      simp only [Act.put, List.getElem_toArray, List.getElem_cons_succ, List.getElem_cons_zero, List.setIfInBounds_toArray, List.set_cons_zero, List.set_cons_succ]
      refine reg_move (i := 3) rfl (by kernel_rfl) (by kernel_rfl) (by kernel_rfl) (fun _ _ _ _ h => h) rfl (.int .i64 (i : Int)) (fun _ => by kernel_rfl) hH ?_
      simp only [Act.put, List.getElem_toArray, List.getElem_cons_succ, List.getElem_cons_zero, List.setIfInBounds_toArray, List.set_cons_zero, List.set_cons_succ]
      refine reg_move (i := 4) rfl (by kernel_rfl) (by kernel_rfl) (by kernel_rfl) (fun _ _ _ _ h => h) rfl (.pointer (some ⟨lb, lo, none⟩)) (fun wx => by unfold execOp; exact run_valueF (hix wx)) hH ?_
      simp only [Act.put, List.getElem_toArray, List.getElem_cons_succ, List.getElem_cons_zero, List.setIfInBounds_toArray, List.set_cons_zero, List.set_cons_succ]
      refine reg_load1 (i := 5) rfl (by kernel_rfl) (by kernel_rfl) (by kernel_rfl) (fun _ _ _ _ h => h) rfl 3 _ rfl ⟨lb, lo, none⟩ rfl _ Tryd.underlying3 rfl (.int .i64 (k : Int)) (fun w' h' => cell_later h' lcel) hH ?_
      simp only [Act.put, List.getElem_toArray, List.getElem_cons_succ, List.getElem_cons_zero, List.setIfInBounds_toArray, List.set_cons_zero, List.set_cons_succ]
      refine reg_call3F (i := 6) (by kernel_rfl) rfl rfl 7 _ _ _ _ _ _ rfl M.val (.int .i64 (fn : Int)) (.int .i64 (k : Int)) rfl rfl rfl (cf_fn Tryd.func7 (by kernel_rfl) (by kernel_rfl) _ _) _ (cA.out wr.drew (hs.out.1.later (bey_drew _)).b k hkl) ?_
      rintro e5 w5 ⟨R2, O2, ma, mc, rfl, hR2, hO2, hoM, hb5⟩
      obtain ⟨Q, hQ⟩ : ∃ Q, Hid (lstO O2 56 = Q) := ⟨_, rfl⟩
      rw [hQ.out] at hoM
      simp only [hQ.out]
      have hH5 : Below wr.heap.size wr w5 := bthen hH hb5
      refine ⟨_, rfl, hH5, fun _ => ?_⟩
      simp only [Act.put, List.getElem_toArray, List.getElem_cons_succ, List.getElem_cons_zero, List.setIfInBounds_toArray, List.set_cons_zero, List.set_cons_succ]
      refine reg_move (i := 7) rfl (by kernel_rfl) (by kernel_rfl) (by kernel_rfl) (fun _ _ _ _ h => h) rfl (.tuple #[.slice ma Q.length mc, .int .i64 0]) (fun _ => rfl) hH5 ?_
      simp only [Act.put, List.getElem_toArray, List.getElem_cons_succ, List.getElem_cons_zero, List.setIfInBounds_toArray, List.set_cons_zero, List.set_cons_succ]
      refine reg_move (i := 8) rfl (by kernel_rfl) (by kernel_rfl) (by kernel_rfl) (fun _ _ _ _ h => h) rfl (.slice ma Q.length mc) (fun _ => by kernel_rfl) hH5 ?_
      simp only [Act.put, List.getElem_toArray, List.getElem_cons_succ, List.getElem_cons_zero, List.setIfInBounds_toArray, List.set_cons_zero, List.set_cons_succ]
      refine reg_move (i := 9) rfl (by kernel_rfl) (by kernel_rfl) (by kernel_rfl) (fun _ _ _ _ h => h) rfl (.int .i64 0) (fun _ => by kernel_rfl) hH5 ?_
      simp only [Act.put, List.getElem_toArray, List.getElem_cons_succ, List.getElem_cons_zero, List.setIfInBounds_toArray, List.set_cons_zero, List.set_cons_succ]
      refine reg_move (i := 10) rfl (by kernel_rfl) (by kernel_rfl) (by kernel_rfl) (fun _ _ _ _ h => h) rfl (.slice ma Q.length mc) (fun _ => rfl) hH5 ?_
      simp only [Act.put, List.getElem_toArray, List.getElem_cons_succ, List.getElem_cons_zero, List.setIfInBounds_toArray, List.set_cons_zero, List.set_cons_succ]
      refine reg_move (i := 11) rfl (by kernel_rfl) (by kernel_rfl) (by kernel_rfl) (fun _ _ _ _ h => h) rfl (.int .i64 0) (fun _ => rfl) hH5 ?_
      simp only [Act.put, List.getElem_toArray, List.getElem_cons_succ, List.getElem_cons_zero, List.setIfInBounds_toArray, List.set_cons_zero, List.set_cons_succ]
      refine wpAnyH_done (by kernel_rfl) ?_ _
      have hs5 : Hid (HoS w w5 M A aa ac X na nc L va vc n2 ∧ L.length ≤ 56 * (i + 1)) := ⟨(hs.out.1.later (bey_drew _)).later hb5, hs.out.2⟩
      have hQr : Hid (Rows w5 3 ma mc (Q.map AcQ.cells)) := own_rows hoM (by intro r hr; obtain ⟨x, _, rfl⟩ := List.mem_map.mp hr; rfl)
      have hQl : Hid (Q.length ≤ 56) := by (rw [← hQ.out]; exact lstO_len _ 56)
      have hQA : Hid (∀ x ∈ Q, hldA A x) := fun x hx => by
        rw [← hQ.out] at hx
        rw [← hA.out]
        exact hld_of (fun j => hO2.mono hRH.out.2 (fun g k => hRH.out.1.sub hR2 hRk g k) j) hO2.range hRH.out.2.range hx
      clear hrP hH hH5 hb5 hoM hR2 hO2 hix lcel hx hxm hkl hRk hQ hs hPc hlb
      go_wp2_with (first
        | (at_builtin; (refine wpList_app rfl (.tmp 81) (.tmp 82) 27 rfl n2 53 iA _ 3 24 Tryd.underlying27 hiA.out hzA.out hsA.out hbA.out rfl (by decide) va vc (L.map AcQ.cells) (by rw [List.length_map]; rfl) hs5.out.1.o ma mc (Q.map AcQ.cells) (by rw [List.length_map]; rfl) hQr.out (ac_len Q) (ac_one Q) (by have := hQl.out; have := hs5.out.2; unfold maxLen; rw [List.length_map, List.length_map]; omega) (by have := hQl.out; have := hs5.out.2; rw [List.length_map, List.length_map]; omega) hs5.out.1.sz ?_); intro va' vc' w6 g1 g2 g3 g4; rw [show (L.map AcQ.cells ++ Q.map AcQ.cells).length = (L ++ Q).length by simp]; (have hs6 : Hid (HoS w w6 M A aa ac X na nc (L ++ Q) va' vc' n2 ∧ (L ++ Q).length ≤ 56 * (i + 1 + 1)) := ⟨hs5.out.1.grown g1 g2 g3 g4 hQA.out, by have := hQl.out; have := hs5.out.2; rw [List.length_append]; omega⟩); clear g1 g2 g3 g4 hs5))
      go_roundw
      case rel => exact ⟨i + 1, L ++ Q, va', vc', by omega, by go_num, by rw [List.length_append], hs6.out⟩
      case measure => simp [intOf]; omega
    · have hie : i = X.length := by omega
      have hiI : ¬ ((i : Int) < X.length) := by omega
      have hsL : Hid (HoS w wr M A aa ac X na nc L va vc n2) := hs.out.1
      have hLm : (L.length : Int) ≤ 56 * 65 := by (have := hs.out.2; omega)
      clear hs hie
      go_wp2_with fail
      go_loopw [16] (fun u wr => ∃ j : Nat, j ≤ L.length ∧ u = .int .i64 (j : Int) ∧ Hid (HoS w wr M A aa ac X na nc L va vc n2)) (fun u _ => L.length - (intOf u).toNat)
      case atStart => exact ⟨0, Nat.zero_le _, rfl, hsL.out⟩
      case round =>
        clear hsL
        obtain ⟨j, hj, rfl, hs⟩ := hrel
        by_cases hjl : j < L.length
        · obtain ⟨y, hy, hym⟩ := get_lt L j hjl
          obtain ⟨b1, o1, hix1, hbl1, c1⟩ := accQ_ix (own_rows hs.out.o (ac_len L)) j y hy
          have hjI : (j : Int) < L.length := by omega
          have xH := holds_any A aa ac y wr hs.out.a (hs.out.h y hym)
          have hrg : Hid (wr.rangeAt b1 o1 [.int .i64 y.kind, .int .i64 y.num, .bool y.wr]) := c1
          clear hy hym hbl1 c1
          go_wp2_with (first
            | ((with_reducible refine at_loadQ 53 _ rfl ?_); refine stopQ_out ?_; refine wpList_load_mid rfl 53 _ rfl b1 o1 rfl [.int .i64 y.kind, .int .i64 y.num, .bool y.wr] _ hrg.out huA.out rfl (by kernel_rfl) ?_)
            | (go_at_call 24; (with_reducible refine xH.mono ?_); clear xH; rintro e' w7 ⟨rfl, hb7⟩; (have hs8 : Hid (HoS w w7 M A aa ac X na nc L va vc n2) := hs.out.later hb7)))
          go_roundw
          case rel => exact ⟨j + 1, by omega, by go_num, hs8⟩
          case measure => simp [intOf]; omega
        · have hje : j = L.length := by omega
          have hjI : ¬ ((j : Int) < L.length) := by omega
          have xS := cS.out wr hs.out.b
          go_wp2_with (go_at_call 9; (refine xS.mono ?_); rintro e' w8 ⟨rfl, hb8⟩)
          go_ret
          exact ⟨rfl, bthen hs.out.b hb8⟩
end Go.Proofs.YtlcljdldhajkiaaDoor.pg
