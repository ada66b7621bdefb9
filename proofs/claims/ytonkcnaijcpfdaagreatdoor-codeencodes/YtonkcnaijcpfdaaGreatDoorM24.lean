/- The document's own writer: numbers, flags, an instruction. -/
import Derived.Test.YtonkcnaijcpfdaaGreatDoorM23
namespace Go.Proofs.YtonkcnaijcpfdaaGreatDoor.pg
open Go.ChangeShapes Go.WideShapes Go.ChangeAt Go.RowKit
set_option linter.unusedVariables false
set_option linter.unusedSimpArgs false
set_option maxRecDepth 100000
/-- A list of bytes that the call made. -/
def Bs (w : World) (lo : Nat) (v : Value) (L : List Nat) : Prop := lo ≤ w.heap.size ∧ Bt L ∧ ∃ a c, v = .slice a L.length c ∧ OwnL w lo 5 1 a c (L.map u8c)
theorem Bs.later {w w' : World} {lo : Nat} {v : Value} {L : List Nat} (h : Bs w lo v L) (hb : Below w.heap.size w w') : Bs w' lo v L := by
  obtain ⟨h1, h2, a, c, rfl, ho⟩ := h
  exact ⟨Nat.le_trans h1 hb.size, h2, a, c, rfl, own_keep ho fun b hbb => hb.block b (blk_lt ho b hbb).2⟩
theorem Bs.base {w : World} {lo lo' : Nat} {v : Value} {L : List Nat} (h : Bs w lo v L) (hl : lo' ≤ lo) : Bs w lo' v L := by
  obtain ⟨h1, h2, a, c, rfl, ho⟩ := h
  refine ⟨Nat.le_trans hl h1, h2, a, c, rfl, ho.1, ?_⟩
  rcases ho.2 with q | ⟨g, cap', cur, q, hb, r⟩
  · exact .inl q
  · exact .inr ⟨g, cap', cur, q, Nat.le_trans hl hb, r⟩
theorem bs_nil (w : World) (lo : Nat) (h : lo ≤ w.heap.size) : Bs w lo (.slice none 0 0) [] := ⟨h, fun b hb => by simp at hb, none, 0, rfl, own_nil _ _ _ _⟩
theorem bl_fl (L : List Nat) : octet.bl (fl L) L.length = (L.map u8c).flatten := by
  rw [u8_flat]
  unfold octet.bl
  apply List.ext_getElem?
  intro i
  by_cases h : i < L.length
  · simp [h, fl]
  · simp [h]
theorem bl_put (x : Nat) : octet.bl (octet.gr x) (octet.szN x) = ((putB x).map u8c).flatten := by
  rw [u8_flat]
  unfold octet.bl putB
  rw [List.map_map]
  rfl
/-- A call that gives the bytes L, in memory of its own. -/
def Ap (f : FuncId) (args : Array Value) (w : World) (L : List Nat) : Prop := Calls Tryz.prog f args w fun e w' => ∃ v, e = .returned v ∧ Bs w' w.heap.size v L ∧ Below w.heap.size w w'
theorem bs_row {w : World} {lo : Nat} {L : List Nat} {a : Option Addr} {c : Nat} (hb : Bt L) (ho : OwnL w lo 5 1 a c (L.map u8c)) : octet.Row w a L.length (fl L) ∧ (a = none → L.length = 0 ∧ c = 0) := by
  have hr : Rows w 1 a c (L.map u8c) := own_rows ho (u8_len _)
  refine ⟨rows_row hr hb, fun q => ?_⟩
  have := hr.2.2.1 q
  simpa using this
theorem bs_owns {w' : World} {base b c : Nat} {L : List Nat} {x : Nat} (hb : Bt L) (hs : base ≤ w'.heap.size) (h : octet.Owns w' base b (L.length + octet.szN x) c (octet.cat (fl L) L.length (octet.gr x))) : Bs w' base (octet.mine b (L.length + octet.szN x) c) (L ++ putB x) := by
  refine ⟨hs, bt_app hb (bt_put x), some ⟨b, 0, none⟩, c, by rw [List.length_append, putB_len], ?_⟩
  show w'.ownsRow base _ 1 (.slice _ ((L ++ putB x).map u8c).length c) ((L ++ putB x).map u8c).length ((L ++ putB x).map u8c).flatten
  rw [List.length_map, List.length_append, putB_len, List.map_append, List.flatten_append, ← bl_fl, ← bl_put, octet.bl_cat]
  exact h
section
variable {w : World} {lo : Nat} {v : Value} {L : List Nat}
theorem rput_b (h : Bs w lo v L) (hn : L.length ≤ 1000000000) (X : Int) (h0 : 0 ≤ X) (hx : X < 18446744073709551616) : Ap 35 #[v, .int .u64 X] w (L ++ putB X.toNat) := by
  obtain ⟨h1, h2, a, c, rfl, ho⟩ := h
  obtain ⟨hr, hz⟩ := bs_row h2 ho
  refine (octet.refput_any a L.length c (fl L) X.toNat X w hr hz (by omega) (by omega) (by omega)).mono ?_
  rintro e w' ⟨b, c', rfl, ho', hb⟩
  exact ⟨_, rfl, bs_owns h2 hb.size ho', hb⟩
theorem rputn_b (h : Bs w lo v L) (hn : L.length ≤ 1000000000) (n : Nat) (hx : (n : Int) < 18446744073709551616) : Ap 35 #[v, .int .u64 (n : Int)] w (L ++ putB n) := by
  have := rput_b h hn (n : Int) (by omega) hx
  rw [Int.toNat_natCast] at this
  exact this
theorem rputint_b (h : Bs w lo v L) (hn : L.length ≤ 1000000000) (y : Int) (hy : I64 y) : Ap 37 #[v, .int .i64 y] w (L ++ sgnB y) := by
  obtain ⟨h1, h2, a, c, rfl, ho⟩ := h
  obtain ⟨hr, hz⟩ := bs_row h2 ho
  refine (octet.refputint_any a L.length c (fl L) y _ w hr hz (by omega) hy.1 hy.2 rfl).mono ?_
  rintro e w' ⟨b, c', rfl, ho', hb⟩
  exact ⟨_, rfl, bs_owns h2 hb.size ho', hb⟩
theorem rflag_b (h : Bs w lo v L) (hn : L.length ≤ 1000000000) (b : Bool) : Ap 36 #[v, .bool b] w (L ++ flagB b) := by
  cases b with
  | true =>
    have c1 : Calls Tryz.prog 35 #[v, .int .u64 1] w _ := rputn_b h hn 1 (by decide)
    unfold Ap
    go_enter Tryz.func36, Tryz.ntmps36
    go_wp2_with (go_at_call 35; (with_reducible refine c1.mono ?_); rintro e w' ⟨v1, rfl, h1, hb1⟩)
    go_ret
    exact ⟨_, rfl, h1, hb1⟩
  | false =>
    have c1 : Calls Tryz.prog 35 #[v, .int .u64 0] w _ := rputn_b h hn 0 (by decide)
    unfold Ap
    go_enter Tryz.func36, Tryz.ntmps36
    go_wp2_with (go_at_call 35; (with_reducible refine c1.mono ?_); rintro e w' ⟨v1, rfl, h1, hb1⟩)
    go_ret
    exact ⟨_, rfl, h1, hb1⟩
theorem operand_b (i : Ins) (k : Nat) (hk : k < 4) : Calls Tryz.prog 47 #[i.val, .int .i64 (k : Int)] w fun e w' => e = .returned (.int .i64 (i.x k)) ∧ Below w.heap.size w w' := by
  have hb := boxed w (objI i)
  have hk4 : k = 0 ∨ k = 1 ∨ k = 2 ∨ k = 3 := by omega
  rcases hk4 with rfl | rfl | rfl | rfl
  all_goals
    go_enter Tryz.func47, Tryz.ntmps47
    go_wp2
    go_ret
    exact ⟨rfl, hb⟩
end
end Go.Proofs.YtonkcnaijcpfdaaGreatDoor.pg
/- The document's own writer: the selects. -/
namespace Go.Proofs.YtonkcnaijcpfdaaGreatDoor.pg
open Go.ChangeShapes Go.WideShapes Go.ChangeAt Go.RowKit
set_option linter.unusedVariables false
set_option linter.unusedSimpArgs false
set_option maxRecDepth 100000
section
variable {w : World} {lo : Nat} {v : Value} {L : List Nat}
set_option maxHeartbeats 4000000 in
theorem rselects_b (h : Bs w lo v L) (l : List MSel) (a : Option Addr) (cap : Nat) (hr : Rows w 2 a cap (l.map MSel.cells)) (hw : ∀ x ∈ l, ((∀ c ∈ x.cases, casOk c) ∧ -1 ≤ x.els ∧ x.els ≤ 1000) ∧ x.lies w) (hn : L.length + ((putB l.length).length + (l.flatMap (fun y : MSel => selB y.sel)).length) ≤ 1000000000) :
    Ap 38 #[v, .slice a l.length cap] w (L ++ (putB l.length ++ l.flatMap (fun y : MSel => selB y.sel))) := by
  have hlI : (l.length : Int) ≤ 9223372036854775807 := rows_len hr
  have c1 : Calls Tryz.prog 35 #[v, .int .u64 (l.length : Int)] w _ := rputn_b h (by omega) l.length (by omega)
  unfold Ap
  go_enter Tryz.func38, Tryz.ntmps38
  go_wp2_with (go_at_call 35; (with_reducible refine c1.mono ?_); rintro e w1 ⟨v1, rfl, h1, hb1⟩)
  clear c1
  go_loopw [0, 5] (fun vs u wr => ∃ (j : Nat) (vv : Value), vv = vs ∧ j ≤ l.length ∧ u = .int .i64 j ∧ Bs wr w.heap.size vv (L ++ putB l.length ++ (l.take j).flatMap (fun y : MSel => selB y.sel)) ∧ Below w.heap.size w wr) (fun _ u _ => l.length - (intOf u).toNat)
  case atStart => exact ⟨0, _, rfl, Nat.zero_le _, rfl, by simpa using h1, hb1⟩
  case round =>
    clear h1 hb1
    obtain ⟨j, vv, rfl, hj, rfl, h1, hb1⟩ := hrel
    by_cases hlt : j < l.length
    · obtain ⟨x, hx, hxm⟩ := get_lt l j hlt
      obtain ⟨bb, o, hix, hbl, c0, c1⟩ := sel_ix (hr.later hb1) j x hx
      have hjI : (j : Int) < l.length := by omega
      have hfl := take_flat (fun y : MSel => selB y.sel) l (j + 1)
      rw [take_flat_one (fun y : MSel => selB y.sel) l j x hx, List.length_append] at hfl
      have hF : Hid ((l.take (j + 1)).flatMap (fun y : MSel => selB y.sel) = (l.take j).flatMap (fun y : MSel => selB y.sel) ++ selB x.sel) := take_flat_one (fun y : MSel => selB y.sel) l j x hx
      have hB : Hid (selB x.sel = putB x.cases.length ++ x.cases.flatMap casB ++ putB (x.els + 1).toNat) := rfl
      obtain ⟨⟨hcs, he1, he2⟩, hxl⟩ := hw x hxm
      have hbb := boxed wr (objS x)
      have bS := boxS_new wr x
      have hxl2 : Hid (x.lies (wr.alloc (objS x))) := (hxl.later hb1).later hbb
      have hlc : (x.cases.length : Int) ≤ 9223372036854775807 := rows_len hxl.1
      have hzz : wr.heap.size < (wr.alloc (objS x)).heap.size := by simp only [World.size_alloc]; omega
      have hlo : w.heap.size ≤ wr.heap.size := hb1.size
      have hBw : Hid (Below w.heap.size w (wr.alloc (objS x))) := bthen hb1 hbb
      simp only [hB.out, List.length_append] at hfl
      have hO : Hid (L ++ putB l.length ++ (l.take (j + 1)).flatMap (fun y : MSel => selB y.sel) = L ++ putB l.length ++ (l.take j).flatMap (fun y : MSel => selB y.sel) ++ putB x.cases.length ++ x.cases.flatMap casB ++ putB (x.els + 1).toNat) := by
        show _ = _
        rw [hF.out, hB.out]
        simp only [List.append_assoc]
      have hOl : (L ++ putB l.length ++ (l.take j).flatMap (fun y : MSel => selB y.sel)).length + ((putB x.cases.length).length + (x.cases.flatMap casB).length + (putB (x.els + 1).toNat).length) ≤ 1000000000 := by
        simp only [List.length_append]
        omega
      clear hF hB hfl
      generalize L ++ putB l.length ++ (l.take j).flatMap (fun y : MSel => selB y.sel) = O at *
      have cP : Calls Tryz.prog 35 #[vv, .int .u64 (x.cases.length : Int)] (wr.alloc (objS x)) _ := rputn_b (h1.later hbb) (by omega) x.cases.length (by omega)
      clear hxl h1
      go_wp2_with (go_at_call 35; (with_reducible refine cP.mono ?_); rintro e w2 ⟨v2, rfl, h2, hb2⟩)
      have h2' : Bs w2 w.heap.size v2 (O ++ putB x.cases.length) := h2.base (by omega)
      clear h2 cP hix c0 c1 hbl hbb
      generalize hBY : wr.heap.size = BY at *
      generalize wr.alloc (objS x) = W1 at *
      clear hBY
      go_loopw [0, 7] (fun vs u wr => ∃ (q : Nat) (vv : Value), vv = vs ∧ q ≤ x.cases.length ∧ u = .int .i64 q ∧ Bs wr w.heap.size vv (O ++ putB x.cases.length ++ (x.cases.take q).flatMap casB) ∧ Below W1.heap.size W1 wr) (fun _ u _ => x.cases.length - (intOf u).toNat)
      case atStart => exact ⟨0, _, rfl, Nat.zero_le _, rfl, by simpa using h2', hb2⟩
      case round =>
        clear h2' hb2
        obtain ⟨q, vv, rfl, hq, rfl, h2, hb2⟩ := hrel
        obtain ⟨s0, s1⟩ := bS.later hb2
        have hz2 : BY < wr.heap.size := by have := hb2.size; omega
        by_cases hlq : q < x.cases.length
        · obtain ⟨y, hy, hym⟩ := get_lt x.cases q hlq
          obtain ⟨bb, o, hix, hbl, c0, c1, c2, c3⟩ := cas_ix (hxl2.out.later hb2).1 q y hy
          have hqI : (q : Int) < x.cases.length := by omega
          have hfl := take_flat casB x.cases (q + 1)
          rw [take_flat_one casB x.cases q y hy, List.length_append] at hfl
          have hF : Hid ((x.cases.take (q + 1)).flatMap casB = (x.cases.take q).flatMap casB ++ casB y) := take_flat_one casB x.cases q y hy
          have hB : Hid (casB y = flagB y.send ++ (putB y.ch.toNat ++ (putB (y.reg + 1).toNat ++ putB y.to.toNat))) := rfl
          simp only [hB.out, List.length_append] at hfl
          obtain ⟨⟨a1, a2⟩, ⟨a3, a4⟩, a5, a6⟩ := hcs y hym
          have hbb := boxed wr (objC y)
          have bC := boxC_new wr y
          have hO2 : Hid (O ++ putB x.cases.length ++ (x.cases.take (q + 1)).flatMap casB = O ++ putB x.cases.length ++ (x.cases.take q).flatMap casB ++ flagB y.send ++ putB y.ch.toNat ++ putB (y.reg + 1).toNat ++ putB y.to.toNat) := by
            show _ = _
            rw [hF.out, hB.out]
            simp only [List.append_assoc]
          have hOl2 : (O ++ putB x.cases.length ++ (x.cases.take q).flatMap casB).length + ((flagB y.send).length + (putB y.ch.toNat).length + (putB (y.reg + 1).toNat).length + (putB y.to.toNat).length) ≤ 1000000000 := by
            simp only [List.length_append]
            omega
          clear hF hB hfl hcs
          generalize O ++ putB x.cases.length ++ (x.cases.take q).flatMap casB = O2 at *
          have k1 : Calls Tryz.prog 36 #[vv, .bool y.send] (wr.alloc (objC y)) _ := rflag_b (h2.later hbb) (by omega) y.send
          have k2 : ∀ wx lx vx, Bs wx lx vx (O2 ++ flagB y.send) → Calls Tryz.prog 35 #[vx, .int .u64 y.ch] wx _ := fun wx lx vx hx => rput_b hx (by simp only [List.length_append]; omega) y.ch a1 (by omega)
          have k3 : ∀ wx lx vx, Bs wx lx vx (O2 ++ flagB y.send ++ putB y.ch.toNat) → Calls Tryz.prog 35 #[vx, .int .u64 (y.reg + 1)] wx _ := fun wx lx vx hx => rput_b hx (by simp only [List.length_append]; omega) (y.reg + 1) (by omega) (by omega)
          have k4 : ∀ wx lx vx, Bs wx lx vx (O2 ++ flagB y.send ++ putB y.ch.toNat ++ putB (y.reg + 1).toNat) → Calls Tryz.prog 35 #[vx, .int .u64 y.to] wx _ := fun wx lx vx hx => rput_b hx (by simp only [List.length_append]; omega) y.to a5 (by omega)
          clear h2
          have hz3 : wr.heap.size < (wr.alloc (objC y)).heap.size := by simp only [World.size_alloc]; omega
          go_wp2_with (first
            | (go_at_call 36; (with_reducible refine k1.mono ?_); rintro e w3 ⟨v3, rfl, h3, hb3⟩; obtain ⟨d0, d1, d2, d3⟩ := bC.later hb3; (have z3 := hb3.size); (have B3 := bthen hbb hb3))
            | (go_at_call 35; (with_reducible refine (k2 _ _ _ h3).mono ?_); rintro e w4 ⟨v4, rfl, h4, hb4⟩; clear d0 d1 d2 d3; obtain ⟨d0, d1, d2, d3⟩ := (bC.later hb3).later hb4; (have z4 := hb4.size); (have B4 := bthen B3 hb4))
            | (go_at_call 35; (with_reducible refine (k3 _ _ _ h4).mono ?_); rintro e w5 ⟨v5, rfl, h5, hb5⟩; clear d0 d1 d2 d3; obtain ⟨d0, d1, d2, d3⟩ := ((bC.later hb3).later hb4).later hb5; (have z5 := hb5.size); (have B5 := bthen B4 hb5))
            | (go_at_call 35; (with_reducible refine (k4 _ _ _ h5).mono ?_); rintro e w6 ⟨v6, rfl, h6, hb6⟩; (have B6 := bthen B5 hb6)))
          go_roundw
          case rel => exact ⟨q + 1, _, rfl, by omega, by go_num, by rw [hO2.out]; exact h6.base (by have := B5.size; have := hb2.size; omega), bthen hb2 B6⟩
          case measure => simp [intOf]; omega
        · have hq2 : q = x.cases.length := by omega
          subst hq2
          rw [List.take_length] at h2
          have k1 : Calls Tryz.prog 35 #[vv, .int .u64 (x.els + 1)] wr _ := rput_b h2 (by simp only [List.length_append]; omega) (x.els + 1) (by omega) (by omega)
          clear h2
          go_wp2_with (go_at_call 35; (with_reducible refine k1.mono ?_); rintro e w3 ⟨v3, rfl, h3, hb3⟩)
          go_roundw
          case rel => exact ⟨j + 1, _, rfl, by omega, by go_num, by rw [hO.out]; exact h3.base (by have := hb2.size; omega), bthen (bthen hBw.out hb2) hb3⟩
          case measure => simp [intOf]; omega
    · have hj2 : j = l.length := by omega
      subst hj2
      rw [List.take_length] at h1
      go_wp2
      go_ret
      exact ⟨_, rfl, by rw [← List.append_assoc]; exact h1, hb1⟩
end
end Go.Proofs.YtonkcnaijcpfdaaGreatDoor.pg
/- The document's own writer: an instruction. -/
namespace Go.Proofs.YtonkcnaijcpfdaaGreatDoor.pg
open Go.ChangeShapes Go.WideShapes Go.ChangeAt Go.RowKit
set_option linter.unusedVariables false
set_option linter.unusedSimpArgs false
set_option maxRecDepth 100000
section
variable {w : World} {lo : Nat} {v : Value} {L : List Nat}
set_option maxHeartbeats 1000000 in
theorem rinstr_b (h : Bs w lo v L) (i : Ins) (hop : 0 ≤ i.op ∧ i.op ≤ 1000) (hk : known i.op) (hok : ∀ k, k < 4 → opOk i k) (hn : L.length + (insB i).length ≤ 1000000000) : Ap 29 #[v, i.val] w (L ++ insB i) := by
  have hb := boxed w (objI i)
  have bI := boxI_new w i
  have hi0 := insTo_len i 0 (by omega)
  obtain ⟨o1, o2⟩ := hop
  have c1 : Calls Tryz.prog 35 #[v, .int .u64 i.op] (w.alloc (objI i)) _ := rput_b (h.later hb) (by omega) i.op o1 (by omega)
  obtain ⟨S, hFm⟩ : ∃ S, Hid (prog.frm i.op = S) := ⟨_, rfl⟩
  have c2 : ∀ wx, Calls Tryz.prog 46 #[.int .i64 i.op] wx _ := fun wx => prog.refform_any i.op (by omega) (by omega) wx S hFm.out
  have hSx := fun k (h4 : k < 4) => str_ix hFm.out hk k h4
  have hz : w.heap.size < (w.alloc (objI i)).heap.size := by simp only [World.size_alloc]; omega
  unfold Ap
  go_enter Tryz.func29, Tryz.ntmps29
  go_wp2_with (first
    | (go_at_call 35; (with_reducible refine c1.mono ?_); rintro e w1 ⟨v1, rfl, h1, hb1⟩; obtain ⟨p0, p1, p2, p3, p4⟩ := bI.later hb1)
    | (go_at_call 46; (with_reducible refine (c2 _).mono ?_); rintro e w2 ⟨rfl, hw2⟩; replace hw2 := hw2.symm; subst hw2))
  clear p0 p1 p2 p3 p4 c1 c2
  have h1' := h1.base hb.size
  have hB0 : Below (w.alloc (objI i)).heap.size (w.alloc (objI i)) w1 := hb1
  clear h1 hb1
  generalize hW : w.alloc (objI i) = W at *
  clear hW
  go_loopw [0, 6] (fun vs u wr => ∃ (k : Nat) (vv : Value), vv = vs ∧ k ≤ 4 ∧ u = .int .i64 k ∧ Bs wr w.heap.size vv (L ++ insTo i k) ∧ Below W.heap.size W wr) (fun _ u _ => 4 - (intOf u).toNat)
  case atStart => exact ⟨0, _, rfl, Nat.zero_le _, rfl, h1', hB0⟩
  case round =>
    clear h1' hB0
    obtain ⟨k, vv, rfl, hk4, rfl, h1, hb1⟩ := hrel
    obtain ⟨p0, p1, p2, p3, p4⟩ := bI.later hb1
    have hzr : w.heap.size < wr.heap.size := by have := hb1.size; omega
    by_cases hlt : k < 4
    · have cO : Calls Tryz.prog 47 #[i.val, .int .i64 (k : Int)] wr _ := operand_b i k hlt
      have hsx := hSx k hlt
      have hkI : (k : Int) < 4 := by omega
      have hlen := insTo_len i (k + 1) (by omega)
      have hTo : Hid (insTo i (k + 1) = insTo i k ++ opB i.op k (i.x k)) := rfl
      rw [hTo.out, List.length_append] at hlen
      clear hSx
      rcases hok k hlt with h45 | ⟨h111, hx1, hx2⟩ | ⟨h110, hx⟩ | ⟨n45, n111, n110, hx1, hx2⟩
      · have hB : Hid (opB i.op k (i.x k) = []) := by show _ = _; unfold opB; rw [if_pos h45]
        rw [h45] at hsx
        clear hok h45
        go_wp2_with (go_at_call 47; (with_reducible refine cO.mono ?_); rintro e w2 ⟨rfl, hb2⟩)
        go_roundw
        case rel => exact ⟨k + 1, _, rfl, by omega, by go_num, by rw [hTo.out, hB.out, List.append_nil]; exact h1.later hb2, bthen hb1 hb2⟩
        case measure => simp [intOf]; omega
      · have hB : Hid (opB i.op k (i.x k) = putB (i.x k + 1).toNat) := by show _ = _; unfold opB; rw [if_neg (by omega), if_pos h111]
        rw [hB.out] at hlen
        have cc : ∀ wx, Below wr.heap.size wr wx → Calls Tryz.prog 35 #[vv, .int .u64 (i.x k + 1)] wx _ := fun wx hx => rput_b (h1.later hx) (by rw [List.length_append]; omega) (i.x k + 1) (by omega) (by omega)
        rw [h111] at hsx
        clear hok h111 hlen
        generalize i.x k = X at *
        go_wp2_with (first
          | (go_at_call 47; (with_reducible refine cO.mono ?_); rintro e w2 ⟨rfl, hb2⟩)
          | (go_at_call 35; (with_reducible refine (cc _ hb2).mono ?_); rintro e w3 ⟨v3, rfl, h3, hb3⟩))
        go_roundw
        case rel => exact ⟨k + 1, _, rfl, by omega, by go_num, by rw [hTo.out, hB.out, ← List.append_assoc]; exact h3.base (by have := hb2.size; omega), bthen (bthen hb1 hb2) hb3⟩
        case measure => simp [intOf]; omega
      · have hB : Hid (opB i.op k (i.x k) = sgnB (i.x k)) := by show _ = _; unfold opB; rw [if_neg (by omega), if_neg (by omega), if_pos h110]
        rw [hB.out] at hlen
        have cc : ∀ wx, Below wr.heap.size wr wx → Calls Tryz.prog 37 #[vv, .int .i64 (i.x k)] wx _ := fun wx hx' => rputint_b (h1.later hx') (by rw [List.length_append]; omega) (i.x k) hx
        rw [h110] at hsx
        clear hok h110 hlen
        generalize i.x k = X at *
        go_wp2_with (first
          | (go_at_call 47; (with_reducible refine cO.mono ?_); rintro e w2 ⟨rfl, hb2⟩)
          | (go_at_call 37; (with_reducible refine (cc _ hb2).mono ?_); rintro e w3 ⟨v3, rfl, h3, hb3⟩))
        go_roundw
        case rel => exact ⟨k + 1, _, rfl, by omega, by go_num, by rw [hTo.out, hB.out, ← List.append_assoc]; exact h3.base (by have := hb2.size; omega), bthen (bthen hb1 hb2) hb3⟩
        case measure => simp [intOf]; omega
      · have hB : Hid (opB i.op k (i.x k) = putB (i.x k).toNat) := by show _ = _; unfold opB; rw [if_neg n45, if_neg n111, if_neg n110]
        rw [hB.out] at hlen
        have cc : ∀ wx, Below wr.heap.size wr wx → Calls Tryz.prog 35 #[vv, .int .u64 (i.x k)] wx _ := fun wx hx => rput_b (h1.later hx) (by rw [List.length_append]; omega) (i.x k) (by omega) (by omega)
        clear hok hlen
        generalize i.x k = X at *
        generalize lt i.op k = L1 at *
        go_wp2_with (first
          | (go_at_call 47; (with_reducible refine cO.mono ?_); rintro e w2 ⟨rfl, hb2⟩)
          | (go_at_call 35; (with_reducible refine (cc _ hb2).mono ?_); rintro e w3 ⟨v3, rfl, h3, hb3⟩))
        go_roundw
        case rel => exact ⟨k + 1, _, rfl, by omega, by go_num, by rw [hTo.out, hB.out, ← List.append_assoc]; exact h3.base (by have := hb2.size; omega), bthen (bthen hb1 hb2) hb3⟩
        case measure => simp [intOf]; omega
    · have hk2 : k = 4 := by omega
      subst hk2
      clear hSx hok
      go_wp2
      go_ret
      exact ⟨_, rfl, h1, bthen hb hb1⟩
end
end Go.Proofs.YtonkcnaijcpfdaaGreatDoor.pg
