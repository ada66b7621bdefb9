/- A witness is read from its bytes; bytes that are read are its bytes. -/
import Derived.Test.YtikkgfmhnmoalaaM20
namespace Go.Proofs.Ytikkgfmhnmoalaa.pg
open Go.ChangeShapes Go.WideShapes Go.ChangeAt Go.RowKit
set_option linter.unusedVariables false
set_option linter.unusedSimpArgs false
set_option maxRecDepth 100000
/-- Bytes in memory, as they came in. -/
structure BytesL (w : World) (a : Option Addr) (c : Nat) (L : List Nat) : Prop where
  r : Rows w 1 a c (L.map u8c)
  b : Bt L
theorem BytesL.later {w w' : World} {a : Option Addr} {c : Nat} {L : List Nat} (h : BytesL w a c L) (hb : Below w.heap.size w w') : BytesL w' a c L := ⟨h.r.later hb, h.b⟩
theorem BytesL.row {w : World} {a : Option Addr} {c : Nat} {L : List Nat} (h : BytesL w a c L) : octet.Row w a L.length (fl L) := rows_row h.r h.b
theorem BytesL.len {w : World} {a : Option Addr} {c : Nat} {L : List Nat} (h : BytesL w a c L) : L.length ≤ c := by have := h.r.1; rwa [List.length_map] at this
theorem BytesL.cap {w : World} {a : Option Addr} {c : Nat} {L : List Nat} (h : BytesL w a c L) : (c : Int) ≤ 9223372036854775807 := by have := h.r.2.1; omega
section
variable {H : Type} {enc : TypeId × Value → H} {w : World} {base : Nat} {spare : Nat → Bool} {held : Bool}
theorem u8_inW {P : Program} {t : TypeId} (ht : P.underlying t = some (.int .u8)) {n : Nat} {v : Value} {y : DataW H × List MemPlace} (h : DataW.trod enc P w base spare held n t [v] = some y) : ∃ z : Nat, v = .int .u8 (z : Int) ∧ z < 256 := by
  obtain ⟨z, e, _, b⟩ := DataW.trod_int ht h
  simp only [List.cons.injEq, and_true] at e
  have b2 : 0 ≤ z ∧ z ≤ 255 := by simpa [Lit.wf, IntKind.min, IntKind.max, IntKind.bits, IntKind.signed] using b
  refine ⟨z.toNat, ?_, by omega⟩
  rw [e, Int.toNat_of_nonneg b2.1]
theorem bytes_arg {n : Nat} {a : Option Addr} {len c : Nat} {y : DataW H × List MemPlace} (h : DataW.trod enc Try.prog w base spare held n 32 [.slice a len c] = some y) : ∃ L : List Nat, L.length = len ∧ BytesL w a c L := by
  obtain ⟨l, hl, hr, hq⟩ := rows_in (k := 1) (0 : Nat) u8c (fun x => x < 256) Try.underlying32 (by kernel_rfl) (by omega) (fun n cs y hl h => by
    match cs, hl, h with
    | [v], _, h =>
      obtain ⟨z, rfl, hz⟩ := u8_inW Try.underlying5 h
      exact ⟨z, rfl, hz⟩) h
  exact ⟨l, hl, hr, hq⟩
end
abbrev wiA (M : Wi) (pa : Option Addr) (pc : Nat) : Array Value := #[.int .u32 M.s, .int .i64 M.kd, .int .i64 M.af, .int .i64 M.ap, .int .i64 M.bf, .int .i64 M.bp, .int .i64 M.nm, .int .i64 M.wy, .slice pa M.pk.length pc, .int .i64 M.st, .int .i64 M.fu, .int .i64 M.ru]
/-- What Read answers of bytes: nothing, with what is wrong, or a right witness whose bytes they are. -/
theorem read_all (L : List Nat) (a : Option Addr) (c : Nat) (w : World) (h : BytesL w a c L) : Calls Try.prog 11 #[.slice a L.length c] w fun e w' => Below w.heap.size w w' ∧ ((∃ x y : Int, x ≠ 0 ∧ e = .returned (.tuple #[.agg zeA, .int .i64 x, .int .i64 y])) ∨ ∃ (M : Wi) (pa : Option Addr) (pc : Nat), e = .returned (.tuple #[.agg (wiA M pa pc), .int .i64 0, .int .i64 0]) ∧ OwnL w' w.heap.size 66 2 pa pc (M.pk.map pkC) ∧ M.ok = true ∧ 0 ≤ M.s ∧ M.s < 4294967296 ∧ M.bytes = L) := by
  by_cases hu : (unfP (fl L) L.length).1 = 0
  · refine (read_fit a L.length c (fl L) w h.row h.len h.cap hu).mono ?_
    rintro e w' ⟨hb, h1, h2⟩
    refine ⟨hb, ?_⟩
    by_cases hE : (rdE (fl L) L.length).1 = 0
    · obtain ⟨pk, pa, pc, rfl, ho, hpk⟩ := h2 hE
      obtain ⟨q1, q2, q3, q4⟩ := canon_pure L h.b hu hE pk hpk
      exact .inr ⟨_, pa, pc, rfl, ho, q1, q2, q3, q4⟩
    · exact .inl ⟨_, _, hE, h1 hE⟩
  · refine (read_unfit a L.length c (fl L) w h.row h.len h.cap hu).mono ?_
    rintro e w' ⟨rfl, hb⟩
    exact ⟨hb, .inl ⟨_, _, hu, rfl⟩⟩
theorem own_bytes {w : World} {lo : Nat} {va : Option Addr} {vc : Nat} {L : List Nat} (h : OwnL w lo 5 1 va vc (L.map u8c)) (hb : Bt L) : BytesL w va vc L := ⟨own_rows h (u8_len _), hb⟩
theorem own_blkW {w : World} {lo e k : Nat} {a : Option Addr} {cap : Nat} {L : List (List Value)} (h : OwnL w lo e k a cap L) : ∀ b ∈ blk a, b < w.heap.size := fun b hb => by
  obtain ⟨cur, hc⟩ := tag_ownW h hb
  exact (Array.getElem?_eq_some_iff.mp hc).1
theorem same_bytes (L : List Nat) (a b : Option Addr) (c d : Nat) (w : World) (h1 : BytesL w a c L) (h2 : BytesL w b d L) : Calls Try.prog 9 #[.slice a L.length c, .slice b L.length d] w fun e w' => e = .returned (.bool true) ∧ w' = w :=
  octet.same_any a b _ _ c d _ _ w h1.row h2.row true ((octet.sameB_iff _ _ _ _ (fl_lt h1.b) (fl_lt h2.b)).mpr ⟨rfl, fun _ _ => rfl⟩)
section
variable {w : World}
set_option maxHeartbeats 8000000 in
theorem back_bad (M : Wi) (pa : Option Addr) (pc : Nat) (L : List Nat) (a : Option Addr) (c : Nat) (hin : WitIn w M pa pc) (hL : BytesL w a c L) (hok : M.ok = false) : Calls Try.prog 5 #[.agg (M.cells pa pc).toArray, .slice a L.length c] w fun e w' => e = .returned (.bool true) ∧ Below w.heap.size w w' := by
  have hb := boxed w (objWi M pa pc)
  have hz : Hid ((w.alloc (objWi M pa pc)).heap[w.heap.size]? = some (objWi M pa pc)) := heap_alloc_new _ _
  have huW : Hid (Try.prog.underlying 31 = _) := Try.underlying31
  have hiC : Hid ((Try.prog.info? 31).map (·.size) = some (M.cells pa pc).toArray.size) := infoW12
  have hinH : Hid (∀ wx, Below w.heap.size w wx → Rows wx 2 pa pc (M.pk.map pkC)) := fun wx h => hin.r.later h
  have cW := write_bad M pa pc (w.alloc (objWi M pa pc)) (hinH.out _ hb) (hin.b.imp_left fun h b q => by have := h b q; have := hb.size; omega) hok
  have cR : ∀ wx, Below w.heap.size w wx → Calls Try.prog 14 #[.agg (M.cells pa pc).toArray] wx fun e w' => e = .returned (.bool false) ∧ Below wx.heap.size wx w' := fun wx h => by
    have := rrightW_any M pa pc wx (hinH.out wx h) hin.v
    rwa [hok] at this
  have hLH : Hid (∀ wx, Below w.heap.size w wx → BytesL wx a c L) := fun wx h => hL.later h
  have cD : ∀ wx, Below w.heap.size w wx → Calls Try.prog 11 #[.slice a L.length c] wx _ := fun wx h => read_all L a c wx (hL.later h)
  have cS : ∀ wx, Calls Try.prog 10 #[] wx _ := fun wx => smallW_any wx
  clear hin hinH hok hL
  go_enter Try.func5, Try.ntmps5
  go_wp2_with (first
    | (refine wpList_load_row rfl 31 _ rfl w.heap.size rfl _ _ _ _ hz.out huW.out rfl hiC.out ?_)
    | (refine wpList_load_row rfl 31 _ rfl w.heap.size rfl _ _ _ _ hz1.out huW.out rfl hiC.out ?_)
    | (go_at_call 7; (with_reducible refine cW.mono ?_); rintro e w1 ⟨rfl, hb1⟩; (have hB1 := bthen hb hb1); (have hz1 : Hid (w1.heap[w.heap.size]? = some (objWi M pa pc)) := (hb1.block _ (by rw [World.size_alloc]; omega)).trans hz.out))
    | (go_at_call 14; (with_reducible refine (cR _ hB1).mono ?_); rintro e w2 ⟨rfl, hb2⟩; (have hBR : Hid (Below w.heap.size w w2) := bthen hB1 hb2)))
  go_at_call 11
  refine (cD _ hBR.out).mono ?_
  rintro e w6 ⟨hb6, hD⟩
  have hB6 := bthen hBR.out hb6
  clear cW cR hz huW hiC hBR
  rcases hD with ⟨x, y, hx, rfl⟩ | ⟨M2, pb, pd, rfl, ho2, ok2, s2, t2, e2⟩
  · have hx2 : (x == 0) = false := by simpa using hx
    have hx3 : (x != 0) = true := by simpa using hx
    have hB7 : Hid (Below w.heap.size w (w6.alloc (.cells zeA 31))) := bthen hB6 (boxed _ _)
    clear hB6
    go_wp2_with (first
      | (go_at_call 10; (with_reducible refine (cS _).mono ?_); rintro e w8 ⟨rfl, hb8⟩))
    go_ret
    exact ⟨rfl, bthen hB7.out hb8⟩
  · have hB7 : Hid (Below w.heap.size w (w6.alloc (.cells (wiA M2 pb pd) 31))) := bthen hB6 (boxed _ _)
    have cW2 : ∀ wx, Below w6.heap.size w6 wx → Calls Try.prog 7 #[.agg (wiA M2 pb pd)] wx fun e w' => ∃ va vc, e = .returned (.tuple #[.slice va L.length vc, .int .i64 0]) ∧ OwnL w' wx.heap.size 5 1 va vc (L.map u8c) ∧ Below wx.heap.size wx w' := fun wx h => by
      have := write_ok M2 pb pd wx ((own_rows ho2 (pk_len _)).later h) (.inl fun b hb => Nat.lt_of_lt_of_le (own_blkW ho2 b hb) h.size) s2 t2 ok2
      rw [e2] at this
      exact this
    have l1 := heap_alloc_new w6 (.cells (wiA M2 pb pd) 31)
    obtain ⟨k0, k1, k2, k3, k4, k5, k6, k7, k8, k9, k10, k11⟩ := cells12 l1
    have hbt : Hid (Bt L) := (hLH.out _ hB6).b
    have hb7 := boxed w6 (.cells (wiA M2 pb pd) 31)
    clear hB6 l1 ho2 ok2
    go_wp2_with (first
      | (go_at_call 7; (with_reducible refine (cW2 _ hb7).mono ?_); rintro e w8 ⟨va, vc, rfl, ho8, hb8⟩; (have hB8 := bthen hB7.out hb8); (have cZ := same_bytes L va a vc c w8 (own_bytes ho8 hbt.out) (hLH.out _ hB8)))
      | (go_at_call 9; (with_reducible refine cZ.mono ?_); rintro e w9 ⟨rfl, rfl⟩))
    go_ret
    exact ⟨rfl, hB8⟩
set_option maxHeartbeats 8000000 in
theorem back_ok (M : Wi) (pa : Option Addr) (pc : Nat) (L : List Nat) (a : Option Addr) (c : Nat) (hin : WitIn w M pa pc) (hL : BytesL w a c L) (hok : M.ok = true) : Calls Try.prog 5 #[.agg (M.cells pa pc).toArray, .slice a L.length c] w fun e w' => e = .returned (.bool true) ∧ Below w.heap.size w w' := by
  have hb := boxed w (objWi M pa pc)
  have hz : Hid ((w.alloc (objWi M pa pc)).heap[w.heap.size]? = some (objWi M pa pc)) := heap_alloc_new _ _
  have huW : Hid (Try.prog.underlying 31 = _) := Try.underlying31
  have hiC : Hid ((Try.prog.info? 31).map (·.size) = some (M.cells pa pc).toArray.size) := infoW12
  have hinH : Hid (∀ wx, Below w.heap.size w wx → Rows wx 2 pa pc (M.pk.map pkC)) := fun wx h => hin.r.later h
  obtain ⟨n, hn⟩ : ∃ n, Hid (M.bytes.length = n) := ⟨_, rfl⟩
  have cW := write_ok M pa pc (w.alloc (objWi M pa pc)) (hinH.out _ hb) (hin.b.imp_left fun h b q => by have := h b q; have := hb.size; omega) hin.s0 hin.s1 hok
  rw [hn.out] at cW
  have cR : ∀ wx, Below w.heap.size w wx → Calls Try.prog 14 #[.agg (M.cells pa pc).toArray] wx fun e w' => e = .returned (.bool true) ∧ Below wx.heap.size wx w' := fun wx h => by
    have := rrightW_any M pa pc wx (hinH.out wx h) hin.v
    rwa [hok] at this
  have cA : ∀ va vc wx, Rows wx 1 va vc (M.bytes.map u8c) → Calls Try.prog 11 #[.slice va n vc] wx fun e w' => Below wx.heap.size wx w' ∧ ∃ pb pd, e = .returned (.tuple #[.agg (wiA M pb pd), .int .i64 0, .int .i64 0]) ∧ OwnL w' wx.heap.size 66 2 pb pd (M.pk.map pkC) := fun va vc wx h => by
    have := read_of M hin.s0 hin.s1 hok va vc wx h
    rw [hn.out] at this
    exact this
  have cE : ∀ pb pd wx, Below w.heap.size w wx → Rows wx 2 pb pd (M.pk.map pkC) → Calls Try.prog 13 #[.agg (wiA M pa pc), .agg (wiA M pb pd)] wx fun e w' => e = .returned (.bool true) ∧ Below wx.heap.size wx w' := fun pb pd wx h h2 => sameW_any M _ _ _ _ wx (hinH.out wx h) h2
  have hLH : Hid (∀ wx, Below w.heap.size w wx → BytesL wx a c L) := fun wx h => hL.later h
  have cD : ∀ wx, Below w.heap.size w wx → Calls Try.prog 11 #[.slice a L.length c] wx _ := fun wx h => read_all L a c wx (hL.later h)
  have cS : ∀ wx, Calls Try.prog 10 #[] wx _ := fun wx => smallW_any wx
  clear hin hinH hok hL
  go_enter Try.func5, Try.ntmps5
  go_wp2_with (first
    | (refine wpList_load_row rfl 31 _ rfl w.heap.size rfl _ _ _ _ hz.out huW.out rfl hiC.out ?_)
    | (refine wpList_load_row rfl 31 _ rfl w.heap.size rfl _ _ _ _ hz1.out huW.out rfl hiC.out ?_)
    | (go_at_call 7; (with_reducible refine cW.mono ?_); rintro e w1 ⟨va, vc, rfl, ho1, hb1⟩; (have hB1 := bthen hb hb1); (have hz1 : Hid (w1.heap[w.heap.size]? = some (objWi M pa pc)) := (hb1.block _ (by rw [World.size_alloc]; omega)).trans hz.out))
    | (go_at_call 14; (with_reducible refine (cR _ hB1).mono ?_); rintro e w2 ⟨rfl, hb2⟩; (have hB2 := bthen hB1 hb2); (have hr2 := (own_rows ho1 (u8_len _)).later hb2))
    | (go_at_call 11; (with_reducible refine (cA va vc _ hr2).mono ?_); rintro e w3 ⟨hb3, pb, pd, rfl, ho3⟩; (have hB3 := bthen hB2 hb3);
        (have hA := boxed w3 (.cells (wiA M pb pd) 31)); (have B3 := bthen hB3 hA);
        (have l1 : Hid ((w3.alloc (.cells (wiA M pb pd) 31)).heap[w.heap.size]? = some (.cells (wiA M pa pc) 31)) := ((bthen (bthen hb2 hb3) hA).block _ (Array.getElem?_eq_some_iff.mp hz1.out).1).trans hz1.out);
        (have l2 := heap_alloc_new w3 (.cells (wiA M pb pd) 31));
        (obtain ⟨k0, k1, k2, k3, k4, k5, k6, k7, k8, k9, k10, k11⟩ := cells12 l1.out); (obtain ⟨j0, j1, j2, j3, j4, j5, j6, j7, j8, j9, j10, j11⟩ := cells12 l2); (have r3 := (own_rows ho3 (pk_len _)).later hA); clear l2 cA)
    | (go_at_call 13; (with_reducible refine (cE pb pd _ B3 r3).mono ?_); rintro e w4 ⟨rfl, hb4⟩; (have hBR : Hid (Below w.heap.size w w4) := bthen B3 hb4); clear k0 k1 k2 k3 k4 k5 k6 k7 k8 k9 k10 k11 j0 j1 j2 j3 j4 j5 j6 j7 j8 j9 j10 j11))
  go_at_call 11
  refine (cD _ hBR.out).mono ?_
  rintro e w6 ⟨hb6, hD⟩
  have hB6 := bthen hBR.out hb6
  clear cW cR hz huW hiC hBR
  rcases hD with ⟨x, y, hx, rfl⟩ | ⟨M2, pb, pd, rfl, ho2, ok2, s2, t2, e2⟩
  · have hx2 : (x == 0) = false := by simpa using hx
    have hx3 : (x != 0) = true := by simpa using hx
    have hB7 : Hid (Below w.heap.size w (w6.alloc (.cells zeA 31))) := bthen hB6 (boxed _ _)
    clear hB6
    go_wp2_with (first
      | (go_at_call 10; (with_reducible refine (cS _).mono ?_); rintro e w8 ⟨rfl, hb8⟩))
    go_ret
    exact ⟨rfl, bthen hB7.out hb8⟩
  · have hB7 : Hid (Below w.heap.size w (w6.alloc (.cells (wiA M2 pb pd) 31))) := bthen hB6 (boxed _ _)
    have cW2 : ∀ wx, Below w6.heap.size w6 wx → Calls Try.prog 7 #[.agg (wiA M2 pb pd)] wx fun e w' => ∃ va vc, e = .returned (.tuple #[.slice va L.length vc, .int .i64 0]) ∧ OwnL w' wx.heap.size 5 1 va vc (L.map u8c) ∧ Below wx.heap.size wx w' := fun wx h => by
      have := write_ok M2 pb pd wx ((own_rows ho2 (pk_len _)).later h) (.inl fun b hb => Nat.lt_of_lt_of_le (own_blkW ho2 b hb) h.size) s2 t2 ok2
      rw [e2] at this
      exact this
    have l1 := heap_alloc_new w6 (.cells (wiA M2 pb pd) 31)
    obtain ⟨k0, k1, k2, k3, k4, k5, k6, k7, k8, k9, k10, k11⟩ := cells12 l1
    have hbt : Hid (Bt L) := (hLH.out _ hB6).b
    have hb7 := boxed w6 (.cells (wiA M2 pb pd) 31)
    clear hB6 l1 ho2 ok2
    go_wp2_with (first
      | (go_at_call 7; (with_reducible refine (cW2 _ hb7).mono ?_); rintro e w8 ⟨va, vc, rfl, ho8, hb8⟩; (have hB8 := bthen hB7.out hb8); (have cZ := same_bytes L va a vc c w8 (own_bytes ho8 hbt.out) (hLH.out _ hB8)))
      | (go_at_call 9; (with_reducible refine cZ.mono ?_); rintro e w9 ⟨rfl, rfl⟩))
    go_ret
    exact ⟨rfl, hB8⟩
end
theorem back_row (M : Wi) (pa : Option Addr) (pc : Nat) (L : List Nat) (a : Option Addr) (c : Nat) (w : World) (hin : WitIn w M pa pc) (hL : BytesL w a c L) : Calls Try.prog 5 #[.agg (M.cells pa pc).toArray, .slice a L.length c] w fun e w' => e = .returned (.bool true) ∧ Below w.heap.size w w' := by
  rcases Bool.eq_false_or_eq_true M.ok with hok | hok
  · exact back_ok M pa pc L a c hin hL hok
  · exact back_bad M pa pc L a c hin hL hok
end Go.Proofs.Ytikkgfmhnmoalaa.pg

